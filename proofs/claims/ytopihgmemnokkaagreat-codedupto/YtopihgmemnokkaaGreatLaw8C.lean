import Derived.Test.YtopihgmemnokkaaGreatLaw5C
import Derived.Test.YtopihgmemnokkaaGreatRefC3C
namespace Go.Proofs.YtopihgmemnokkaaGreat
open Go.RowKit

theorem SRow.own {w : World} {g : Nat} {t : Nat → ByteArray} (h : SRow w g t) {base : Nat} (hb : base ≤ g) : w.ownsRow base 9 1 (.slice (some ⟨g, 0, none⟩) 256 256) 256 (rowS t).toList := by
  refine ⟨by rw [Array.length_toList, size_rowS], .inr ⟨g, 256, rowS t, rfl, hb, h, Nat.le_refl _, by decide, by rw [size_rowS], ?_⟩⟩
  rw [List.take_of_length_le]
  rw [Array.length_toList, size_rowS]; decide
theorem SRow.reads {w : World} {g : Nat} {t : Nat → ByteArray} (h : SRow w g t) : ReadsS w (.slice (some ⟨g, 0, none⟩) 256 256) 256 t :=
  .inr ⟨g, 256, rfl, fun _ hk => h.cell hk⟩

set_option maxRecDepth 100000 in
set_option maxHeartbeats 2000000 in
theorem turns2_codes (B0 wb : Nat) (xv rv : Value) (FX : Nat → Prop) (X : World → Prop) (N : Nat) (w : World) (L : LX B0 wb xv rv FX X N w) (hB : B0 ≤ w.heap.size) (hN : N ≤ 5000000) (A B C : Int) (s : ByteArray) :
    Calls Tryz.prog 21 #[.pointer (some ⟨wb, 0, none⟩), .agg #[.int .i64 7, .int .i64 A, .int .i64 B, .int .i64 C, .string s]] w fun e w' => e = .returned (.bool true) ∧ LX B0 wb xv rv FX X (N + 4) w' ∧ Below B0 w w' := by
  have hbx := fun w' hb => box_cell w 7 A B C s (w' := w') hb 4
  simp only [List.getElem?_toArray, List.getElem?_cons_succ, List.getElem?_cons_zero] at hbx
  have hW : Below B0 w (w.alloc (opBox 7 A B C s)) := (Below.refl _ _).alloc (by omega) _
  have hL0 : LX B0 wb xv rv FX X N (w.alloc (opBox 7 A B C s)) := L.below ((Below.refl _ _).alloc (Nat.le_refl _) _)
  have hsz : (w.alloc (opBox 7 A B C s)).heap.size = w.heap.size + 1 := by simp
  clear L
  by_cases hs : s.size ≤ 1000
  · go_enter Tryz.func21, Tryz.ntmps21
    go_wp2_with fail
    obtain ⟨W0, hW0⟩ : ∃ W0, W0 = w.alloc (opBox 7 A B C s) := ⟨_, rfl⟩
    rw [← hW0] at hbx hW hL0 hsz ⊢
    clear hW0
    refine (codes_any2 s W0 hs).mono ?_
    rintro e w1 ⟨G, g, n, rfl, hR, hC, hD, hn, hn2, hg, hB1⟩
    have c4 := hbx w1 (hsz ▸ hB1)
    have hz1 := hB1.size
    have HN : Hid (n = ac (fun c => (bl (G c)).length) s s.size) := by show _ = _; rw [hn, sm_cat, cl_ac]
    have HC : Hid (CodesOf (cntB s s.size) G) := hC
    have HD : Hid (Codes (cntB s s.size) (fun c => bl (G c))) := hD
    have HR : Hid (SRow w1 g (fun c => tx (bl (G c)))) := hR
    clear hC hD hR hn
    go_wp2_with fail
    refine (refCodes_any s G w1 hs HC.out HD.out).mono ?_
    rintro e w2 ⟨g2, rfl, hS2, hg2, hB2⟩
    rw [← HN.out]
    have hz2 := hB2.size
    have HS2 : Hid (SRow w2 g2 (fun c => tx (bl (G c)))) := hS2
    clear hS2 HC HD HN
    go_wp2_with fail
    have hr1 := (HR.out.below hB2).reads
    refine (sameTexts_any _ _ 256 _ w2 hr1 HS2.out.reads (by omega)).mono ?_
    rintro e w3 ⟨rfl, hS3⟩
    have hz3 := hS3.size
    clear hr1 c4
    go_wp2_with fail
    have hl3 := own_keep (own_keep (HR.out.own hg) (Kept.of_below hB2 (Nat.le_refl _) (fun _ => False)) (fun _ _ h => h)) hS3 (fun _ _ h => h)
    have hb3 : Below W0.heap.size W0 w3 := (hB1.trans (hB2.mono hz1)).trans (still_below hS3 _ (by omega))
    refine (keepTexts_lx B0 wb xv rv FX X N W0 w3 hL0 hb3 _ 256 _ hl3 (by omega) hN (by omega)).mono ?_
    rintro e w4 ⟨rfl, hL4, hB4⟩
    have hnn : ((n : Int) == (n : Int)) = true := by simp
    go_wp2_with fail
    refine (num_any 0 _).mono ?_
    rintro e w5 ⟨rfl, rfl⟩
    go_wp2
    go_ret
    exact ⟨rfl, hL4, (hW.trans (hb3.mono (by omega))).trans hB4⟩
  · go_enter Tryz.func21, Tryz.ntmps21
    go_wp2_with fail
    obtain ⟨W0, hW0⟩ : ∃ W0, W0 = w.alloc (opBox 7 A B C s) := ⟨_, rfl⟩
    rw [← hW0] at hbx hW hL0 hsz ⊢
    clear hW0
    refine (codes_long s W0 (by omega)).mono ?_
    rintro e w1 ⟨rfl, rfl⟩
    have c4 := hbx w1 (Below.refl _ _)
    go_wp2_with fail
    refine (refCodes_long s w1 (by omega)).mono ?_
    rintro e w2 ⟨rfl, rfl⟩
    go_wp2_with fail
    refine (sameTexts_any _ _ 0 (fun _ => ByteArray.empty) w2 (.inl ⟨rfl, rfl⟩) (.inl ⟨rfl, rfl⟩) (by omega)).mono ?_
    rintro e w3 ⟨rfl, hS3⟩
    have hz3 := hS3.size
    clear c4
    go_wp2_with fail
    have hb3 : Below w2.heap.size w2 w3 := still_below hS3 _ (by omega)
    refine (keepTexts_lx B0 wb xv rv FX X N w2 w3 hL0 hb3 _ 0 [] (World.ownsRow_nil _ _ _ _) (by omega) hN (by omega)).mono ?_
    rintro e w4 ⟨rfl, hL4, hB4⟩
    go_wp2_with fail
    refine (num_any 1 _).mono ?_
    rintro e w5 ⟨rfl, rfl⟩
    go_wp2
    go_ret
    exact ⟨rfl, hL4, (hW.trans (hb3.mono (by omega))).trans hB4⟩

end Go.Proofs.YtopihgmemnokkaaGreat

namespace Go.Proofs.YtopihgmemnokkaaGreat
open Go.RowKit

set_option maxRecDepth 100000 in
set_option maxHeartbeats 4000000 in
theorem step2_any (B0 wb : Nat) (rv : Value) (FX : Nat → Prop) (X : World → Prop) (N : Nat) (w : World) (L : LX B0 wb (.slice none 0 0) rv FX X N w) (hB : B0 ≤ w.heap.size) (hN : N ≤ 5000000) (K A B C : Int) (s : ByteArray) (hK : K ≤ 7)
    (hs : s.size ≤ 1099511627776) (hC1 : -9223372036854775808 ≤ C) (hC2 : C ≤ 9223372036854775807) (hA1 : -9223372036854775808 ≤ A) (hA2 : A ≤ 9223372036854775807) :
    Calls Tryz.prog 10 #[.pointer (some ⟨wb, 0, none⟩), .agg #[.int .i64 K, .int .i64 A, .int .i64 B, .int .i64 C, .string s]] w fun e w' => e = .returned (.bool true) ∧ LX B0 wb (.slice none 0 0) rv FX X (N + 4) w' ∧ Below B0 w w' := by
  have hW : Below B0 w (w.alloc (opBox K A B C s)) := (Below.refl _ _).alloc (by omega) _
  have hL0 : LX B0 wb (.slice none 0 0) rv FX X N (w.alloc (opBox K A B C s)) := L.below ((Below.refl _ _).alloc (Nat.le_refl _) _)
  have hsz : (w.alloc (opBox K A B C s)).heap.size = w.heap.size + 1 := by simp
  by_cases hlow : K < 1
  · have d1 : decide ((1 : Int) ≤ K) = false := decide_eq_false (by omega)
    have d2 : (K == 7) = false := by simp; omega
    have d3 : decide ((4 : Int) ≤ K) = false := decide_eq_false (by omega)
    have d4 : (K == 8) = false := by simp; omega
    have d5 : (K == 14) = false := by simp; omega
    obtain ⟨bv, qv, lv, tv, mv, dv, ls, ts, ms, ds, its, h1, h2⟩ := hL0
    have c2 := h1.wd.cell 2
    simp only [List.getElem?_toArray, List.getElem?_cons_succ, List.getElem?_cons_zero] at c2
    have HL : Hid (LX B0 wb (.slice none 0 0) rv FX X N (w.alloc (opBox K A B C s))) := ⟨bv, qv, lv, tv, mv, dv, ls, ts, ms, ds, its, h1, h2⟩
    clear h1 h2
    go_enter Tryz.func10, Tryz.ntmps10
    go_wp2
    go_ret
    exact ⟨rfl, HL.out.mono (by omega), hW⟩
  · have hcs : K = 1 ∨ K = 2 ∨ K = 3 ∨ K = 4 ∨ K = 5 ∨ K = 6 ∨ K = 7 := by omega
    rcases hcs with e | e | e | e | e | e | e
    · subst e
      go_enter Tryz.func10, Tryz.ntmps10
      go_wp2_with fail
      refine (turns2_suffixes B0 wb _ rv FX X N _ hL0 (by omega) hN A B C s).mono ?_
      rintro e w1 ⟨rfl, hL1, hB1⟩
      go_wp2
      go_ret
      exact ⟨rfl, hL1, hW.trans hB1⟩
    · subst e
      go_enter Tryz.func10, Tryz.ntmps10
      go_wp2_with fail
      refine (turns2_transform B0 wb _ rv FX X N _ hL0 (by omega) A B C s).mono ?_
      rintro e w1 ⟨rfl, hL1, hB1⟩
      go_wp2
      go_ret
      exact ⟨rfl, hL1.mono (by omega), hW.trans hB1⟩
    · subst e
      go_enter Tryz.func10, Tryz.ntmps10
      go_wp2_with fail
      refine (turns2_restore B0 wb _ rv FX X N _ hL0 (by omega) A B C s).mono ?_
      rintro e w1 ⟨rfl, hL1, hB1⟩
      go_wp2
      go_ret
      exact ⟨rfl, hL1.mono (by omega), hW.trans hB1⟩
    · subst e
      go_enter Tryz.func10, Tryz.ntmps10
      go_wp2_with fail
      refine (bits_new B0 wb _ rv FX X N _ hL0 (by omega) hN A B C s hs).mono ?_
      rintro e w1 ⟨rfl, hL1, hB1⟩
      go_wp2
      go_ret
      exact ⟨rfl, hL1.mono (by omega), hW.trans hB1⟩
    · subst e
      go_enter Tryz.func10, Tryz.ntmps10
      go_wp2_with fail
      refine (bits_rank B0 wb _ rv FX X N _ hL0 (by omega) hN A B C s hC1 hC2).mono ?_
      rintro e w1 ⟨rfl, hL1, hB1⟩
      go_wp2
      go_ret
      exact ⟨rfl, hL1.mono (by omega), hW.trans hB1⟩
    · subst e
      go_enter Tryz.func10, Tryz.ntmps10
      go_wp2_with fail
      refine (bits_select B0 wb _ rv FX X N _ hL0 (by omega) hN A B C s hC1 hC2 hA1 hA2).mono ?_
      rintro e w1 ⟨rfl, hL1, hB1⟩
      go_wp2
      go_ret
      exact ⟨rfl, hL1.mono (by omega), hW.trans hB1⟩
    · subst e
      go_enter Tryz.func10, Tryz.ntmps10
      go_wp2_with fail
      refine (turns2_codes B0 wb _ rv FX X N _ hL0 (by omega) hN A B C s).mono ?_
      rintro e w1 ⟨rfl, hL1, hB1⟩
      go_wp2
      go_ret
      exact ⟨rfl, hL1, hW.trans hB1⟩

end Go.Proofs.YtopihgmemnokkaaGreat

namespace Go.Proofs.YtopihgmemnokkaaGreat
open Go.RowKit

/-- a script: a slice of steps, in old memory; its numbers and texts in their bounds -/
structure Script2 (w : World) (v : Value) (n : Nat) : Prop where
  of : (v = .slice none 0 0 ∧ n = 0) ∨ ∃ a cap, v = .slice (some a) n cap ∧ n ≤ cap ∧ ∀ i, i < n → ∃ (K A B C : Int) (s : ByteArray),
    w.cell? (a.add (i * 5)) = some (.int .i64 K) ∧ w.cell? ((a.add (i * 5)).add 1) = some (.int .i64 A) ∧ w.cell? ((a.add (i * 5)).add 2) = some (.int .i64 B) ∧ w.cell? ((a.add (i * 5)).add 3) = some (.int .i64 C) ∧ w.cell? ((a.add (i * 5)).add 4) = some (.string s) ∧
    s.size ≤ 1099511627776 ∧ (-9223372036854775808 ≤ C ∧ C ≤ 9223372036854775807) ∧ (-9223372036854775808 ≤ A ∧ A ≤ 9223372036854775807) ∧ (-9223372036854775808 ≤ B ∧ B ≤ 9223372036854775807)

theorem addPos (z : Addr) {k : Nat} (hk : k ≠ 0) : z.add k = ⟨z.block, z.off + k, none⟩ := by unfold Addr.add; rw [if_neg hk]
theorem addBlock (a : Addr) (n : Nat) : (a.add n).block = a.block := by unfold Addr.add; split <;> rfl

theorem Script2.below {w w' : World} {v : Value} {n B : Nat} (h : Script2 w v n) (hb : Below B w w') (hlow : ∀ a, v.ownBlock = some a → 0 < n → a < B) : Script2 w' v n := by
  refine ⟨?_⟩
  rcases h.of with h0 | ⟨a, cap, rfl, h1, h2⟩
  · exact .inl h0
  · refine .inr ⟨a, cap, rfl, h1, fun i hi => ?_⟩
    have hab := hlow a.block rfl (by omega)
    obtain ⟨K, A, B', C, s, k0, k1, k2, k3, k4, h⟩ := h2 i hi
    exact ⟨K, A, B', C, s, (hb.cell (by rw [addBlock]; exact hab)).trans k0, (hb.cell (by rw [addBlock, addBlock]; exact hab)).trans k1, (hb.cell (by rw [addBlock, addBlock]; exact hab)).trans k2,
      (hb.cell (by rw [addBlock, addBlock]; exact hab)).trans k3, (hb.cell (by rw [addBlock, addBlock]; exact hab)).trans k4, h⟩

set_option maxRecDepth 100000 in
set_option maxHeartbeats 2000000 in
theorem play2_any (B0 wb : Nat) (rv : Value) (FX : Nat → Prop) (X : World → Prop) (N : Nat) (v : Value) (n : Nat) (w : World) (L : LX B0 wb (.slice none 0 0) rv FX X N w) (hB : B0 ≤ w.heap.size) (hS : Script2 w v n) (hlow : ∀ a, v.ownBlock = some a → 0 < n → a < B0) (hN : N + 4 * n ≤ 4900000) :
    Calls Tryz.prog 11 #[.pointer (some ⟨wb, 0, none⟩), v, .int .i64 7] w fun e w' => e = .returned (.bool true) ∧ Below B0 w w' := by
  obtain ⟨va, vc, hv⟩ : ∃ va vc, v = .slice va n vc := by
    rcases hS.of with ⟨rfl, rfl⟩ | ⟨a, cap, rfl, _⟩
    · exact ⟨_, _, rfl⟩
    · exact ⟨_, _, rfl⟩
  subst hv
  go_enter Tryz.func11, Tryz.ntmps11
  go_wp2
  go_loopw [7, 8, 9] (fun i _ _ wr => ∃ p : Nat, p ≤ n ∧ i = .int .i64 p ∧ LX B0 wb (.slice none 0 0) rv FX X (N + 4 * p) wr ∧ Below B0 w wr) (fun i _ _ _ => n - (intOf i).toNat)
  case atStart => exact ⟨0, by omega, rfl, L, Below.refl _ _⟩
  case round =>
    clear L
    obtain ⟨p, hp, rfl, L, hb⟩ := hrel
    have hz := hb.size
    by_cases hlt : p < n
    · obtain ⟨a, rfl, hab, K, A, B, C, s, k0, k1, k2, k3, k4, hss, hCC, hAA, _⟩ : ∃ a, va = some a ∧ a.block < B0 ∧ ∃ (K A B C : Int) (s : ByteArray), w.cell? (a.add (p * 5)) = some (.int .i64 K) ∧ w.cell? ((a.add (p * 5)).add 1) = some (.int .i64 A) ∧ w.cell? ((a.add (p * 5)).add 2) = some (.int .i64 B) ∧ w.cell? ((a.add (p * 5)).add 3) = some (.int .i64 C) ∧ w.cell? ((a.add (p * 5)).add 4) = some (.string s) ∧
          s.size ≤ 1099511627776 ∧ (-9223372036854775808 ≤ C ∧ C ≤ 9223372036854775807) ∧ (-9223372036854775808 ≤ A ∧ A ≤ 9223372036854775807) ∧ (-9223372036854775808 ≤ B ∧ B ≤ 9223372036854775807) := by
        rcases hS.of with ⟨_, h0⟩ | ⟨a, cap, e1, _, h1⟩
        · omega
        · injection e1 with e1
          subst e1
          exact ⟨a, rfl, hlow a.block rfl (by omega), h1 p hlt⟩
      have c0 := (hb.cell (p := a.add (p * 5)) (by rw [addBlock]; exact hab)).trans k0
      have c1 := (hb.cell (p := (a.add (p * 5)).add 1) (by rw [addBlock, addBlock]; exact hab)).trans k1
      have c2 := (hb.cell (p := (a.add (p * 5)).add 2) (by rw [addBlock, addBlock]; exact hab)).trans k2
      have c3 := (hb.cell (p := (a.add (p * 5)).add 3) (by rw [addBlock, addBlock]; exact hab)).trans k3
      have c4 := (hb.cell (p := (a.add (p * 5)).add 4) (by rw [addBlock, addBlock]; exact hab)).trans k4
      have HSS : Hid (s.size ≤ 1099511627776) := hss
      have HCC : Hid (-9223372036854775808 ≤ C ∧ C ≤ 9223372036854775807) := hCC
      have HAA : Hid (-9223372036854775808 ≤ A ∧ A ≤ 9223372036854775807) := hAA
      clear k0 k1 k2 k3 k4 hss hCC hAA
      rw [addPos _ (by decide)] at c1 c2 c3 c4
      by_cases hK : 7 < K
      · go_wp2
        exact ⟨⟨p + 1, by omega, by go_num, L.mono (by omega), hb⟩, by simp [intOf]; omega⟩
      · have hK3 : K ≤ 7 := by omega
        go_wp2_with fail
        refine (step2_any B0 wb rv FX X (N + 4 * p) wr L (by omega) (by omega) K A B C s hK3 HSS.out HCC.out.1 HCC.out.2 HAA.out.1 HAA.out.2).mono ?_
        rintro e w1 ⟨rfl, L1, hb1⟩
        have hz1 := hb1.size
        clear c0 c1 c2 c3 c4
        go_wp2_with fail
        obtain ⟨bv, qv, lv, tv, mv, dv, ls, ts, ms, ds, its, h1, h2, h3, h4⟩ := L1
        refine (kept2_any B0 wb bv qv _ rv lv tv mv dv ls ts ms ds w1 h1.wd h1.lists h1.texts (by omega) (by omega)).mono ?_
        rintro e w2 ⟨rfl, hst⟩
        have L2 : LX B0 wb (.slice none 0 0) rv FX X (N + 4 * p + 4) w2 := LX.below ⟨bv, qv, lv, tv, mv, dv, ls, ts, ms, ds, its, h1, h2, h3, h4⟩ (still_below hst _ (Nat.le_refl _))
        have hb2 : Below B0 w w2 := (hb.trans hb1).trans (still_below hst _ (by omega))
        clear h1 h2 h3 h4 hst
        go_wp2
        exact ⟨⟨p + 1, by omega, by go_num, L2.mono (by omega), hb2⟩, by simp [intOf]; omega⟩
    · have hp' : p = n := by omega
      subst hp'
      go_wp2
      go_ret
      exact ⟨rfl, hb⟩

abbrev nilW : Value := .slice none 0 0
theorem lx_new (w : World) : LX w.heap.size w.heap.size nilW nilW (fun _ => False) (fun _ => True) 0 (w.alloc (.cells #[nilW, nilW, nilW, nilW, nilW, nilW, nilW, nilW] 33)) := by
  refine ⟨nilW, nilW, nilW, nilW, nilW, nilW, [], [], [], [], [], ⟨Nat.le_refl _, heap_alloc_new w _, ⟨rfl, World.ownsRow_nil _ _ _ _, World.ownsRow_nil _ _ _ _, fun i l m h => by simp at h, fun l h => by simp at h⟩,
    ⟨rfl, World.ownsRow_nil _ _ _ _, World.ownsRow_nil _ _ _ _, fun i l m h => by simp at h, fun l h => by simp at h⟩, ⟨World.ownsRow_nil _ _ _ _, World.ownsRow_nil _ _ _ _, fun i h => by simp at h, fun i h => by simp at h⟩, trivial, ⟨fun _ _ _ _ _ _ => trivial, fun _ _ _ h => h.elim⟩, ?_, ?_, ?_, fun _ h => h.elim⟩, Nat.le_refl _, Nat.le_refl _, Nat.le_refl _⟩
  all_goals
    intro k hk
    rcases hk with hk | hk | ⟨l, hl, _⟩
    · cases hk
    · cases hk
    · simp at hl

set_option maxRecDepth 100000 in
set_option maxHeartbeats 2000000 in
theorem coded2_any (v : Value) (n : Nat) (w : World) (hS : Script2 w v n) (hlow : ∀ a, v.ownBlock = some a → 0 < n → a < w.heap.size) (hn : n ≤ 1048576) :
    Calls Tryz.prog 4 #[v] w fun e w' => e = .returned (.bool true) ∧ Below w.heap.size w w' := by
  have L0 := lx_new w
  have hb0 : Below w.heap.size w (w.alloc (.cells #[nilW, nilW, nilW, nilW, nilW, nilW, nilW, nilW] 33)) := (Below.refl _ _).alloc (Nat.le_refl _) _
  go_enter Tryz.func4, Tryz.ntmps4
  go_wp2_with fail
  refine (step2_any w.heap.size w.heap.size nilW _ _ 0 _ L0 (by simp) (by omega) 4 0 0 0 _ (by omega) (by decide) (by omega) (by omega) (by omega) (by omega)).mono ?_
  rintro e w1 ⟨rfl, L1, hb1⟩
  have hb2 := hb0.trans hb1
  have hz := hb2.size
  go_wp2_with fail
  refine (play2_any w.heap.size w.heap.size nilW _ _ 4 v n w1 L1 hz (hS.below hb2 hlow) hlow (by omega)).mono ?_
  rintro e w2 ⟨rfl, hb3⟩
  go_wp2
  go_ret
  exact ⟨rfl, hb2.trans hb3⟩

end Go.Proofs.YtopihgmemnokkaaGreat

