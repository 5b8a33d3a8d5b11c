import Derived.Test.YtopihgmemnokkaaGreatLaw1F
import Derived.Deep.RegionHeld3
import Derived.Test.YtopihgmemnokkaaGreatRefC5F
import Derived.Test.YtopihgmemnokkaaGreatWorldF
namespace Go.Proofs.YtopihgmemnokkaaGreat
open Go.RowKit

/-- which of n things a raw number speaks of -/
def pickV (c n : Int) : Nat := ((if c < 0 then -(c + 1) else c) % n).toNat
theorem pickV_lt (c : Int) {n : Nat} (hn : 0 < n) : pickV c n < n := by
  unfold pickV
  have h1 := Int.emod_nonneg (if c < 0 then -(c + 1) else c) (show (n : Int) ≠ 0 by omega)
  have h2 := Int.emod_lt_of_pos (if c < 0 then -(c + 1) else c) (show (0 : Int) < n by omega)
  omega

set_option maxHeartbeats 400000 in
theorem lawpick_any (c n : Int) (w : World) (h1 : -9223372036854775808 ≤ c) (h2 : c ≤ 9223372036854775807) (hn : 1 ≤ n) (hn2 : n ≤ 100000000) :
    Calls Tryz.prog 25 #[.int .i64 c, .int .i64 n] w fun e w' => e = .returned (.int .i64 (pickV c n : Nat)) ∧ w' = w := by
  by_cases h : c < 0
  · go_enter Tryz.func25, Tryz.ntmps25
    go_wp2
    go_ret
    have e1 : -((c + 1).tmod n) = (-(c + 1)) % n := by rw [← Int.neg_tmod, Int.tmod_eq_emod_of_nonneg (by omega)]
    have e2 := Int.emod_nonneg (-(c + 1)) (show n ≠ 0 by omega)
    exact ⟨ret_int (by unfold pickV; rw [if_pos h]; omega), rfl⟩
  · go_enter Tryz.func25, Tryz.ntmps25
    go_wp2
    go_ret
    have e2 := Int.emod_nonneg c (show n ≠ 0 by omega)
    exact ⟨ret_int (by unfold pickV; rw [if_neg (by omega)]; omega), rfl⟩

set_option maxRecDepth 100000 in
set_option maxHeartbeats 2000000 in
theorem bits_new (B0 wb : Nat) (xv rv : Value) (FX : Nat → Prop) (X : World → Prop) (N : Nat) (w : World) (L : LX B0 wb xv rv FX X N w) (hB : B0 ≤ w.heap.size) (hN : N ≤ 5000000) (A B C : Int) (s : ByteArray) (hs : s.size ≤ 1099511627776) :
    Calls Tryz.prog 22 #[.pointer (some ⟨wb, 0, none⟩), .agg #[.int .i64 4, .int .i64 A, .int .i64 B, .int .i64 C, .string s]] w fun e w' => e = .returned (.bool true) ∧ LX B0 wb xv rv FX X (N + 4) w' ∧ Below B0 w w' := by
  obtain ⟨i0, hi, hz0, hz1, hz2⟩ := info_parts Tryz.infoPB
  obtain ⟨j0, hj, hy0, hy1, hy2⟩ := info_parts Tryz.infoPQ
  have hbx := fun w' hb => box_cell w 4 A B C s (w' := w') hb 4
  simp only [List.getElem?_toArray, List.getElem?_cons_succ, List.getElem?_cons_zero] at hbx
  have hW : Below B0 w (w.alloc (opBox 4 A B C s)) := (Below.refl _ _).alloc (by omega) _
  have hL0 : LX B0 wb xv rv FX X N (w.alloc (opBox 4 A B C s)) := L.below ((Below.refl _ _).alloc (Nat.le_refl _) _)
  have hsz : (w.alloc (opBox 4 A B C s)).heap.size = w.heap.size + 1 := by simp
  clear L
  go_enter Tryz.func22, Tryz.ntmps22
  go_wp2_with fail
  obtain ⟨W0, hW0⟩ : ∃ W0, W0 = w.alloc (opBox 4 A B C s) := ⟨_, rfl⟩
  rw [← hW0] at hbx hW hL0 hsz ⊢
  clear hW0
  refine (newBits_any s W0 hs).mono ?_
  rintro e w1 ⟨hB1, h1⟩
  have c4 := hbx w1 (hsz ▸ hB1)
  have hz1' := hB1.size
  rcases h1 with ⟨hnp, rfl⟩ | ⟨hp, b, rfl, hb⟩
  · go_wp2_with fail
    refine (refNewBits_any s w1 hs).mono ?_
    rintro e w2 (⟨_, rfl, rfl⟩ | ⟨h2, _⟩)
    · clear c4
      go_wp2_with fail
      refine (num_any 4 _).mono ?_
      rintro e w5 ⟨rfl, rfl⟩
      go_wp2
      go_ret
      exact ⟨rfl, (hL0.below hB1).mono (by omega), hW.trans (hB1.mono (by omega))⟩
    · exact absurd h2 hnp
  · go_wp2_with fail
    refine (refNewBits_any s w1 hs).mono ?_
    rintro e w2 (⟨h2, _⟩ | ⟨_, rfl, h2⟩)
    · exact absurd hp h2
    · have hB2 : Below w1.heap.size w1 w2 := by rw [h2]; exact (Below.refl _ _).alloc (Nat.le_refl _) _
      have hz2' : w2.heap.size = w1.heap.size + 1 := by rw [h2]; simp
      have hq : QAt w2 w1.heap.size s := by rw [h2]; exact heap_alloc_new w1 _
      have hb2 : Below W0.heap.size W0 w2 := hB1.trans (hB2.mono hz1')
      clear c4 h2
      go_wp2_with fail
      refine (num_any 0 _).mono ?_
      rintro e w5 ⟨rfl, hw5⟩
      have hw5 := hw5.symm
      subst hw5
      obtain ⟨bv, qv, lv, tv, mv, dv, ls, ts, ms, ds, its, h1, h2, h3, h4⟩ := hL0
      have hlow := h1.lts
      have hwbl := h1.wd.lt
      have LX2 := h1.below hb2
      have hit : (BI.mk W0.heap.size w2.heap.size b w1.heap.size s).At w2 := by
        refine ⟨?_, hq, ⟨hz1', by show w1.heap.size < w2.heap.size; omega⟩, Nat.le_refl _, hs⟩
        obtain ⟨wv, av, hbl⟩ := hb
        refine ⟨wv, av, hbl.below hB2, ?_⟩
        intro k hk
        rcases hk with rfl | hk | hk
        · exact ⟨hbl.low, by have := hbl.four.lt; show _ < w2.heap.size; omega⟩
        · have := hbl.words.lt k hk; exact ⟨this.1, by show _ < w2.heap.size; omega⟩
        · have := hbl.ahead.lt k hk; exact ⟨this.1, by show _ < w2.heap.size; omega⟩
      have hlen : its.length ≤ 5000000 := by omega
      have FIN : Hid (∀ (wA wB : World) (g1 c1 g2 c2 : Nat), Kept (fun k => bv.ownBlock = some k ∨ k = wb) w2 wA → Kept (fun k => qv.ownBlock = some k ∨ k = wb) wA wB →
          wA.ownsRow B0 95 1 (.slice (some ⟨g1, 0, none⟩) (its.length + 1) c1) (its.length + 1) ((its.map fun i => Value.pointer (some ⟨i.b, 0, none⟩)) ++ [.pointer (some ⟨b, 0, none⟩)]) →
          wB.ownsRow B0 98 1 (.slice (some ⟨g2, 0, none⟩) (its.length + 1) c2) (its.length + 1) ((its.map fun i => Value.pointer (some ⟨i.q, 0, none⟩)) ++ [.pointer (some ⟨w1.heap.size, 0, none⟩)]) →
          (bv.ownBlock = some g1 ∨ w2.heap.size < g1) → (qv.ownBlock = some g2 ∨ wA.heap.size < g2) → Wd wB wb (.slice (some ⟨g1, 0, none⟩) (its.length + 1) c1) (.slice (some ⟨g2, 0, none⟩) (its.length + 1) c2) xv rv lv tv mv dv →
          wA.ownsRow B0 98 1 qv its.length (its.map fun i => Value.pointer (some ⟨i.q, 0, none⟩)) → LX B0 wb xv rv FX X (N + 4) wB ∧ Below B0 w wB) := by
        intro wA wB g1 c1 g2 c2 kA kB oA oB hA hB' hw qA
        refine ⟨⟨_, _, lv, tv, mv, dv, ls, ts, ms, ds, its ++ [_], LX2.push _ hit hlow hwbl kA kB oA oB hA hB' hw qA, by omega, by omega, by rw [List.length_append]; show its.length + 1 ≤ N + 4; omega⟩, ?_⟩
        have hbw := hW.trans (hb2.mono (by omega))
        refine kB.bel (kA.bel hbw hB ?_) hB ?_
        · rintro k (hk | rfl)
          · exact (h1.bits.own.lt k hk).1
          · exact h1.low
        · rintro k (hk | rfl)
          · exact (h1.bits.ref.lt k hk).1
          · exact h1.low
      have hWd := LX2.wd
      have hO := LX2.bits.own
      have hR := LX2.bits.ref
      have hzz : B0 ≤ w2.heap.size := by omega
      obtain ⟨ba, bc, rfl⟩ := own_slice hO
      have P1 := fun (g cap : Nat) (w' : World) hown hd => push_row (w' := w') hWd hO (by decide) (Obj.cells #[Value.pointer (some ⟨b, 0, none⟩)] 95) (g := g) (cap := cap) (u := .pointer (some ⟨b, 0, none⟩)) hown hd 0
      have c0 := hWd.cell 0
      simp only [List.getElem?_toArray, List.getElem?_cons_zero] at c0
      have HR : Hid (w2.ownsRow B0 98 1 qv its.length (its.map fun i => Value.pointer (some ⟨i.q, 0, none⟩))) := hR
      have HWd : Hid (Wd w2 wb (.slice ba its.length bc) qv xv rv lv tv mv dv) := hWd
      have HO : Hid (w2.ownsRow B0 95 1 (.slice ba its.length bc) its.length (its.map fun i => Value.pointer (some ⟨i.b, 0, none⟩))) := hO
      have hz2l : w1.heap.size < w2.heap.size := by omega
      clear hz2' hit LX2 h1 h2 h3 h4 hlow hwbl hq hb hp hb2 hB1 hB2 hbx hW hsz hR hWd hO
      go_wp2_with (at_builtin; (refine wpList_append_two _ rfl _ _ 24 rfl B0 95 i0 (.pointer none) 8 Tryz.underlying24 hi hz0 hz1 hz2 rfl _ _ _ rfl (HO.out.alloc _) ⟨w2.heap.size, 0, none⟩ 1 (.pointer (some ⟨b, 0, none⟩)) rfl ?c1 ?c2 ?c3 ?c4 ?c5 ?_))
      case c1 => exact cell_one_new _ _ _
      case c2 => rfl
      case c3 => unfold maxLen; omega
      case c4 => omega
      case c5 => simp; omega
      intro g1 cap1 w3 hown hlt1 hd
      obtain ⟨q1, q2, q3, q4⟩ := P1 g1 cap1 w3 hown (hd.imp id (fun h => ⟨by simpa using h.1, h.2⟩))
      obtain ⟨wA, hwA⟩ : ∃ wA, wA = w3.setCell ⟨wb, 0, none⟩ (.slice (some ⟨g1, 0, none⟩) (its.length + 1) cap1) := ⟨_, rfl⟩
      have hWA : Wd wA wb (.slice (some ⟨g1, 0, none⟩) (its.length + 1) cap1) qv xv rv lv tv mv dv := by rw [hwA]; exact q1.set0 _
      rw [← hwA] at q2 q3
      have hRA := own_keep HR.out q2 (fun a ha hP => by
        rcases hP with hP | hP
        · exact ne_of (owns_ne HO.out HR.out (by decide)) a ha hP.symm
        · exact HWd.out.ne HR.out (by decide) (by rw [ha, hP]))
      have c0 := q1.cell 0
      simp only [List.getElem?_toArray, List.getElem?_cons_zero] at c0
      have f0 := q1.frozen 0
      obtain ⟨qa, qc, rfl⟩ := own_slice hRA
      have P2 := fun (g cap : Nat) (w' : World) hown hd => push_row (w' := w') hWA hRA (by decide) (Obj.cells #[Value.pointer (some ⟨w1.heap.size, 0, none⟩)] 98) (g := g) (cap := cap) (u := .pointer (some ⟨w1.heap.size, 0, none⟩)) hown hd 1
      have c1 := hWA.cell 1
      simp only [List.getElem?_toArray, List.getElem?_cons_succ, List.getElem?_cons_zero] at c1
      have hzA : B0 ≤ wA.heap.size := Nat.le_trans hzz q2.size
      have hF2 := fun wB g2 c2 k1 k2 k3 k4 => FIN.out wA wB g1 cap1 g2 c2 q2 k1 q3 k2 q4 k3 k4 hRA
      have HF2 : Hid _ := hF2
      have HRA : Hid (wA.ownsRow B0 98 1 (.slice qa its.length qc) its.length (its.map fun i => Value.pointer (some ⟨i.q, 0, none⟩))) := hRA
      have HP2 : Hid _ := P2
      clear P1 hown hd q1 q2 q3 q4 HR HO HWd FIN hWA hRA hF2 P2
      subst hwA
      go_wp2_with (at_builtin; (refine wpList_append_two _ rfl _ _ 25 rfl B0 98 j0 (.pointer none) 8 Tryz.underlying25 hj hy0 hy1 hy2 rfl _ _ _ rfl (HRA.out.alloc _) ⟨w3.heap.size, 0, none⟩ 1 (.pointer (some ⟨w1.heap.size, 0, none⟩)) rfl ?d1 ?d2 ?d3 ?d4 ?d5 ?_))
      case d1 => exact cell_one_at (by simp)
      case d2 => rfl
      case d3 => unfold maxLen; omega
      case d4 => omega
      case d5 => simp at hzA ⊢; omega
      intro g2 cap2 w4 hown hlt2 hd
      obtain ⟨q1, q2, q3, q4⟩ := HP2.out g2 cap2 w4 hown (hd.imp id (fun h => ⟨by simpa using h.1, h.2⟩))
      have hf := HF2.out _ g2 cap2 q2 q3 q4 (q1.set1 _)
      have c1 := q1.cell 1
      simp only [List.getElem?_toArray, List.getElem?_cons_succ, List.getElem?_cons_zero] at c1
      have f1 := q1.frozen 1
      have HFF : Hid _ := hf
      clear hown hd q1 q2 q3 q4 HF2 HP2 HRA hf c0 f0
      go_wp2
      go_ret
      exact ⟨rfl, HFF.out.1, HFF.out.2⟩

end Go.Proofs.YtopihgmemnokkaaGreat

namespace Go.Proofs.YtopihgmemnokkaaGreat
open Go.RowKit

/-- what both answer to Rank -/
def RankAns (s : ByteArray) (i : Int) (n m : Int) : Prop :=
  (∃ k : Nat, i = k ∧ k ≤ s.size ∧ n = (Cc.cn k (oneAt s) : Nat) ∧ m = 0) ∨ ((i < 0 ∨ (s.size : Int) < i) ∧ n = 0 ∧ m = 3)
theorem RankAns.uniq {s : ByteArray} {i n m n' m' : Int} (h : RankAns s i n m) (h' : RankAns s i n' m') : n' = n ∧ m' = m := by
  rcases h with ⟨k, h1, h2, h3, h4⟩ | ⟨h1, h2, h3⟩
  · rcases h' with ⟨k', g1, g2, g3, g4⟩ | ⟨g1, g2, g3⟩
    · have : k' = k := by omega
      subst this
      exact ⟨by rw [h3, g3], by omega⟩
    · omega
  · rcases h' with ⟨k', g1, g2, g3, g4⟩ | ⟨g1, g2, g3⟩
    · omega
    · exact ⟨by omega, by omega⟩

theorem rank_ans (i : BI) (w : World) (h : i.At w) (A : Int) :
    Calls Tryz.prog 54 #[.pointer (some ⟨i.b, 0, none⟩), .int .i64 A] w fun e w' => ∃ n m : Int, e = .returned (.tuple #[.int .i64 n, .int .i64 m]) ∧ RankAns i.s A n m ∧ Below w.heap.size w w' := by
  by_cases ho : A < 0 ∨ (i.s.size : Int) < A
  · refine (bitsRank_out i.a w i.b _ _ h.bitsAt A ho).mono ?_
    rintro e w' ⟨hb, rfl⟩
    exact ⟨0, 3, rfl, .inr ⟨ho, rfl, rfl⟩, hb⟩
  · obtain ⟨k, rfl⟩ : ∃ k : Nat, A = k := ⟨A.toNat, by omega⟩
    refine (bitsRank_in i.a w i.b _ _ h.bitsAt h.small k (by omega)).mono ?_
    rintro e w' ⟨hb, rfl⟩
    exact ⟨_, 0, rfl, .inl ⟨k, rfl, by omega, rfl, rfl⟩, hb⟩
theorem refrank_ans (i : BI) (w : World) (h : i.At w) (A : Int) :
    Calls Tryz.prog 55 #[.pointer (some ⟨i.q, 0, none⟩), .int .i64 A] w fun e w' => ∃ n m : Int, e = .returned (.tuple #[.int .i64 n, .int .i64 m]) ∧ RankAns i.s A n m ∧ Below w.heap.size w w' := by
  by_cases ho : A < 0 ∨ (i.s.size : Int) < A
  · refine (refRank_out i.s i.q w h.refb A ho).mono ?_
    rintro e w' ⟨rfl, rfl⟩
    exact ⟨0, 3, rfl, .inr ⟨ho, rfl, rfl⟩, Below.refl _ _⟩
  · obtain ⟨k, rfl⟩ : ∃ k : Nat, A = k := ⟨A.toNat, by omega⟩
    refine (refRank_in i.s i.q w h.small h.refb k (by omega)).mono ?_
    rintro e w' ⟨rfl, rfl⟩
    exact ⟨_, 0, rfl, .inl ⟨k, rfl, by omega, rfl, rfl⟩, Below.refl _ _⟩
theorem select_ans (i : BI) (w : World) (h : i.At w) (A : Int) :
    Calls Tryz.prog 56 #[.pointer (some ⟨i.b, 0, none⟩), .int .i64 A] w fun e w' => ∃ n m : Int, e = .returned (.tuple #[.int .i64 n, .int .i64 m]) ∧ SelAns i.s A n m ∧ Below w.heap.size w w' := by
  by_cases ho : A < 0 ∨ (Cc.cn i.s.size (oneAt i.s) : Int) ≤ A
  · refine (bitsSelect_out i.a w i.b _ _ h.bitsAt A ho).mono ?_
    rintro e w' ⟨hb, rfl⟩
    exact ⟨0, 3, rfl, .inr ⟨ho, rfl, rfl⟩, hb⟩
  · obtain ⟨k, rfl⟩ : ∃ k : Nat, A = k := ⟨A.toNat, by omega⟩
    refine (bitsSelect_in i.a w i.b _ _ h.bitsAt h.small k (by omega)).mono ?_
    rintro e w' ⟨hb, j, rfl, h1, h2, h3⟩
    exact ⟨j, 0, rfl, .inl ⟨k, j, rfl, rfl, rfl, h1, h2, h3⟩, hb⟩
theorem refselect_ans (i : BI) (w : World) (h : i.At w) (A : Int) (h1 : -9223372036854775808 ≤ A) (h2 : A ≤ 9223372036854775807) :
    Calls Tryz.prog 57 #[.pointer (some ⟨i.q, 0, none⟩), .int .i64 A] w fun e w' => ∃ n m : Int, e = .returned (.tuple #[.int .i64 n, .int .i64 m]) ∧ SelAns i.s A n m ∧ Below w.heap.size w w' := by
  refine (refSelect_any i.s i.q w h.small h.refb A h1 h2).mono ?_
  rintro e w' ⟨j, n, rfl, hs, rfl⟩
  exact ⟨j, n, rfl, hs, Below.refl _ _⟩

theorem below_drew {B : Nat} {a w : World} (h : Below B a w) : Below B a w.drew := below_drewN h 1

set_option maxRecDepth 100000 in
set_option maxHeartbeats 4000000 in
theorem bits_rank (B0 wb : Nat) (xv rv : Value) (FX : Nat → Prop) (X : World → Prop) (N : Nat) (w : World) (L : LX B0 wb xv rv FX X N w) (hB : B0 ≤ w.heap.size) (hN : N ≤ 5000000) (A B C : Int) (s : ByteArray) (hC1 : -9223372036854775808 ≤ C) (hC2 : C ≤ 9223372036854775807) :
    Calls Tryz.prog 22 #[.pointer (some ⟨wb, 0, none⟩), .agg #[.int .i64 5, .int .i64 A, .int .i64 B, .int .i64 C, .string s]] w fun e w' => e = .returned (.bool true) ∧ LX B0 wb xv rv FX X N w' ∧ Below B0 w w' := by
  have hbx1 := fun w' hb => box_cell w 5 A B C s (w' := w') hb 1
  have hbx3 := fun w' hb => box_cell w 5 A B C s (w' := w') hb 3
  have hbx0 := fun w' hb => box_cell w 5 A B C s (w' := w') hb 0
  simp only [List.getElem?_toArray, List.getElem?_cons_succ, List.getElem?_cons_zero] at hbx1 hbx3 hbx0
  have hW : Below B0 w (w.alloc (opBox 5 A B C s)) := (Below.refl _ _).alloc (by omega) _
  have hL0 : LX B0 wb xv rv FX X N (w.alloc (opBox 5 A B C s)) := L.below ((Below.refl _ _).alloc (Nat.le_refl _) _)
  have hsz : (w.alloc (opBox 5 A B C s)).heap.size = w.heap.size + 1 := by simp
  clear L
  obtain ⟨bv, qv, lv, tv, mv, dv, ls, ts, ms, ds, its, h1, h2, h3, h4⟩ := hL0
  obtain ⟨ba, bc, hbv⟩ := own_slice h1.bits.own
  obtain ⟨qa, qc, hqv⟩ := own_slice h1.bits.ref
  subst hbv hqv
  have c0 := h1.wd.cell 0
  simp only [List.getElem?_toArray, List.getElem?_cons_zero] at c0
  by_cases hn0 : its.length = 0
  · have HLX : Hid (LX B0 wb xv rv FX X N (w.alloc (opBox 5 A B C s))) := ⟨_, _, lv, tv, mv, dv, ls, ts, ms, ds, its, h1, h2, h3, h4⟩
    rw [hn0] at c0
    clear h1 h2 h3 h4 hbx1 hbx3 hbx0
    go_enter Tryz.func22, Tryz.ntmps22
    go_wp2
    go_ret
    exact ⟨rfl, HLX.out, hW⟩
  · have hp := lawpick_any C its.length
    have hlt := pickV_lt C (show 0 < its.length by omega)
    have hl2 : (1 : Int) ≤ (its.length : Int) := by omega
    have hl3 : (its.length : Int) ≤ 100000000 := by omega
    have hpk := fun W => hp W hC1 hC2 hl2 hl3
    clear hp
    generalize pickV C its.length = k at *
    have d0 : ((its.length : Int) == 0) = false := beq_eq_false_iff_ne.2 (by omega)
    have H1 : Hid (LXat B0 wb xv rv FX X (w.alloc (opBox 5 A B C s)) (.slice ba its.length bc) (.slice qa its.length qc) lv tv mv dv ls ts ms ds its) := h1
    have HF : Hid (ls.length ≤ N ∧ ts.length ≤ N ∧ its.length ≤ N) := ⟨h2, h3, h4⟩
    have b3 := hbx3 _ (Below.refl _ _)
    clear h1 h2 h3 h4
    go_enter Tryz.func22, Tryz.ntmps22
    go_wp2
    obtain ⟨W0, hW0⟩ : ∃ W0, W0 = w.alloc (opBox 5 A B C s) := ⟨_, rfl⟩
    rw [← hW0] at hbx1 hbx3 hbx0 hW H1 hsz c0 b3 ⊢
    clear hW0
    go_quiet ((go_at_call 25; exact Calls.quiet_of_same (hpk _)))
    have hb1 : Below W0.heap.size W0 (W0.drewN nq) := below_drewN (Below.refl _ _) nq
    generalize W0.drewN nq = W1 at *
    have h1 := H1.out.below hb1
    have b0 := hbx0 W1 (hsz ▸ hb1)
    have b1 := hbx1 W1 (hsz ▸ hb1)
    have hz1 := hb1.size
    obtain ⟨g1, cap1, x1, e1, e2, e3⟩ := own_at h1.bits.own hlt
    obtain ⟨g2, cap2, x2, e4, e5, e6⟩ := own_at h1.bits.ref hlt
    have hx1 : x1 = .pointer (some ⟨(its[k]).b, 0, none⟩) := by
      rw [List.getElem?_map, List.getElem?_eq_getElem hlt] at e2
      simpa using e2.symm
    have hx2 : x2 = .pointer (some ⟨(its[k]).q, 0, none⟩) := by
      rw [List.getElem?_map, List.getElem?_eq_getElem hlt] at e5
      simpa using e5.symm
    subst hx1 hx2
    injection e1 with e1 _ e1c
    injection e4 with e4 _ e4c
    subst e1 e4
    have hmem : its[k] ∈ its := List.getElem_mem hlt
    have hat1 := h1.bits.all _ hmem
    generalize its[k] = it at *
    have c0 := h1.wd.cell 0
    have c1 := h1.wd.cell 1
    simp only [List.getElem?_toArray, List.getElem?_cons_succ, List.getElem?_cons_zero] at c0 c1
    have hwl := h1.wd.lt
    have hl1 := (h1.bits.own.lt g1 rfl).2
    have hl2' := (h1.bits.ref.lt g2 rfl).2
    have KEEP : Hid (∀ W, Below W1.heap.size W1 W → W.cell? ⟨wb, 0, none⟩ = some (.slice (some ⟨g1, 0, none⟩) its.length bc) ∧ W.cell? ⟨wb, 1, none⟩ = some (.slice (some ⟨g2, 0, none⟩) its.length qc) ∧ W.cell? ⟨g1, k, none⟩ = some (.pointer (some ⟨it.b, 0, none⟩)) ∧ W.cell? ⟨g2, k, none⟩ = some (.pointer (some ⟨it.q, 0, none⟩)) ∧ W.cell? ⟨w.heap.size, 1, none⟩ = some (.int .i64 A) ∧ it.At W) := by
      intro W hb
      have hkp := Kept.of_below hb (Nat.le_refl _) (fun _ => False)
      exact ⟨hkp.cell c0 (fun h => h), hkp.cell c1 (fun h => h), hkp.cell e3 (fun h => h), hkp.cell e6 (fun h => h), hkp.cell b1 (fun h => h), hat1.keep hkp (fun _ _ _ h => h)⟩
    have S0 := KEEP.out W1.drew (below_drew (Below.refl _ _))
    have hrk : Calls Tryz.prog 54 #[.pointer (some ⟨it.b, 0, none⟩), .int .i64 A] W1.drew fun e w' => ∃ n m : Int, e = .returned (.tuple #[.int .i64 n, .int .i64 m]) ∧ RankAns it.s A n m ∧ Below W1.heap.size W1 w' ∧ (w'.cell? ⟨wb, 0, none⟩ = some (.slice (some ⟨g1, 0, none⟩) its.length bc) ∧ w'.cell? ⟨g1, k, none⟩ = some (.pointer (some ⟨it.b, 0, none⟩)) ∧ w'.cell? ⟨w.heap.size, 1, none⟩ = some (.int .i64 A)) :=
      (rank_ans it W1.drew S0.2.2.2.2.2 A).mono fun e w' ⟨n, m, he, ha, hb⟩ => by
        have hb' : Below W1.heap.size W1 w' := (below_drew (Below.refl _ _)).trans hb
        have hK := KEEP.out w' hb'
        exact ⟨n, m, he, ha, hb', hK.1, hK.2.2.1, hK.2.2.2.2.1⟩
    have s0 : W1.drew.cell? ⟨wb, 0, none⟩ = some (.slice (some ⟨g1, 0, none⟩) its.length bc) ∧ W1.drew.cell? ⟨g1, k, none⟩ = some (.pointer (some ⟨it.b, 0, none⟩)) ∧ W1.drew.cell? ⟨w.heap.size, 1, none⟩ = some (.int .i64 A) := ⟨S0.1, S0.2.2.1, S0.2.2.2.2.1⟩
    clear S0 hbx1 hbx3 hbx0 b3 b1 c0 c1 e2 e3 e5 e6 hpk
    have hki : (k : Int) < (its.length : Int) := by omega
    go_wp2_with fail
    go_region_held3 (fun w' => w'.cell? ⟨wb, 0, none⟩ = some (.slice (some ⟨g1, 0, none⟩) its.length bc) ∧ w'.cell? ⟨g1, k, none⟩ = some (.pointer (some ⟨it.b, 0, none⟩)) ∧ w'.cell? ⟨w.heap.size, 1, none⟩ = some (.int .i64 A)) (assumption) ((go_at_call 54; refine hrk.mono ?_; rintro e w2 ⟨n1, m1, rfl, ha1, hb2, hS2⟩))
    clear hrk s0 hS2
    have K2 := KEEP.out w2 hb2
    have hz2 := hb2.size
    have K3 := KEEP.out w2.drew (below_drew hb2)
    have hrq : Calls Tryz.prog 55 #[.pointer (some ⟨it.q, 0, none⟩), .int .i64 A] w2.drew fun e w' => e = .returned (.tuple #[.int .i64 n1, .int .i64 m1]) ∧ Below W1.heap.size W1 w' ∧ (w'.cell? ⟨wb, 1, none⟩ = some (.slice (some ⟨g2, 0, none⟩) its.length qc) ∧ w'.cell? ⟨g2, k, none⟩ = some (.pointer (some ⟨it.q, 0, none⟩)) ∧ w'.cell? ⟨w.heap.size, 1, none⟩ = some (.int .i64 A)) :=
      (refrank_ans it w2.drew K3.2.2.2.2.2 A).mono fun e w' ⟨n, m, he, ha, hb⟩ => by
        obtain ⟨u1, u2⟩ := ha1.uniq ha
        have hb' : Below W1.heap.size W1 w' := (below_drew hb2).trans (hb.mono (by show W1.heap.size ≤ w2.heap.size; exact hz2))
        have hK := KEEP.out w' hb'
        exact ⟨by rw [he, u1, u2], hb', hK.2.1, hK.2.2.2.1, hK.2.2.2.2.1⟩
    have s0 : w2.drew.cell? ⟨wb, 1, none⟩ = some (.slice (some ⟨g2, 0, none⟩) its.length qc) ∧ w2.drew.cell? ⟨g2, k, none⟩ = some (.pointer (some ⟨it.q, 0, none⟩)) ∧ w2.drew.cell? ⟨w.heap.size, 1, none⟩ = some (.int .i64 A) := ⟨K3.2.1, K3.2.2.2.1, K3.2.2.2.2.1⟩
    clear K2 K3 ha1
    go_wp2_with fail
    go_region_held3 (fun w' => w'.cell? ⟨wb, 1, none⟩ = some (.slice (some ⟨g2, 0, none⟩) its.length qc) ∧ w'.cell? ⟨g2, k, none⟩ = some (.pointer (some ⟨it.q, 0, none⟩)) ∧ w'.cell? ⟨w.heap.size, 1, none⟩ = some (.int .i64 A)) (assumption) ((go_at_call 55; refine hrq.mono ?_; rintro e w3 ⟨rfl, hb3, hS3⟩))
    clear hrq s0 hS3
    have HL3 : Hid (LX B0 wb xv rv FX X N w3) := ⟨_, _, lv, tv, mv, dv, ls, ts, ms, ds, its, h1.below hb3, HF.out.1, HF.out.2.1, HF.out.2.2⟩
    have HB3 : Hid (Below B0 w w3) := (hW.trans (hb1.mono (by omega))).trans (hb3.mono (by omega))
    clear KEEP HF h1 H1
    go_wp2_with fail
    refine (num_any m1 _).mono ?_
    rintro e w5 ⟨rfl, hw5⟩
    have hw5 := hw5.symm
    subst hw5
    go_wp2
    go_ret
    exact ⟨by simp, HL3.out, HB3.out⟩

end Go.Proofs.YtopihgmemnokkaaGreat

namespace Go.Proofs.YtopihgmemnokkaaGreat
open Go.RowKit

set_option maxRecDepth 100000 in
set_option maxHeartbeats 4000000 in
theorem bits_select (B0 wb : Nat) (xv rv : Value) (FX : Nat → Prop) (X : World → Prop) (N : Nat) (w : World) (L : LX B0 wb xv rv FX X N w) (hB : B0 ≤ w.heap.size) (hN : N ≤ 5000000) (A B C : Int) (s : ByteArray) (hC1 : -9223372036854775808 ≤ C) (hC2 : C ≤ 9223372036854775807) (hA1 : -9223372036854775808 ≤ A) (hA2 : A ≤ 9223372036854775807) :
    Calls Tryz.prog 22 #[.pointer (some ⟨wb, 0, none⟩), .agg #[.int .i64 6, .int .i64 A, .int .i64 B, .int .i64 C, .string s]] w fun e w' => e = .returned (.bool true) ∧ LX B0 wb xv rv FX X N w' ∧ Below B0 w w' := by
  have hbx1 := fun w' hb => box_cell w 6 A B C s (w' := w') hb 1
  have hbx3 := fun w' hb => box_cell w 6 A B C s (w' := w') hb 3
  have hbx0 := fun w' hb => box_cell w 6 A B C s (w' := w') hb 0
  simp only [List.getElem?_toArray, List.getElem?_cons_succ, List.getElem?_cons_zero] at hbx1 hbx3 hbx0
  have hW : Below B0 w (w.alloc (opBox 6 A B C s)) := (Below.refl _ _).alloc (by omega) _
  have hL0 : LX B0 wb xv rv FX X N (w.alloc (opBox 6 A B C s)) := L.below ((Below.refl _ _).alloc (Nat.le_refl _) _)
  have hsz : (w.alloc (opBox 6 A B C s)).heap.size = w.heap.size + 1 := by simp
  clear L
  obtain ⟨bv, qv, lv, tv, mv, dv, ls, ts, ms, ds, its, h1, h2, h3, h4⟩ := hL0
  obtain ⟨ba, bc, hbv⟩ := own_slice h1.bits.own
  obtain ⟨qa, qc, hqv⟩ := own_slice h1.bits.ref
  subst hbv hqv
  have c0 := h1.wd.cell 0
  simp only [List.getElem?_toArray, List.getElem?_cons_zero] at c0
  by_cases hn0 : its.length = 0
  · have HLX : Hid (LX B0 wb xv rv FX X N (w.alloc (opBox 6 A B C s))) := ⟨_, _, lv, tv, mv, dv, ls, ts, ms, ds, its, h1, h2, h3, h4⟩
    rw [hn0] at c0
    clear h1 h2 h3 h4 hbx1 hbx3 hbx0
    go_enter Tryz.func22, Tryz.ntmps22
    go_wp2
    go_ret
    exact ⟨rfl, HLX.out, hW⟩
  · have hp := lawpick_any C its.length
    have hlt := pickV_lt C (show 0 < its.length by omega)
    have hl2 : (1 : Int) ≤ (its.length : Int) := by omega
    have hl3 : (its.length : Int) ≤ 100000000 := by omega
    have hpk := fun W => hp W hC1 hC2 hl2 hl3
    clear hp
    generalize pickV C its.length = k at *
    have d0 : ((its.length : Int) == 0) = false := beq_eq_false_iff_ne.2 (by omega)
    have H1 : Hid (LXat B0 wb xv rv FX X (w.alloc (opBox 6 A B C s)) (.slice ba its.length bc) (.slice qa its.length qc) lv tv mv dv ls ts ms ds its) := h1
    have HF : Hid (ls.length ≤ N ∧ ts.length ≤ N ∧ its.length ≤ N) := ⟨h2, h3, h4⟩
    have b3 := hbx3 _ (Below.refl _ _)
    clear h1 h2 h3 h4
    go_enter Tryz.func22, Tryz.ntmps22
    go_wp2
    obtain ⟨W0, hW0⟩ : ∃ W0, W0 = w.alloc (opBox 6 A B C s) := ⟨_, rfl⟩
    rw [← hW0] at hbx1 hbx3 hbx0 hW H1 hsz c0 b3 ⊢
    clear hW0
    go_quiet ((go_at_call 25; exact Calls.quiet_of_same (hpk _)))
    have hb1 : Below W0.heap.size W0 (W0.drewN nq) := below_drewN (Below.refl _ _) nq
    generalize W0.drewN nq = W1 at *
    have h1 := H1.out.below hb1
    have b0 := hbx0 W1 (hsz ▸ hb1)
    have b1 := hbx1 W1 (hsz ▸ hb1)
    have hz1 := hb1.size
    obtain ⟨g1, cap1, x1, e1, e2, e3⟩ := own_at h1.bits.own hlt
    obtain ⟨g2, cap2, x2, e4, e5, e6⟩ := own_at h1.bits.ref hlt
    have hx1 : x1 = .pointer (some ⟨(its[k]).b, 0, none⟩) := by
      rw [List.getElem?_map, List.getElem?_eq_getElem hlt] at e2
      simpa using e2.symm
    have hx2 : x2 = .pointer (some ⟨(its[k]).q, 0, none⟩) := by
      rw [List.getElem?_map, List.getElem?_eq_getElem hlt] at e5
      simpa using e5.symm
    subst hx1 hx2
    injection e1 with e1 _ e1c
    injection e4 with e4 _ e4c
    subst e1 e4
    have hmem : its[k] ∈ its := List.getElem_mem hlt
    have hat1 := h1.bits.all _ hmem
    generalize its[k] = it at *
    have c0 := h1.wd.cell 0
    have c1 := h1.wd.cell 1
    simp only [List.getElem?_toArray, List.getElem?_cons_succ, List.getElem?_cons_zero] at c0 c1
    have hwl := h1.wd.lt
    have hl1 := (h1.bits.own.lt g1 rfl).2
    have hl2' := (h1.bits.ref.lt g2 rfl).2
    have KEEP : Hid (∀ W, Below W1.heap.size W1 W → W.cell? ⟨wb, 0, none⟩ = some (.slice (some ⟨g1, 0, none⟩) its.length bc) ∧ W.cell? ⟨wb, 1, none⟩ = some (.slice (some ⟨g2, 0, none⟩) its.length qc) ∧ W.cell? ⟨g1, k, none⟩ = some (.pointer (some ⟨it.b, 0, none⟩)) ∧ W.cell? ⟨g2, k, none⟩ = some (.pointer (some ⟨it.q, 0, none⟩)) ∧ W.cell? ⟨w.heap.size, 1, none⟩ = some (.int .i64 A) ∧ it.At W) := by
      intro W hb
      have hkp := Kept.of_below hb (Nat.le_refl _) (fun _ => False)
      exact ⟨hkp.cell c0 (fun h => h), hkp.cell c1 (fun h => h), hkp.cell e3 (fun h => h), hkp.cell e6 (fun h => h), hkp.cell b1 (fun h => h), hat1.keep hkp (fun _ _ _ h => h)⟩
    have S0 := KEEP.out W1.drew (below_drew (Below.refl _ _))
    have hrk : Calls Tryz.prog 56 #[.pointer (some ⟨it.b, 0, none⟩), .int .i64 A] W1.drew fun e w' => ∃ n m : Int, e = .returned (.tuple #[.int .i64 n, .int .i64 m]) ∧ SelAns it.s A n m ∧ Below W1.heap.size W1 w' ∧ (w'.cell? ⟨wb, 0, none⟩ = some (.slice (some ⟨g1, 0, none⟩) its.length bc) ∧ w'.cell? ⟨g1, k, none⟩ = some (.pointer (some ⟨it.b, 0, none⟩)) ∧ w'.cell? ⟨w.heap.size, 1, none⟩ = some (.int .i64 A)) :=
      (select_ans it W1.drew S0.2.2.2.2.2 A).mono fun e w' ⟨n, m, he, ha, hb⟩ => by
        have hb' : Below W1.heap.size W1 w' := (below_drew (Below.refl _ _)).trans hb
        have hK := KEEP.out w' hb'
        exact ⟨n, m, he, ha, hb', hK.1, hK.2.2.1, hK.2.2.2.2.1⟩
    have s0 : W1.drew.cell? ⟨wb, 0, none⟩ = some (.slice (some ⟨g1, 0, none⟩) its.length bc) ∧ W1.drew.cell? ⟨g1, k, none⟩ = some (.pointer (some ⟨it.b, 0, none⟩)) ∧ W1.drew.cell? ⟨w.heap.size, 1, none⟩ = some (.int .i64 A) := ⟨S0.1, S0.2.2.1, S0.2.2.2.2.1⟩
    clear S0 hbx1 hbx3 hbx0 b3 b1 c0 c1 e2 e3 e5 e6 hpk
    have hki : (k : Int) < (its.length : Int) := by omega
    go_wp2_with fail
    go_region_held3 (fun w' => w'.cell? ⟨wb, 0, none⟩ = some (.slice (some ⟨g1, 0, none⟩) its.length bc) ∧ w'.cell? ⟨g1, k, none⟩ = some (.pointer (some ⟨it.b, 0, none⟩)) ∧ w'.cell? ⟨w.heap.size, 1, none⟩ = some (.int .i64 A)) (assumption) ((go_at_call 56; refine hrk.mono ?_; rintro e w2 ⟨n1, m1, rfl, ha1, hb2, hS2⟩))
    clear hrk s0 hS2
    have K2 := KEEP.out w2 hb2
    have hz2 := hb2.size
    have K3 := KEEP.out w2.drew (below_drew hb2)
    have hrq : Calls Tryz.prog 57 #[.pointer (some ⟨it.q, 0, none⟩), .int .i64 A] w2.drew fun e w' => e = .returned (.tuple #[.int .i64 n1, .int .i64 m1]) ∧ Below W1.heap.size W1 w' ∧ (w'.cell? ⟨wb, 1, none⟩ = some (.slice (some ⟨g2, 0, none⟩) its.length qc) ∧ w'.cell? ⟨g2, k, none⟩ = some (.pointer (some ⟨it.q, 0, none⟩)) ∧ w'.cell? ⟨w.heap.size, 1, none⟩ = some (.int .i64 A)) :=
      (refselect_ans it w2.drew K3.2.2.2.2.2 A hA1 hA2).mono fun e w' ⟨n, m, he, ha, hb⟩ => by
        obtain ⟨u1, u2⟩ := ha1.uniq ha
        have hb' : Below W1.heap.size W1 w' := (below_drew hb2).trans (hb.mono (by show W1.heap.size ≤ w2.heap.size; exact hz2))
        have hK := KEEP.out w' hb'
        exact ⟨by rw [he, u1, u2], hb', hK.2.1, hK.2.2.2.1, hK.2.2.2.2.1⟩
    have s0 : w2.drew.cell? ⟨wb, 1, none⟩ = some (.slice (some ⟨g2, 0, none⟩) its.length qc) ∧ w2.drew.cell? ⟨g2, k, none⟩ = some (.pointer (some ⟨it.q, 0, none⟩)) ∧ w2.drew.cell? ⟨w.heap.size, 1, none⟩ = some (.int .i64 A) := ⟨K3.2.1, K3.2.2.2.1, K3.2.2.2.2.1⟩
    clear K2 K3 ha1
    go_wp2_with fail
    go_region_held3 (fun w' => w'.cell? ⟨wb, 1, none⟩ = some (.slice (some ⟨g2, 0, none⟩) its.length qc) ∧ w'.cell? ⟨g2, k, none⟩ = some (.pointer (some ⟨it.q, 0, none⟩)) ∧ w'.cell? ⟨w.heap.size, 1, none⟩ = some (.int .i64 A)) (assumption) ((go_at_call 57; refine hrq.mono ?_; rintro e w3 ⟨rfl, hb3, hS3⟩))
    clear hrq s0 hS3
    have HL3 : Hid (LX B0 wb xv rv FX X N w3) := ⟨_, _, lv, tv, mv, dv, ls, ts, ms, ds, its, h1.below hb3, HF.out.1, HF.out.2.1, HF.out.2.2⟩
    have HB3 : Hid (Below B0 w w3) := (hW.trans (hb1.mono (by omega))).trans (hb3.mono (by omega))
    clear KEEP HF h1 H1
    go_wp2_with fail
    refine (num_any m1 _).mono ?_
    rintro e w5 ⟨rfl, hw5⟩
    have hw5 := hw5.symm
    subst hw5
    go_wp2
    go_ret
    exact ⟨by simp, HL3.out, HB3.out⟩

end Go.Proofs.YtopihgmemnokkaaGreat

namespace Go.Proofs.YtopihgmemnokkaaGreat
open Go.RowKit

theorem SRow.own {w : World} {g : Nat} {t : Nat → ByteArray} (h : SRow w g t) {base : Nat} (hb : base ≤ g) : w.ownsRow base 9 1 (.slice (some ⟨g, 0, none⟩) 256 256) 256 (rowS t).toList := by
  refine ⟨by rw [Array.length_toList, size_rowS], .inr ⟨g, 256, rowS t, rfl, hb, h, Nat.le_refl _, by decide, by rw [size_rowS], ?_⟩⟩
  rw [List.take_of_length_le]
  rw [Array.length_toList, size_rowS]; decide
theorem SRow.reads {w : World} {g : Nat} {t : Nat → ByteArray} (h : SRow w g t) : ReadsS w (.slice (some ⟨g, 0, none⟩) 256 256) 256 t :=
  .inr ⟨g, 256, rfl, fun _ hk => h.cell hk⟩

set_option maxRecDepth 100000 in
set_option maxHeartbeats 2000000 in
theorem turns2_codes (B0 wb : Nat) (xv rv : Value) (FX : Nat → Prop) (X : World → Prop) (N : Nat) (w : World) (L : LX B0 wb xv rv FX X N w) (hB : B0 ≤ w.heap.size) (hN : N ≤ 5000000) (A B C : Int) (s : ByteArray) :
    Calls Tryz.prog 21 #[.pointer (some ⟨wb, 0, none⟩), .agg #[.int .i64 7, .int .i64 A, .int .i64 B, .int .i64 C, .string s]] w fun e w' => e = .returned (.bool true) ∧ LX B0 wb xv rv FX X (N + 4) w' ∧ Below B0 w w' := by
  have hbx := fun w' hb => box_cell w 7 A B C s (w' := w') hb 4
  simp only [List.getElem?_toArray, List.getElem?_cons_succ, List.getElem?_cons_zero] at hbx
  have hW : Below B0 w (w.alloc (opBox 7 A B C s)) := (Below.refl _ _).alloc (by omega) _
  have hL0 : LX B0 wb xv rv FX X N (w.alloc (opBox 7 A B C s)) := L.below ((Below.refl _ _).alloc (Nat.le_refl _) _)
  have hsz : (w.alloc (opBox 7 A B C s)).heap.size = w.heap.size + 1 := by simp
  clear L
  by_cases hs : s.size ≤ 1000
  · go_enter Tryz.func21, Tryz.ntmps21
    go_wp2_with fail
    obtain ⟨W0, hW0⟩ : ∃ W0, W0 = w.alloc (opBox 7 A B C s) := ⟨_, rfl⟩
    rw [← hW0] at hbx hW hL0 hsz ⊢
    clear hW0
    refine (codes_any2 s W0 hs).mono ?_
    rintro e w1 ⟨G, g, n, rfl, hR, hC, hD, hn, hn2, hg, hB1⟩
    have c4 := hbx w1 (hsz ▸ hB1)
    have hz1 := hB1.size
    have HN : Hid (n = ac (fun c => (bl (G c)).length) s s.size) := by show _ = _; rw [hn, sm_cat, cl_ac]
    have HC : Hid (CodesOf (cntB s s.size) G) := hC
    have HD : Hid (Codes (cntB s s.size) (fun c => bl (G c))) := hD
    have HR : Hid (SRow w1 g (fun c => tx (bl (G c)))) := hR
    clear hC hD hR hn
    go_wp2_with fail
    refine (refCodes_any s G w1 hs HC.out HD.out).mono ?_
    rintro e w2 ⟨g2, rfl, hS2, hg2, hB2⟩
    rw [← HN.out]
    have hz2 := hB2.size
    have HS2 : Hid (SRow w2 g2 (fun c => tx (bl (G c)))) := hS2
    clear hS2 HC HD HN
    go_wp2_with fail
    have hr1 := (HR.out.below hB2).reads
    refine (sameTexts_any _ _ 256 _ w2 hr1 HS2.out.reads (by omega)).mono ?_
    rintro e w3 ⟨rfl, hS3⟩
    have hz3 := hS3.size
    clear hr1 c4
    go_wp2_with fail
    have hl3 := own_keep (own_keep (HR.out.own hg) (Kept.of_below hB2 (Nat.le_refl _) (fun _ => False)) (fun _ _ h => h)) hS3 (fun _ _ h => h)
    have hb3 : Below W0.heap.size W0 w3 := (hB1.trans (hB2.mono hz1)).trans (still_below hS3 _ (by omega))
    refine (keepTexts_lx B0 wb xv rv FX X N W0 w3 hL0 hb3 _ 256 _ hl3 (by omega) hN (by omega)).mono ?_
    rintro e w4 ⟨rfl, hL4, hB4⟩
    have hnn : ((n : Int) == (n : Int)) = true := by simp
    go_wp2_with fail
    refine (num_any 0 _).mono ?_
    rintro e w5 ⟨rfl, rfl⟩
    go_wp2
    go_ret
    exact ⟨rfl, hL4, (hW.trans (hb3.mono (by omega))).trans hB4⟩
  · go_enter Tryz.func21, Tryz.ntmps21
    go_wp2_with fail
    obtain ⟨W0, hW0⟩ : ∃ W0, W0 = w.alloc (opBox 7 A B C s) := ⟨_, rfl⟩
    rw [← hW0] at hbx hW hL0 hsz ⊢
    clear hW0
    refine (codes_long s W0 (by omega)).mono ?_
    rintro e w1 ⟨rfl, rfl⟩
    have c4 := hbx w1 (Below.refl _ _)
    go_wp2_with fail
    refine (refCodes_long s w1 (by omega)).mono ?_
    rintro e w2 ⟨rfl, rfl⟩
    go_wp2_with fail
    refine (sameTexts_any _ _ 0 (fun _ => ByteArray.empty) w2 (.inl ⟨rfl, rfl⟩) (.inl ⟨rfl, rfl⟩) (by omega)).mono ?_
    rintro e w3 ⟨rfl, hS3⟩
    have hz3 := hS3.size
    clear c4
    go_wp2_with fail
    have hb3 : Below w2.heap.size w2 w3 := still_below hS3 _ (by omega)
    refine (keepTexts_lx B0 wb xv rv FX X N w2 w3 hL0 hb3 _ 0 [] (World.ownsRow_nil _ _ _ _) (by omega) hN (by omega)).mono ?_
    rintro e w4 ⟨rfl, hL4, hB4⟩
    go_wp2_with fail
    refine (num_any 1 _).mono ?_
    rintro e w5 ⟨rfl, rfl⟩
    go_wp2
    go_ret
    exact ⟨rfl, hL4, (hW.trans (hb3.mono (by omega))).trans hB4⟩

end Go.Proofs.YtopihgmemnokkaaGreat

namespace Go.Proofs.YtopihgmemnokkaaGreat
open Go.RowKit

set_option maxRecDepth 100000 in
set_option maxHeartbeats 4000000 in
theorem step2_any (B0 wb : Nat) (rv : Value) (FX : Nat → Prop) (X : World → Prop) (N : Nat) (w : World) (L : LX B0 wb (.slice none 0 0) rv FX X N w) (hB : B0 ≤ w.heap.size) (hN : N ≤ 5000000) (K A B C : Int) (s : ByteArray) (hK : K ≤ 7)
    (hs : s.size ≤ 1099511627776) (hC1 : -9223372036854775808 ≤ C) (hC2 : C ≤ 9223372036854775807) (hA1 : -9223372036854775808 ≤ A) (hA2 : A ≤ 9223372036854775807) :
    Calls Tryz.prog 10 #[.pointer (some ⟨wb, 0, none⟩), .agg #[.int .i64 K, .int .i64 A, .int .i64 B, .int .i64 C, .string s]] w fun e w' => e = .returned (.bool true) ∧ LX B0 wb (.slice none 0 0) rv FX X (N + 4) w' ∧ Below B0 w w' := by
  have hW : Below B0 w (w.alloc (opBox K A B C s)) := (Below.refl _ _).alloc (by omega) _
  have hL0 : LX B0 wb (.slice none 0 0) rv FX X N (w.alloc (opBox K A B C s)) := L.below ((Below.refl _ _).alloc (Nat.le_refl _) _)
  have hsz : (w.alloc (opBox K A B C s)).heap.size = w.heap.size + 1 := by simp
  by_cases hlow : K < 1
  · have d1 : decide ((1 : Int) ≤ K) = false := decide_eq_false (by omega)
    have d2 : (K == 7) = false := by simp; omega
    have d3 : decide ((4 : Int) ≤ K) = false := decide_eq_false (by omega)
    have d4 : (K == 8) = false := by simp; omega
    have d5 : (K == 14) = false := by simp; omega
    obtain ⟨bv, qv, lv, tv, mv, dv, ls, ts, ms, ds, its, h1, h2⟩ := hL0
    have c2 := h1.wd.cell 2
    simp only [List.getElem?_toArray, List.getElem?_cons_succ, List.getElem?_cons_zero] at c2
    have HL : Hid (LX B0 wb (.slice none 0 0) rv FX X N (w.alloc (opBox K A B C s))) := ⟨bv, qv, lv, tv, mv, dv, ls, ts, ms, ds, its, h1, h2⟩
    clear h1 h2
    go_enter Tryz.func10, Tryz.ntmps10
    go_wp2
    go_ret
    exact ⟨rfl, HL.out.mono (by omega), hW⟩
  · have hcs : K = 1 ∨ K = 2 ∨ K = 3 ∨ K = 4 ∨ K = 5 ∨ K = 6 ∨ K = 7 := by omega
    rcases hcs with e | e | e | e | e | e | e
    · subst e
      go_enter Tryz.func10, Tryz.ntmps10
      go_wp2_with fail
      refine (turns2_suffixes B0 wb _ rv FX X N _ hL0 (by omega) hN A B C s).mono ?_
      rintro e w1 ⟨rfl, hL1, hB1⟩
      go_wp2
      go_ret
      exact ⟨rfl, hL1, hW.trans hB1⟩
    · subst e
      go_enter Tryz.func10, Tryz.ntmps10
      go_wp2_with fail
      refine (turns2_transform B0 wb _ rv FX X N _ hL0 (by omega) A B C s).mono ?_
      rintro e w1 ⟨rfl, hL1, hB1⟩
      go_wp2
      go_ret
      exact ⟨rfl, hL1.mono (by omega), hW.trans hB1⟩
    · subst e
      go_enter Tryz.func10, Tryz.ntmps10
      go_wp2_with fail
      refine (turns2_restore B0 wb _ rv FX X N _ hL0 (by omega) A B C s).mono ?_
      rintro e w1 ⟨rfl, hL1, hB1⟩
      go_wp2
      go_ret
      exact ⟨rfl, hL1.mono (by omega), hW.trans hB1⟩
    · subst e
      go_enter Tryz.func10, Tryz.ntmps10
      go_wp2_with fail
      refine (bits_new B0 wb _ rv FX X N _ hL0 (by omega) hN A B C s hs).mono ?_
      rintro e w1 ⟨rfl, hL1, hB1⟩
      go_wp2
      go_ret
      exact ⟨rfl, hL1.mono (by omega), hW.trans hB1⟩
    · subst e
      go_enter Tryz.func10, Tryz.ntmps10
      go_wp2_with fail
      refine (bits_rank B0 wb _ rv FX X N _ hL0 (by omega) hN A B C s hC1 hC2).mono ?_
      rintro e w1 ⟨rfl, hL1, hB1⟩
      go_wp2
      go_ret
      exact ⟨rfl, hL1.mono (by omega), hW.trans hB1⟩
    · subst e
      go_enter Tryz.func10, Tryz.ntmps10
      go_wp2_with fail
      refine (bits_select B0 wb _ rv FX X N _ hL0 (by omega) hN A B C s hC1 hC2 hA1 hA2).mono ?_
      rintro e w1 ⟨rfl, hL1, hB1⟩
      go_wp2
      go_ret
      exact ⟨rfl, hL1.mono (by omega), hW.trans hB1⟩
    · subst e
      go_enter Tryz.func10, Tryz.ntmps10
      go_wp2_with fail
      refine (turns2_codes B0 wb _ rv FX X N _ hL0 (by omega) hN A B C s).mono ?_
      rintro e w1 ⟨rfl, hL1, hB1⟩
      go_wp2
      go_ret
      exact ⟨rfl, hL1, hW.trans hB1⟩

end Go.Proofs.YtopihgmemnokkaaGreat

namespace Go.Proofs.YtopihgmemnokkaaGreat
open Go.RowKit

/-- a script: a slice of steps, in old memory; its numbers and texts in their bounds -/
structure Script2 (w : World) (v : Value) (n : Nat) : Prop where
  of : (v = .slice none 0 0 ∧ n = 0) ∨ ∃ a cap, v = .slice (some a) n cap ∧ n ≤ cap ∧ ∀ i, i < n → ∃ (K A B C : Int) (s : ByteArray),
    w.cell? (a.add (i * 5)) = some (.int .i64 K) ∧ w.cell? ((a.add (i * 5)).add 1) = some (.int .i64 A) ∧ w.cell? ((a.add (i * 5)).add 2) = some (.int .i64 B) ∧ w.cell? ((a.add (i * 5)).add 3) = some (.int .i64 C) ∧ w.cell? ((a.add (i * 5)).add 4) = some (.string s) ∧
    s.size ≤ 1099511627776 ∧ (-9223372036854775808 ≤ C ∧ C ≤ 9223372036854775807) ∧ (-9223372036854775808 ≤ A ∧ A ≤ 9223372036854775807) ∧ (-9223372036854775808 ≤ B ∧ B ≤ 9223372036854775807)

theorem addPos (z : Addr) {k : Nat} (hk : k ≠ 0) : z.add k = ⟨z.block, z.off + k, none⟩ := by unfold Addr.add; rw [if_neg hk]
theorem addBlock (a : Addr) (n : Nat) : (a.add n).block = a.block := by unfold Addr.add; split <;> rfl

theorem Script2.below {w w' : World} {v : Value} {n B : Nat} (h : Script2 w v n) (hb : Below B w w') (hlow : ∀ a, v.ownBlock = some a → 0 < n → a < B) : Script2 w' v n := by
  refine ⟨?_⟩
  rcases h.of with h0 | ⟨a, cap, rfl, h1, h2⟩
  · exact .inl h0
  · refine .inr ⟨a, cap, rfl, h1, fun i hi => ?_⟩
    have hab := hlow a.block rfl (by omega)
    obtain ⟨K, A, B', C, s, k0, k1, k2, k3, k4, h⟩ := h2 i hi
    exact ⟨K, A, B', C, s, (hb.cell (by rw [addBlock]; exact hab)).trans k0, (hb.cell (by rw [addBlock, addBlock]; exact hab)).trans k1, (hb.cell (by rw [addBlock, addBlock]; exact hab)).trans k2,
      (hb.cell (by rw [addBlock, addBlock]; exact hab)).trans k3, (hb.cell (by rw [addBlock, addBlock]; exact hab)).trans k4, h⟩

set_option maxRecDepth 100000 in
set_option maxHeartbeats 2000000 in
theorem play2_any (B0 wb : Nat) (rv : Value) (FX : Nat → Prop) (X : World → Prop) (N : Nat) (v : Value) (n : Nat) (w : World) (L : LX B0 wb (.slice none 0 0) rv FX X N w) (hB : B0 ≤ w.heap.size) (hS : Script2 w v n) (hlow : ∀ a, v.ownBlock = some a → 0 < n → a < B0) (hN : N + 4 * n ≤ 4900000) :
    Calls Tryz.prog 11 #[.pointer (some ⟨wb, 0, none⟩), v, .int .i64 7] w fun e w' => e = .returned (.bool true) ∧ Below B0 w w' := by
  obtain ⟨va, vc, hv⟩ : ∃ va vc, v = .slice va n vc := by
    rcases hS.of with ⟨rfl, rfl⟩ | ⟨a, cap, rfl, _⟩
    · exact ⟨_, _, rfl⟩
    · exact ⟨_, _, rfl⟩
  subst hv
  go_enter Tryz.func11, Tryz.ntmps11
  go_wp2
  go_loopw [7, 8, 9] (fun i _ _ wr => ∃ p : Nat, p ≤ n ∧ i = .int .i64 p ∧ LX B0 wb (.slice none 0 0) rv FX X (N + 4 * p) wr ∧ Below B0 w wr) (fun i _ _ _ => n - (intOf i).toNat)
  case atStart => exact ⟨0, by omega, rfl, L, Below.refl _ _⟩
  case round =>
    clear L
    obtain ⟨p, hp, rfl, L, hb⟩ := hrel
    have hz := hb.size
    by_cases hlt : p < n
    · obtain ⟨a, rfl, hab, K, A, B, C, s, k0, k1, k2, k3, k4, hss, hCC, hAA, _⟩ : ∃ a, va = some a ∧ a.block < B0 ∧ ∃ (K A B C : Int) (s : ByteArray), w.cell? (a.add (p * 5)) = some (.int .i64 K) ∧ w.cell? ((a.add (p * 5)).add 1) = some (.int .i64 A) ∧ w.cell? ((a.add (p * 5)).add 2) = some (.int .i64 B) ∧ w.cell? ((a.add (p * 5)).add 3) = some (.int .i64 C) ∧ w.cell? ((a.add (p * 5)).add 4) = some (.string s) ∧
          s.size ≤ 1099511627776 ∧ (-9223372036854775808 ≤ C ∧ C ≤ 9223372036854775807) ∧ (-9223372036854775808 ≤ A ∧ A ≤ 9223372036854775807) ∧ (-9223372036854775808 ≤ B ∧ B ≤ 9223372036854775807) := by
        rcases hS.of with ⟨_, h0⟩ | ⟨a, cap, e1, _, h1⟩
        · omega
        · injection e1 with e1
          subst e1
          exact ⟨a, rfl, hlow a.block rfl (by omega), h1 p hlt⟩
      have c0 := (hb.cell (p := a.add (p * 5)) (by rw [addBlock]; exact hab)).trans k0
      have c1 := (hb.cell (p := (a.add (p * 5)).add 1) (by rw [addBlock, addBlock]; exact hab)).trans k1
      have c2 := (hb.cell (p := (a.add (p * 5)).add 2) (by rw [addBlock, addBlock]; exact hab)).trans k2
      have c3 := (hb.cell (p := (a.add (p * 5)).add 3) (by rw [addBlock, addBlock]; exact hab)).trans k3
      have c4 := (hb.cell (p := (a.add (p * 5)).add 4) (by rw [addBlock, addBlock]; exact hab)).trans k4
      have HSS : Hid (s.size ≤ 1099511627776) := hss
      have HCC : Hid (-9223372036854775808 ≤ C ∧ C ≤ 9223372036854775807) := hCC
      have HAA : Hid (-9223372036854775808 ≤ A ∧ A ≤ 9223372036854775807) := hAA
      clear k0 k1 k2 k3 k4 hss hCC hAA
      rw [addPos _ (by decide)] at c1 c2 c3 c4
      by_cases hK : 7 < K
      · go_wp2
        exact ⟨⟨p + 1, by omega, by go_num, L.mono (by omega), hb⟩, by simp [intOf]; omega⟩
      · have hK3 : K ≤ 7 := by omega
        go_wp2_with fail
        refine (step2_any B0 wb rv FX X (N + 4 * p) wr L (by omega) (by omega) K A B C s hK3 HSS.out HCC.out.1 HCC.out.2 HAA.out.1 HAA.out.2).mono ?_
        rintro e w1 ⟨rfl, L1, hb1⟩
        have hz1 := hb1.size
        clear c0 c1 c2 c3 c4
        go_wp2_with fail
        obtain ⟨bv, qv, lv, tv, mv, dv, ls, ts, ms, ds, its, h1, h2, h3, h4⟩ := L1
        refine (kept2_any B0 wb bv qv _ rv lv tv mv dv ls ts ms ds w1 h1.wd h1.lists h1.texts (by omega) (by omega)).mono ?_
        rintro e w2 ⟨rfl, hst⟩
        have L2 : LX B0 wb (.slice none 0 0) rv FX X (N + 4 * p + 4) w2 := LX.below ⟨bv, qv, lv, tv, mv, dv, ls, ts, ms, ds, its, h1, h2, h3, h4⟩ (still_below hst _ (Nat.le_refl _))
        have hb2 : Below B0 w w2 := (hb.trans hb1).trans (still_below hst _ (by omega))
        clear h1 h2 h3 h4 hst
        go_wp2
        exact ⟨⟨p + 1, by omega, by go_num, L2.mono (by omega), hb2⟩, by simp [intOf]; omega⟩
    · have hp' : p = n := by omega
      subst hp'
      go_wp2
      go_ret
      exact ⟨rfl, hb⟩

abbrev nilW : Value := .slice none 0 0
theorem lx_new (w : World) : LX w.heap.size w.heap.size nilW nilW (fun _ => False) (fun _ => True) 0 (w.alloc (.cells #[nilW, nilW, nilW, nilW, nilW, nilW, nilW, nilW] 33)) := by
  refine ⟨nilW, nilW, nilW, nilW, nilW, nilW, [], [], [], [], [], ⟨Nat.le_refl _, heap_alloc_new w _, ⟨rfl, World.ownsRow_nil _ _ _ _, World.ownsRow_nil _ _ _ _, fun i l m h => by simp at h, fun l h => by simp at h⟩,
    ⟨rfl, World.ownsRow_nil _ _ _ _, World.ownsRow_nil _ _ _ _, fun i l m h => by simp at h, fun l h => by simp at h⟩, ⟨World.ownsRow_nil _ _ _ _, World.ownsRow_nil _ _ _ _, fun i h => by simp at h, fun i h => by simp at h⟩, trivial, ⟨fun _ _ _ _ _ _ => trivial, fun _ _ _ h => h.elim⟩, ?_, ?_, ?_, fun _ h => h.elim⟩, Nat.le_refl _, Nat.le_refl _, Nat.le_refl _⟩
  all_goals
    intro k hk
    rcases hk with hk | hk | ⟨l, hl, _⟩
    · cases hk
    · cases hk
    · simp at hl

set_option maxRecDepth 100000 in
set_option maxHeartbeats 2000000 in
theorem coded2_any (v : Value) (n : Nat) (w : World) (hS : Script2 w v n) (hlow : ∀ a, v.ownBlock = some a → 0 < n → a < w.heap.size) (hn : n ≤ 1048576) :
    Calls Tryz.prog 4 #[v] w fun e w' => e = .returned (.bool true) ∧ Below w.heap.size w w' := by
  have L0 := lx_new w
  have hb0 : Below w.heap.size w (w.alloc (.cells #[nilW, nilW, nilW, nilW, nilW, nilW, nilW, nilW] 33)) := (Below.refl _ _).alloc (Nat.le_refl _) _
  go_enter Tryz.func4, Tryz.ntmps4
  go_wp2_with fail
  refine (step2_any w.heap.size w.heap.size nilW _ _ 0 _ L0 (by simp) (by omega) 4 0 0 0 _ (by omega) (by decide) (by omega) (by omega) (by omega) (by omega)).mono ?_
  rintro e w1 ⟨rfl, L1, hb1⟩
  have hb2 := hb0.trans hb1
  have hz := hb2.size
  go_wp2_with fail
  refine (play2_any w.heap.size w.heap.size nilW _ _ 4 v n w1 L1 hz (hS.below hb2 hlow) hlow (by omega)).mono ?_
  rintro e w2 ⟨rfl, hb3⟩
  go_wp2
  go_ret
  exact ⟨rfl, hb2.trans hb3⟩

end Go.Proofs.YtopihgmemnokkaaGreat

namespace Go.Proofs.YtopihgmemnokkaaGreat
open Go.RowKit

/-- an index, the program's (block b) and the document's (block q), in the blocks from a up to z -/
structure II where
  a : Nat
  z : Nat
  b : Nat
  q : Nat
  t : ByteArray
  rate : Int
structure II.At (PI : Lay) (i : II) (w : World) : Prop where
  idx : PI i.a i.z i.b i.t i.rate w
  ref : IAt w i.q i.t i.rate
  rq : i.a ≤ i.q ∧ i.q < i.z
  top : i.z ≤ w.heap.size
  ok : BuildOk i.t i.rate
theorem II.At.keep {PI : Lay} (hP : PI.Ok) {i : II} {P : Nat → Prop} {w w' : World} (h : i.At PI w) (hk : Kept P w w') (hn : ∀ k, i.a ≤ k → k < i.z → ¬ P k) : i.At PI w' :=
  ⟨hP.keep _ _ _ _ _ _ _ _ h.idx hk hn, h.ref.keep hk (hn _ h.rq.1 h.rq.2), h.rq, Nat.le_trans h.top hk.size, h.ok⟩
/-- the indexes that came out: the program's list, the document's -/
structure IdxP (PI : Lay) (B0 : Nat) (xv rv : Value) (iis : List II) (w : World) : Prop where
  own : w.ownsRow B0 42 1 xv iis.length (iis.map fun i => .pointer (some ⟨i.b, 0, none⟩))
  ref : w.ownsRow B0 60 1 rv iis.length (iis.map fun i => .pointer (some ⟨i.q, 0, none⟩))
  all : ∀ i, i ∈ iis → i.At PI w
  sep : ∀ i, i ∈ iis → ∀ k, i.a ≤ k → k < i.z → xv.ownBlock ≠ some k ∧ rv.ownBlock ≠ some k
/-- their blocks -/
def FI (xv rv : Value) (iis : List II) (k : Nat) : Prop := xv.ownBlock = some k ∨ rv.ownBlock = some k ∨ ∃ i, i ∈ iis ∧ i.a ≤ k ∧ k < i.z
theorem IdxP.keepO {PI : Lay} (hI : PI.Ok) {P : Nat → Prop} {B0 : Nat} {w w' : World} {xv rv : Value} {iis : List II} (h : IdxP PI B0 xv rv iis w) (hk : Kept P w w') (hP : ∀ k, FI xv rv iis k → ¬ P k) : IdxP PI B0 xv rv iis w' :=
  ⟨own_keep h.own hk (fun g hg => hP g (.inl hg)), own_keep h.ref hk (fun g hg => hP g (.inr (.inl hg))), fun i hi => (h.all i hi).keep hI hk (fun k h1 h2 => hP k (.inr (.inr ⟨i, hi, h1, h2⟩))), h.sep⟩
theorem IdxP.lt {PI : Lay} {B0 : Nat} {w : World} {xv rv : Value} {iis : List II} (h : IdxP PI B0 xv rv iis w) (k : Nat) (hk : FI xv rv iis k) : k < w.heap.size := by
  rcases hk with hk | hk | ⟨i, hi, _, hk⟩
  · exact (h.own.lt k hk).2
  · exact (h.ref.lt k hk).2
  · exact Nat.lt_of_lt_of_le hk (h.all i hi).top
theorem IdxP.closed {PI : Lay} (hI : PI.Ok) (B0 : Nat) (xv rv : Value) (iis : List II) : Closed (FI xv rv iis) (IdxP PI B0 xv rv iis) :=
  ⟨fun _ _ _ h hk hP => h.keepO hI hk hP, fun _ h => h.lt⟩
theorem Wd.set2 {w : World} {wb : Nat} {v0 v1 v2 v3 v4 v5 v6 v7 : Value} (h : Wd w wb v0 v1 v2 v3 v4 v5 v6 v7) (v : Value) : Wd (w.setCell ⟨wb, 2, none⟩ v) wb v0 v1 v v3 v4 v5 v6 v7 := by
  unfold Wd at *; simp [World.setCell, Array.getElem?_modify, h]
theorem Wd.set3 {w : World} {wb : Nat} {v0 v1 v2 v3 v4 v5 v6 v7 : Value} (h : Wd w wb v0 v1 v2 v3 v4 v5 v6 v7) (v : Value) : Wd (w.setCell ⟨wb, 3, none⟩ v) wb v0 v1 v2 v v4 v5 v6 v7 := by
  unfold Wd at *; simp [World.setCell, Array.getElem?_modify, h]
section
variable {PI : Lay} {B0 wb : Nat} {xv rv : Value} {iis : List II} {w : World} {bv qv lv tv mv dv : Value} {ls ts : List Value} {ms : List Int} {ds : List ByteArray} {its : List BI} {N : Nat}
/-- one index more -/
theorem LXat.pushX (hI : PI.Ok) (h : LXat B0 wb xv rv (FI xv rv iis) (IdxP PI B0 xv rv iis) w bv qv lv tv mv dv ls ts ms ds its) (it : II) (hit : it.At PI w) (hlow : ∀ k, FL lv mv ls k ∨ FL tv dv ts k ∨ FB bv qv its k ∨ FI xv rv iis k → k < it.a) (hwb : wb < it.a)
    {wA wB : World} {g1 c1 g2 c2 : Nat} (kA : Kept (fun k => xv.ownBlock = some k ∨ k = wb) w wA) (kB : Kept (fun k => rv.ownBlock = some k ∨ k = wb) wA wB)
    (oA : wA.ownsRow B0 42 1 (.slice (some ⟨g1, 0, none⟩) (iis.length + 1) c1) (iis.length + 1) ((iis.map fun i => .pointer (some ⟨i.b, 0, none⟩)) ++ [.pointer (some ⟨it.b, 0, none⟩)]))
    (oB : wB.ownsRow B0 60 1 (.slice (some ⟨g2, 0, none⟩) (iis.length + 1) c2) (iis.length + 1) ((iis.map fun i => .pointer (some ⟨i.q, 0, none⟩)) ++ [.pointer (some ⟨it.q, 0, none⟩)]))
    (hA : xv.ownBlock = some g1 ∨ w.heap.size < g1) (hB : rv.ownBlock = some g2 ∨ wA.heap.size < g2)
    (hw : Wd wB wb bv qv (.slice (some ⟨g1, 0, none⟩) (iis.length + 1) c1) (.slice (some ⟨g2, 0, none⟩) (iis.length + 1) c2) lv tv mv dv) (qA : wA.ownsRow B0 60 1 rv iis.length (iis.map fun i => .pointer (some ⟨i.q, 0, none⟩))) :
    LXat B0 wb (.slice (some ⟨g1, 0, none⟩) (iis.length + 1) c1) (.slice (some ⟨g2, 0, none⟩) (iis.length + 1) c2) (FI (.slice (some ⟨g1, 0, none⟩) (iis.length + 1) c1) (.slice (some ⟨g2, 0, none⟩) (iis.length + 1) c2) (iis ++ [it]))
      (IdxP PI B0 (.slice (some ⟨g1, 0, none⟩) (iis.length + 1) c1) (.slice (some ⟨g2, 0, none⟩) (iis.length + 1) c2) (iis ++ [it])) wB bv qv lv tv mv dv ls ts ms ds its := by
  have hAs := kA.size
  have htop := hit.top
  have hk : Kept (fun k => xv.ownBlock = some k ∨ rv.ownBlock = some k ∨ k = wb) w wB :=
    Kept.trans' (kA.mono (Q := fun k => xv.ownBlock = some k ∨ rv.ownBlock = some k ∨ k = wb) (fun k _ h => h.elim .inl (fun h => .inr (.inr h)))) kB (fun i _ h => h.elim (fun h => .inr (.inl h)) (fun h => .inr (.inr h)))
  have fbn : ∀ k, FI (.slice (some ⟨g1, 0, none⟩) (iis.length + 1) c1) (.slice (some ⟨g2, 0, none⟩) (iis.length + 1) c2) (iis ++ [it]) k → FI xv rv iis k ∨ it.a ≤ k := by
    intro k hk2
    rcases hk2 with hk2 | hk2 | ⟨i, hi, h1, h2⟩
    · have : g1 = k := by simpa [Value.ownBlock] using hk2
      subst this
      rcases hA with hA | hA
      · exact .inl (.inl hA)
      · exact .inr (by have := hit.rq; omega)
    · have : g2 = k := by simpa [Value.ownBlock] using hk2
      subst this
      rcases hB with hB | hB
      · exact .inl (.inr (.inl hB))
      · exact .inr (by have := hit.rq; omega)
    · rw [List.mem_append] at hi
      rcases hi with hi | hi
      · exact .inl (.inr (.inr ⟨i, hi, h1, h2⟩))
      · have : i = it := by simpa using hi
        subst this
        exact .inr h1
  have notP : ∀ k, (FL lv mv ls k ∨ FL tv dv ts k ∨ FB bv qv its k) → ¬ (xv.ownBlock = some k ∨ rv.ownBlock = some k ∨ k = wb) := by
    intro k hk2 hP
    have hFX : k ≠ wb → FI xv rv iis k := fun hn => by
      rcases hP with h1 | h1 | h1
      · exact .inl h1
      · exact .inr (.inl h1)
      · exact absurd h1 hn
    rcases hk2 with hk2 | hk2 | hk2
    · exact (h.d1 k hk2).2.2 (hFX (h.lists.wd h.wd k hk2))
    · exact (h.d2 k hk2).2 (hFX (h.texts.wd h.wd k hk2))
    · exact (h.d3 k hk2).1 (hFX (h.d3 k hk2).2)
  have new : ∀ k, it.a ≤ k → ¬ (FL lv mv ls k ∨ FL tv dv ts k ∨ FB bv qv its k ∨ FI xv rv iis k) ∧ k ≠ wb := by
    intro k h1
    exact ⟨fun h2 => by have := hlow k h2; omega, by omega⟩
  have itk : ∀ i, i ∈ iis ++ [it] → i.At PI wB := by
    intro i hi
    rw [List.mem_append] at hi
    rcases hi with hi | hi
    · refine (h.more.all i hi).keep hI hk (fun k h1 h2 hP => ?_)
      have hF : FI xv rv iis k := .inr (.inr ⟨i, hi, h1, h2⟩)
      have hs := h.more.sep i hi k h1 h2
      rcases hP with h3 | h3 | h3
      · exact hs.1 h3
      · exact hs.2 h3
      · exact h.d4 k hF h3
    · have : i = it := by simpa using hi
      subst this
      refine hit.keep hI hk (fun k h1 h2 hP => ?_)
      have hn := new k h1
      rcases hP with h3 | h3 | h3
      · exact hn.1 (.inr (.inr (.inr (.inl h3))))
      · exact hn.1 (.inr (.inr (.inr (.inr (.inl h3)))))
      · exact hn.2 h3
  have sep : ∀ i, i ∈ iis ++ [it] → ∀ k, i.a ≤ k → k < i.z → (Value.slice (some ⟨g1, 0, none⟩) (iis.length + 1) c1).ownBlock ≠ some k ∧ (Value.slice (some ⟨g2, 0, none⟩) (iis.length + 1) c2).ownBlock ≠ some k := by
    intro i hi k h1 h2
    have hz : k < w.heap.size ∧ xv.ownBlock ≠ some k ∧ rv.ownBlock ≠ some k := by
      rw [List.mem_append] at hi
      rcases hi with hi | hi
      · exact ⟨Nat.lt_of_lt_of_le h2 (h.more.all i hi).top, h.more.sep i hi k h1 h2⟩
      · have : i = it := by simpa using hi
        subst this
        have hn := (new k h1).1
        exact ⟨by omega, fun e => hn (.inr (.inr (.inr (.inl e)))), fun e => hn (.inr (.inr (.inr (.inr (.inl e)))))⟩
    exact ⟨own_far hA (fun h => by omega) hz.2.1, own_far hB (fun h => by omega) hz.2.2⟩
  refine ⟨h.low, hw, h.lists.keepO hk (fun k h1 => notP k (.inl h1)), h.texts.keepO hk (fun k h1 => notP k (.inr (.inl h1))), h.bits.keepO hk (fun k h1 => notP k (.inr (.inr h1))), ⟨?_, ?_, itk, sep⟩, IdxP.closed hI _ _ _ _, ?_, ?_, ?_, ?_⟩
  · rw [List.length_append, List.map_append]
    exact own_keep oA kB (fun a ha hP => by
      rcases hP with hP | hP
      · have := ne_of (owns_ne qA oA (by decide)) a ha
        exact this hP.symm
      · have hg : g1 = a := by simpa [Value.ownBlock] using ha
        subst hg hP
        rcases hA with hA | hA
        · exact h.d4 _ (.inl hA) rfl
        · have := hit.rq; omega)
  · rw [List.length_append, List.map_append]; exact oB
  · intro k hk2
    refine ⟨(h.d1 k hk2).1, (h.d1 k hk2).2.1, fun h2 => ?_⟩
    rcases fbn k h2 with h2 | h2
    · exact (h.d1 k hk2).2.2 h2
    · exact (new k h2).1 (.inl hk2)
  · intro k hk2
    refine ⟨(h.d2 k hk2).1, fun h2 => ?_⟩
    rcases fbn k h2 with h2 | h2
    · exact (h.d2 k hk2).2 h2
    · exact (new k h2).1 (.inr (.inl hk2))
  · intro k hk2
    refine ⟨fun h2 => ?_, (h.d3 k hk2).2⟩
    rcases fbn k h2 with h2 | h2
    · exact (h.d3 k hk2).1 h2
    · exact (new k h2).1 (.inr (.inr (.inl hk2)))
  · intro k hk2
    rcases fbn k hk2 with h2 | h2
    · exact h.d4 k h2
    · exact (new k h2).2
end
/-- the law's World with indexes -/
def LY (PI : Lay) (B0 wb : Nat) (N : Nat) (w : World) : Prop := ∃ xv rv iis, LX B0 wb xv rv (FI xv rv iis) (IdxP PI B0 xv rv iis) N w ∧ iis.length ≤ N
theorem LY.below {PI : Lay} {B0 wb N : Nat} {w w' : World} (h : LY PI B0 wb N w) (hb : Below w.heap.size w w') : LY PI B0 wb N w' := by
  obtain ⟨xv, rv, iis, h1, h2⟩ := h; exact ⟨xv, rv, iis, h1.below hb, h2⟩
theorem LY.mono {PI : Lay} {B0 wb N M : Nat} {w : World} (h : LY PI B0 wb N w) (hm : N ≤ M) : LY PI B0 wb M w := by
  obtain ⟨xv, rv, iis, h1, h2⟩ := h; exact ⟨xv, rv, iis, h1.mono hm, by omega⟩
theorem ly_of {PI : Lay} {B0 wb N M : Nat} {xv rv : Value} {iis : List II} {w : World} (h : LX B0 wb xv rv (FI xv rv iis) (IdxP PI B0 xv rv iis) M w) (hl : iis.length ≤ N) (hm : N ≤ M) : LY PI B0 wb M w := ⟨xv, rv, iis, h, by omega⟩
theorem ly_new {PI : Lay} (hI : PI.Ok) (w : World) : LY PI w.heap.size w.heap.size 0 (w.alloc (.cells #[nilW, nilW, nilW, nilW, nilW, nilW, nilW, nilW] 33)) := by
  refine ⟨nilW, nilW, [], ⟨nilW, nilW, nilW, nilW, nilW, nilW, [], [], [], [], [], ⟨Nat.le_refl _, heap_alloc_new w _, ⟨rfl, World.ownsRow_nil _ _ _ _, World.ownsRow_nil _ _ _ _, fun i l m h => by simp at h, fun l h => by simp at h⟩,
    ⟨rfl, World.ownsRow_nil _ _ _ _, World.ownsRow_nil _ _ _ _, fun i l m h => by simp at h, fun l h => by simp at h⟩, ⟨World.ownsRow_nil _ _ _ _, World.ownsRow_nil _ _ _ _, fun i h => by simp at h, fun i h => by simp at h⟩,
    ⟨World.ownsRow_nil _ _ _ _, World.ownsRow_nil _ _ _ _, fun i h => by simp at h, fun i h => by simp at h⟩, IdxP.closed hI _ _ _ _, ?_, ?_, ?_, ?_⟩, Nat.le_refl _, Nat.le_refl _, Nat.le_refl _⟩, Nat.le_refl _⟩
  all_goals
    intro k hk
    rcases hk with hk | hk | ⟨l, hl, _⟩
    · cases hk
    · cases hk
    · simp at hl
theorem Tryz.infoXB : (Tryz.prog.info? 42).map (fun i => (i.zero, i.size, i.bytes)) = some (some (.pointer none), 1, 8) := by kernel_rfl
theorem Tryz.infoXQ : (Tryz.prog.info? 60).map (fun i => (i.zero, i.size, i.bytes)) = some (some (.pointer none), 1, 8) := by kernel_rfl

end Go.Proofs.YtopihgmemnokkaaGreat

namespace Go.Proofs.YtopihgmemnokkaaGreat
open Go.RowKit

set_option maxRecDepth 100000 in
set_option maxHeartbeats 1000000 in
theorem joins_nil (wb : Nat) (w : World) :
    Calls Tryz.prog 59 #[.pointer (some ⟨wb, 0, none⟩), .pointer none, .pointer none] w fun e w' => e = .returned (.bool true) ∧ w' = w := by
  go_enter Tryz.func59, Tryz.ntmps59
  go_wp2
  go_ret
  exact ⟨rfl, rfl⟩
set_option maxRecDepth 100000 in
set_option maxHeartbeats 2000000 in
theorem joins_new (PI : Lay) (hI : PI.Ok) (B0 wb N : Nat) (w0 w2 : World) (L : LY PI B0 wb N w0) (hb2 : Below w0.heap.size w0 w2) (hB : B0 ≤ w0.heap.size) (hN : N ≤ 5000000) (b q : Nat) (t : ByteArray) (rate : Int)
    (hidx : PI w0.heap.size w2.heap.size b t rate w2) (hq : IAt w2 q t rate) (hql : w0.heap.size ≤ q) (hok : BuildOk t rate) :
    Calls Tryz.prog 59 #[.pointer (some ⟨wb, 0, none⟩), .pointer (some ⟨b, 0, none⟩), .pointer (some ⟨q, 0, none⟩)] w2 fun e w' => e = .returned (.bool true) ∧ LY PI B0 wb (N + 1) w' ∧ Below B0 w2 w' := by
  obtain ⟨i0, hi, hz0, hz1, hz2⟩ := info_parts Tryz.infoXB
  obtain ⟨j0, hj, hy0, hy1, hy2⟩ := info_parts Tryz.infoXQ
  obtain ⟨xv, rv, iis, ⟨bv, qv, lv, tv, mv, dv, ls, ts, ms, ds, its, h1, h2, h3, h4⟩, h5⟩ := L
  have hlow := h1.lts
  have hwbl := h1.wd.lt
  have LX2 := h1.below hb2
  have hit : (II.mk w0.heap.size w2.heap.size b q t rate).At PI w2 := ⟨hidx, hq, ⟨hql, hq.lt⟩, Nat.le_refl _, hok⟩
  have hlen : iis.length ≤ 5000000 := by omega
  have hzz : B0 ≤ w2.heap.size := Nat.le_trans hB hb2.size
  have FIN : Hid (∀ (wA wB : World) (g1 c1 g2 c2 : Nat), Kept (fun k => xv.ownBlock = some k ∨ k = wb) w2 wA → Kept (fun k => rv.ownBlock = some k ∨ k = wb) wA wB →
      wA.ownsRow B0 42 1 (.slice (some ⟨g1, 0, none⟩) (iis.length + 1) c1) (iis.length + 1) ((iis.map fun i => Value.pointer (some ⟨i.b, 0, none⟩)) ++ [.pointer (some ⟨b, 0, none⟩)]) →
      wB.ownsRow B0 60 1 (.slice (some ⟨g2, 0, none⟩) (iis.length + 1) c2) (iis.length + 1) ((iis.map fun i => Value.pointer (some ⟨i.q, 0, none⟩)) ++ [.pointer (some ⟨q, 0, none⟩)]) →
      (xv.ownBlock = some g1 ∨ w2.heap.size < g1) → (rv.ownBlock = some g2 ∨ wA.heap.size < g2) → Wd wB wb bv qv (.slice (some ⟨g1, 0, none⟩) (iis.length + 1) c1) (.slice (some ⟨g2, 0, none⟩) (iis.length + 1) c2) lv tv mv dv →
      wA.ownsRow B0 60 1 rv iis.length (iis.map fun i => Value.pointer (some ⟨i.q, 0, none⟩)) → LY PI B0 wb (N + 1) wB ∧ Below B0 w2 wB) := by
    intro wA wB g1 c1 g2 c2 kA kB oA oB hA hB' hw qA
    refine ⟨⟨_, _, iis ++ [_], ⟨bv, qv, lv, tv, mv, dv, ls, ts, ms, ds, its, LX2.pushX hI _ hit hlow hwbl kA kB oA oB hA hB' hw qA, by omega, by omega, by omega⟩, by rw [List.length_append]; show iis.length + 1 ≤ N + 1; omega⟩, ?_⟩
    refine kB.bel (kA.bel (Below.refl _ _) hzz ?_) hzz ?_
    · rintro k (hk | rfl)
      · exact (LX2.more.own.lt k hk).1
      · exact h1.low
    · rintro k (hk | rfl)
      · exact (LX2.more.ref.lt k hk).1
      · exact h1.low
  have hWd := LX2.wd
  have hO := LX2.more.own
  have hR := LX2.more.ref
  obtain ⟨ba, bc, rfl⟩ := own_slice hO
  have P1 := fun (g cap : Nat) (w' : World) hown hd => push_row (w' := w') hWd hO (by decide) (Obj.cells #[Value.pointer (some ⟨b, 0, none⟩)] 42) (g := g) (cap := cap) (u := .pointer (some ⟨b, 0, none⟩)) hown hd 2
  have c0 := hWd.cell 2
  simp only [List.getElem?_toArray, List.getElem?_cons_succ, List.getElem?_cons_zero] at c0
  have HR : Hid (w2.ownsRow B0 60 1 rv iis.length (iis.map fun i => Value.pointer (some ⟨i.q, 0, none⟩))) := hR
  have HWd : Hid (Wd w2 wb bv qv (.slice ba iis.length bc) rv lv tv mv dv) := hWd
  have HO : Hid (w2.ownsRow B0 42 1 (.slice ba iis.length bc) iis.length (iis.map fun i => Value.pointer (some ⟨i.b, 0, none⟩))) := hO
  clear hit LX2 h1 h2 h3 h4 h5 hlow hwbl hq hidx hb2 hR hWd hO hok
  go_enter Tryz.func59, Tryz.ntmps59
  go_wp2_with (at_builtin; (refine wpList_append_two _ rfl _ _ 26 rfl B0 42 i0 (.pointer none) 8 Tryz.underlying26 hi hz0 hz1 hz2 rfl _ _ _ rfl (HO.out.alloc _) ⟨w2.heap.size, 0, none⟩ 1 (.pointer (some ⟨b, 0, none⟩)) rfl ?c1 ?c2 ?c3 ?c4 ?c5 ?_))
  case c1 => exact cell_one_new _ _ _
  case c2 => rfl
  case c3 => unfold maxLen; omega
  case c4 => omega
  case c5 => simp; omega
  intro g1 cap1 w3 hown hlt1 hd
  obtain ⟨q1, q2, q3, q4⟩ := P1 g1 cap1 w3 hown (hd.imp id (fun h => ⟨by simpa using h.1, h.2⟩))
  obtain ⟨wA, hwA⟩ : ∃ wA, wA = w3.setCell ⟨wb, 2, none⟩ (.slice (some ⟨g1, 0, none⟩) (iis.length + 1) cap1) := ⟨_, rfl⟩
  have hWA : Wd wA wb bv qv (.slice (some ⟨g1, 0, none⟩) (iis.length + 1) cap1) rv lv tv mv dv := by rw [hwA]; exact q1.set2 _
  rw [← hwA] at q2 q3
  have hRA := own_keep HR.out q2 (fun a ha hP => by
    rcases hP with hP | hP
    · exact ne_of (owns_ne HO.out HR.out (by decide)) a ha hP.symm
    · exact HWd.out.ne HR.out (by decide) (by rw [ha, hP]))
  have c0 := q1.cell 2
  simp only [List.getElem?_toArray, List.getElem?_cons_succ, List.getElem?_cons_zero] at c0
  have f0 := q1.frozen 2
  obtain ⟨qa, qc, rfl⟩ := own_slice hRA
  have P2 := fun (g cap : Nat) (w' : World) hown hd => push_row (w' := w') hWA hRA (by decide) (Obj.cells #[Value.pointer (some ⟨q, 0, none⟩)] 60) (g := g) (cap := cap) (u := .pointer (some ⟨q, 0, none⟩)) hown hd 3
  have c1 := hWA.cell 3
  simp only [List.getElem?_toArray, List.getElem?_cons_succ, List.getElem?_cons_zero] at c1
  have hzA : B0 ≤ wA.heap.size := Nat.le_trans hzz q2.size
  have hF2 := fun wB g2 c2 k1 k2 k3 k4 => FIN.out wA wB g1 cap1 g2 c2 q2 k1 q3 k2 q4 k3 k4 hRA
  have HF2 : Hid _ := hF2
  have HRA : Hid (wA.ownsRow B0 60 1 (.slice qa iis.length qc) iis.length (iis.map fun i => Value.pointer (some ⟨i.q, 0, none⟩))) := hRA
  have HP2 : Hid _ := P2
  clear P1 hown hd q1 q2 q3 q4 HR HO HWd FIN hWA hRA hF2 P2
  subst hwA
  go_wp2_with (at_builtin; (refine wpList_append_two _ rfl _ _ 27 rfl B0 60 j0 (.pointer none) 8 Tryz.underlying27 hj hy0 hy1 hy2 rfl _ _ _ rfl (HRA.out.alloc _) ⟨w3.heap.size, 0, none⟩ 1 (.pointer (some ⟨q, 0, none⟩)) rfl ?d1 ?d2 ?d3 ?d4 ?d5 ?_))
  case d1 => exact cell_one_at (by simp)
  case d2 => rfl
  case d3 => unfold maxLen; omega
  case d4 => omega
  case d5 => simp at hzA ⊢; omega
  intro g2 cap2 w4 hown hlt2 hd
  obtain ⟨q1, q2, q3, q4⟩ := HP2.out g2 cap2 w4 hown (hd.imp id (fun h => ⟨by simpa using h.1, h.2⟩))
  have hf := HF2.out _ g2 cap2 q2 q3 q4 (q1.set3 _)
  have c1 := q1.cell 3
  simp only [List.getElem?_toArray, List.getElem?_cons_succ, List.getElem?_cons_zero] at c1
  have f1 := q1.frozen 3
  have HFF : Hid _ := hf
  clear hown hd q1 q2 q3 q4 HF2 HP2 HRA hf c0 f0
  go_wp2
  go_ret
  exact ⟨rfl, HFF.out.1, HFF.out.2⟩
set_option maxRecDepth 100000 in
set_option maxHeartbeats 2000000 in
theorem builds_any (PI : Lay) (hI : PI.Ok) (hS : PI.Says) (B0 wb N : Nat) (w : World) (L : LY PI B0 wb N w) (hB : B0 ≤ w.heap.size) (hN : N ≤ 5000000) (t : ByteArray) (rate : Int) (ht : t.size ≤ 1099511627776) (hr1 : -9223372036854775808 ≤ rate) (hr2 : rate ≤ 9223372036854775807) :
    Calls Tryz.prog 23 #[.pointer (some ⟨wb, 0, none⟩), .string t, .int .i64 rate] w fun e w' => e = .returned (.bool true) ∧ LY PI B0 wb (N + 1) w' ∧ Below B0 w w' := by
  have HBd : Hid (Calls Tryz.prog 29 #[.string t, .int .i64 rate] w fun e w' =>
    (¬ BuildOk t rate ∧ e = .returned (.tuple #[.pointer none, .int .i64 (buildErr t rate)]) ∧ Below w.heap.size w w') ∨
    (BuildOk t rate ∧ ∃ b, e = .returned (.tuple #[.pointer (some ⟨b, 0, none⟩), .int .i64 0]) ∧ PI w.heap.size w'.heap.size b t rate w' ∧ Below w.heap.size w w')) := hS.build t rate w ht hr1 hr2
  have HL : Hid (LY PI B0 wb N w) := L
  clear L ht hr1 hr2
  go_enter Tryz.func23, Tryz.ntmps23
  go_wp2_with fail
  refine HBd.out.mono ?_
  rintro e w1 (⟨hno, rfl, hb1⟩ | ⟨hok, b, rfl, hP, hb1⟩)
  · have HB1 : Hid (Below w.heap.size w w1) := hb1
    have HNO : Hid (¬ BuildOk t rate) := hno
    generalize hbe : buildErr t rate = be at *
    clear hno hb1 HBd
    go_wp2_with fail
    refine (refBuild_any t rate w1).mono ?_
    rintro e w2 (⟨_, rfl, rfl⟩ | ⟨h2, _⟩)
    · rw [hbe]
      clear hbe
      go_wp2_with fail
      refine (joins_nil wb _).mono ?_
      rintro e w3 ⟨rfl, rfl⟩
      have hbb : (be == be) = true := by simp
      go_wp2_with fail
      refine (num_any be _).mono ?_
      rintro e w4 ⟨rfl, rfl⟩
      go_wp2
      go_ret
      exact ⟨rfl, (HL.out.below HB1.out).mono (by omega), HB1.out.mono hB⟩
    · exact absurd h2 HNO.out
  · have HB1 : Hid (Below w.heap.size w w1) := hb1
    have HOK : Hid (BuildOk t rate) := hok
    have HP : Hid (PI w.heap.size w1.heap.size b t rate w1) := hP
    clear hok hb1 hP HBd
    go_wp2_with fail
    refine (refBuild_any t rate w1).mono ?_
    rintro e w2 (⟨h2, _⟩ | ⟨_, q, rfl, hq, hql, hb2⟩)
    · exact absurd HOK.out h2
    · have HB2 : Hid (Below w.heap.size w w2) := HB1.out.trans (hb2.mono HB1.out.size)
      have HP2 : Hid (PI w.heap.size w2.heap.size b t rate w2) := hI.more _ _ _ _ _ _ _ (hI.keep _ _ _ _ _ _ _ _ HP.out (Kept.of_below hb2 (Nat.le_refl _) (fun _ => False)) (fun _ _ _ h => h)) hb2.size (Nat.le_refl _)
      have HQ : Hid (IAt w2 q t rate) := hq
      have HQL : Hid (w.heap.size ≤ q) := Nat.le_trans HB1.out.size hql
      clear hq hql hb2
      go_wp2_with fail
      refine (joins_new PI hI B0 wb N w w2 HL.out HB2.out hB hN b q t rate HP2.out HQ.out HQL.out HOK.out).mono ?_
      rintro e w3 ⟨rfl, hL3, hb3⟩
      have HL3 : Hid (LY PI B0 wb (N + 1) w3) := hL3
      have HB3 : Hid (Below B0 w w3) := (HB2.out.mono hB).trans hb3
      clear hL3 hb3
      go_wp2_with fail
      refine (num_any 0 _).mono ?_
      rintro e w4 ⟨rfl, hw4⟩
      subst hw4
      go_wp2
      go_ret
      exact ⟨rfl, HL3.out, HB3.out⟩

end Go.Proofs.YtopihgmemnokkaaGreat

