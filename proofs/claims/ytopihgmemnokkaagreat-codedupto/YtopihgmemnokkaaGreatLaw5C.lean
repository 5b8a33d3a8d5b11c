import Derived.Test.YtopihgmemnokkaaGreatLaw3C
import Derived.Deep.RegionHeld3
namespace Go.Proofs.YtopihgmemnokkaaGreat
open Go.RowKit

/-- which of n things a raw number speaks of -/
def pickV (c n : Int) : Nat := ((if c < 0 then -(c + 1) else c) % n).toNat
theorem pickV_lt (c : Int) {n : Nat} (hn : 0 < n) : pickV c n < n := by
  unfold pickV
  have h1 := Int.emod_nonneg (if c < 0 then -(c + 1) else c) (show (n : Int) ≠ 0 by omega)
  have h2 := Int.emod_lt_of_pos (if c < 0 then -(c + 1) else c) (show (0 : Int) < n by omega)
  omega

set_option maxHeartbeats 400000 in
theorem lawpick_any (c n : Int) (w : World) (h1 : -9223372036854775808 ≤ c) (h2 : c ≤ 9223372036854775807) (hn : 1 ≤ n) (hn2 : n ≤ 100000000) :
    Calls Tryz.prog 25 #[.int .i64 c, .int .i64 n] w fun e w' => e = .returned (.int .i64 (pickV c n : Nat)) ∧ w' = w := by
  by_cases h : c < 0
  · go_enter Tryz.func25, Tryz.ntmps25
    go_wp2
    go_ret
    have e1 : -((c + 1).tmod n) = (-(c + 1)) % n := by rw [← Int.neg_tmod, Int.tmod_eq_emod_of_nonneg (by omega)]
    have e2 := Int.emod_nonneg (-(c + 1)) (show n ≠ 0 by omega)
    exact ⟨ret_int (by unfold pickV; rw [if_pos h]; omega), rfl⟩
  · go_enter Tryz.func25, Tryz.ntmps25
    go_wp2
    go_ret
    have e2 := Int.emod_nonneg c (show n ≠ 0 by omega)
    exact ⟨ret_int (by unfold pickV; rw [if_neg (by omega)]; omega), rfl⟩

set_option maxRecDepth 100000 in
set_option maxHeartbeats 2000000 in
theorem bits_new (B0 wb : Nat) (xv rv : Value) (FX : Nat → Prop) (X : World → Prop) (N : Nat) (w : World) (L : LX B0 wb xv rv FX X N w) (hB : B0 ≤ w.heap.size) (hN : N ≤ 5000000) (A B C : Int) (s : ByteArray) (hs : s.size ≤ 1099511627776) :
    Calls Tryz.prog 22 #[.pointer (some ⟨wb, 0, none⟩), .agg #[.int .i64 4, .int .i64 A, .int .i64 B, .int .i64 C, .string s]] w fun e w' => e = .returned (.bool true) ∧ LX B0 wb xv rv FX X (N + 4) w' ∧ Below B0 w w' := by
  obtain ⟨i0, hi, hz0, hz1, hz2⟩ := info_parts Tryz.infoPB
  obtain ⟨j0, hj, hy0, hy1, hy2⟩ := info_parts Tryz.infoPQ
  have hbx := fun w' hb => box_cell w 4 A B C s (w' := w') hb 4
  simp only [List.getElem?_toArray, List.getElem?_cons_succ, List.getElem?_cons_zero] at hbx
  have hW : Below B0 w (w.alloc (opBox 4 A B C s)) := (Below.refl _ _).alloc (by omega) _
  have hL0 : LX B0 wb xv rv FX X N (w.alloc (opBox 4 A B C s)) := L.below ((Below.refl _ _).alloc (Nat.le_refl _) _)
  have hsz : (w.alloc (opBox 4 A B C s)).heap.size = w.heap.size + 1 := by simp
  clear L
  go_enter Tryz.func22, Tryz.ntmps22
  go_wp2_with fail
  obtain ⟨W0, hW0⟩ : ∃ W0, W0 = w.alloc (opBox 4 A B C s) := ⟨_, rfl⟩
  rw [← hW0] at hbx hW hL0 hsz ⊢
  clear hW0
  refine (newBits_any s W0 hs).mono ?_
  rintro e w1 ⟨hB1, h1⟩
  have c4 := hbx w1 (hsz ▸ hB1)
  have hz1' := hB1.size
  rcases h1 with ⟨hnp, rfl⟩ | ⟨hp, b, rfl, hb⟩
  · go_wp2_with fail
    refine (refNewBits_any s w1 hs).mono ?_
    rintro e w2 (⟨_, rfl, rfl⟩ | ⟨h2, _⟩)
    · clear c4
      go_wp2_with fail
      refine (num_any 4 _).mono ?_
      rintro e w5 ⟨rfl, rfl⟩
      go_wp2
      go_ret
      exact ⟨rfl, (hL0.below hB1).mono (by omega), hW.trans (hB1.mono (by omega))⟩
    · exact absurd h2 hnp
  · go_wp2_with fail
    refine (refNewBits_any s w1 hs).mono ?_
    rintro e w2 (⟨h2, _⟩ | ⟨_, rfl, h2⟩)
    · exact absurd hp h2
    · have hB2 : Below w1.heap.size w1 w2 := by rw [h2]; exact (Below.refl _ _).alloc (Nat.le_refl _) _
      have hz2' : w2.heap.size = w1.heap.size + 1 := by rw [h2]; simp
      have hq : QAt w2 w1.heap.size s := by rw [h2]; exact heap_alloc_new w1 _
      have hb2 : Below W0.heap.size W0 w2 := hB1.trans (hB2.mono hz1')
      clear c4 h2
      go_wp2_with fail
      refine (num_any 0 _).mono ?_
      rintro e w5 ⟨rfl, hw5⟩
      have hw5 := hw5.symm
      subst hw5
      obtain ⟨bv, qv, lv, tv, mv, dv, ls, ts, ms, ds, its, h1, h2, h3, h4⟩ := hL0
      have hlow := h1.lts
      have hwbl := h1.wd.lt
      have LX2 := h1.below hb2
      have hit : (BI.mk W0.heap.size w2.heap.size b w1.heap.size s).At w2 := by
        refine ⟨?_, hq, ⟨hz1', by show w1.heap.size < w2.heap.size; omega⟩, Nat.le_refl _, hs⟩
        obtain ⟨wv, av, hbl⟩ := hb
        refine ⟨wv, av, hbl.below hB2, ?_⟩
        intro k hk
        rcases hk with rfl | hk | hk
        · exact ⟨hbl.low, by have := hbl.four.lt; show _ < w2.heap.size; omega⟩
        · have := hbl.words.lt k hk; exact ⟨this.1, by show _ < w2.heap.size; omega⟩
        · have := hbl.ahead.lt k hk; exact ⟨this.1, by show _ < w2.heap.size; omega⟩
      have hlen : its.length ≤ 5000000 := by omega
      have FIN : Hid (∀ (wA wB : World) (g1 c1 g2 c2 : Nat), Kept (fun k => bv.ownBlock = some k ∨ k = wb) w2 wA → Kept (fun k => qv.ownBlock = some k ∨ k = wb) wA wB →
          wA.ownsRow B0 95 1 (.slice (some ⟨g1, 0, none⟩) (its.length + 1) c1) (its.length + 1) ((its.map fun i => Value.pointer (some ⟨i.b, 0, none⟩)) ++ [.pointer (some ⟨b, 0, none⟩)]) →
          wB.ownsRow B0 98 1 (.slice (some ⟨g2, 0, none⟩) (its.length + 1) c2) (its.length + 1) ((its.map fun i => Value.pointer (some ⟨i.q, 0, none⟩)) ++ [.pointer (some ⟨w1.heap.size, 0, none⟩)]) →
          (bv.ownBlock = some g1 ∨ w2.heap.size < g1) → (qv.ownBlock = some g2 ∨ wA.heap.size < g2) → Wd wB wb (.slice (some ⟨g1, 0, none⟩) (its.length + 1) c1) (.slice (some ⟨g2, 0, none⟩) (its.length + 1) c2) xv rv lv tv mv dv →
          wA.ownsRow B0 98 1 qv its.length (its.map fun i => Value.pointer (some ⟨i.q, 0, none⟩)) → LX B0 wb xv rv FX X (N + 4) wB ∧ Below B0 w wB) := by
        intro wA wB g1 c1 g2 c2 kA kB oA oB hA hB' hw qA
        refine ⟨⟨_, _, lv, tv, mv, dv, ls, ts, ms, ds, its ++ [_], LX2.push _ hit hlow hwbl kA kB oA oB hA hB' hw qA, by omega, by omega, by rw [List.length_append]; show its.length + 1 ≤ N + 4; omega⟩, ?_⟩
        have hbw := hW.trans (hb2.mono (by omega))
        refine kB.bel (kA.bel hbw hB ?_) hB ?_
        · rintro k (hk | rfl)
          · exact (h1.bits.own.lt k hk).1
          · exact h1.low
        · rintro k (hk | rfl)
          · exact (h1.bits.ref.lt k hk).1
          · exact h1.low
      have hWd := LX2.wd
      have hO := LX2.bits.own
      have hR := LX2.bits.ref
      have hzz : B0 ≤ w2.heap.size := by omega
      obtain ⟨ba, bc, rfl⟩ := own_slice hO
      have P1 := fun (g cap : Nat) (w' : World) hown hd => push_row (w' := w') hWd hO (by decide) (Obj.cells #[Value.pointer (some ⟨b, 0, none⟩)] 95) (g := g) (cap := cap) (u := .pointer (some ⟨b, 0, none⟩)) hown hd 0
      have c0 := hWd.cell 0
      simp only [List.getElem?_toArray, List.getElem?_cons_zero] at c0
      have HR : Hid (w2.ownsRow B0 98 1 qv its.length (its.map fun i => Value.pointer (some ⟨i.q, 0, none⟩))) := hR
      have HWd : Hid (Wd w2 wb (.slice ba its.length bc) qv xv rv lv tv mv dv) := hWd
      have HO : Hid (w2.ownsRow B0 95 1 (.slice ba its.length bc) its.length (its.map fun i => Value.pointer (some ⟨i.b, 0, none⟩))) := hO
      have hz2l : w1.heap.size < w2.heap.size := by omega
      clear hz2' hit LX2 h1 h2 h3 h4 hlow hwbl hq hb hp hb2 hB1 hB2 hbx hW hsz hR hWd hO
      go_wp2_with (at_builtin; (refine wpList_append_two _ rfl _ _ 24 rfl B0 95 i0 (.pointer none) 8 Tryz.underlying24 hi hz0 hz1 hz2 rfl _ _ _ rfl (HO.out.alloc _) ⟨w2.heap.size, 0, none⟩ 1 (.pointer (some ⟨b, 0, none⟩)) rfl ?c1 ?c2 ?c3 ?c4 ?c5 ?_))
      case c1 => exact cell_one_new _ _ _
      case c2 => rfl
      case c3 => unfold maxLen; omega
      case c4 => omega
      case c5 => simp; omega
      intro g1 cap1 w3 hown hlt1 hd
      obtain ⟨q1, q2, q3, q4⟩ := P1 g1 cap1 w3 hown (hd.imp id (fun h => ⟨by simpa using h.1, h.2⟩))
      obtain ⟨wA, hwA⟩ : ∃ wA, wA = w3.setCell ⟨wb, 0, none⟩ (.slice (some ⟨g1, 0, none⟩) (its.length + 1) cap1) := ⟨_, rfl⟩
      have hWA : Wd wA wb (.slice (some ⟨g1, 0, none⟩) (its.length + 1) cap1) qv xv rv lv tv mv dv := by rw [hwA]; exact q1.set0 _
      rw [← hwA] at q2 q3
      have hRA := own_keep HR.out q2 (fun a ha hP => by
        rcases hP with hP | hP
        · exact ne_of (owns_ne HO.out HR.out (by decide)) a ha hP.symm
        · exact HWd.out.ne HR.out (by decide) (by rw [ha, hP]))
      have c0 := q1.cell 0
      simp only [List.getElem?_toArray, List.getElem?_cons_zero] at c0
      have f0 := q1.frozen 0
      obtain ⟨qa, qc, rfl⟩ := own_slice hRA
      have P2 := fun (g cap : Nat) (w' : World) hown hd => push_row (w' := w') hWA hRA (by decide) (Obj.cells #[Value.pointer (some ⟨w1.heap.size, 0, none⟩)] 98) (g := g) (cap := cap) (u := .pointer (some ⟨w1.heap.size, 0, none⟩)) hown hd 1
      have c1 := hWA.cell 1
      simp only [List.getElem?_toArray, List.getElem?_cons_succ, List.getElem?_cons_zero] at c1
      have hzA : B0 ≤ wA.heap.size := Nat.le_trans hzz q2.size
      have hF2 := fun wB g2 c2 k1 k2 k3 k4 => FIN.out wA wB g1 cap1 g2 c2 q2 k1 q3 k2 q4 k3 k4 hRA
      have HF2 : Hid _ := hF2
      have HRA : Hid (wA.ownsRow B0 98 1 (.slice qa its.length qc) its.length (its.map fun i => Value.pointer (some ⟨i.q, 0, none⟩))) := hRA
      have HP2 : Hid _ := P2
      clear P1 hown hd q1 q2 q3 q4 HR HO HWd FIN hWA hRA hF2 P2
      subst hwA
      go_wp2_with (at_builtin; (refine wpList_append_two _ rfl _ _ 25 rfl B0 98 j0 (.pointer none) 8 Tryz.underlying25 hj hy0 hy1 hy2 rfl _ _ _ rfl (HRA.out.alloc _) ⟨w3.heap.size, 0, none⟩ 1 (.pointer (some ⟨w1.heap.size, 0, none⟩)) rfl ?d1 ?d2 ?d3 ?d4 ?d5 ?_))
      case d1 => exact cell_one_at (by simp)
      case d2 => rfl
      case d3 => unfold maxLen; omega
      case d4 => omega
      case d5 => simp at hzA ⊢; omega
      intro g2 cap2 w4 hown hlt2 hd
      obtain ⟨q1, q2, q3, q4⟩ := HP2.out g2 cap2 w4 hown (hd.imp id (fun h => ⟨by simpa using h.1, h.2⟩))
      have hf := HF2.out _ g2 cap2 q2 q3 q4 (q1.set1 _)
      have c1 := q1.cell 1
      simp only [List.getElem?_toArray, List.getElem?_cons_succ, List.getElem?_cons_zero] at c1
      have f1 := q1.frozen 1
      have HFF : Hid _ := hf
      clear hown hd q1 q2 q3 q4 HF2 HP2 HRA hf c0 f0
      go_wp2
      go_ret
      exact ⟨rfl, HFF.out.1, HFF.out.2⟩

end Go.Proofs.YtopihgmemnokkaaGreat

namespace Go.Proofs.YtopihgmemnokkaaGreat
open Go.RowKit

/-- what both answer to Rank -/
def RankAns (s : ByteArray) (i : Int) (n m : Int) : Prop :=
  (∃ k : Nat, i = k ∧ k ≤ s.size ∧ n = (Cc.cn k (oneAt s) : Nat) ∧ m = 0) ∨ ((i < 0 ∨ (s.size : Int) < i) ∧ n = 0 ∧ m = 3)
theorem RankAns.uniq {s : ByteArray} {i n m n' m' : Int} (h : RankAns s i n m) (h' : RankAns s i n' m') : n' = n ∧ m' = m := by
  rcases h with ⟨k, h1, h2, h3, h4⟩ | ⟨h1, h2, h3⟩
  · rcases h' with ⟨k', g1, g2, g3, g4⟩ | ⟨g1, g2, g3⟩
    · have : k' = k := by omega
      subst this
      exact ⟨by rw [h3, g3], by omega⟩
    · omega
  · rcases h' with ⟨k', g1, g2, g3, g4⟩ | ⟨g1, g2, g3⟩
    · omega
    · exact ⟨by omega, by omega⟩

theorem rank_ans (i : BI) (w : World) (h : i.At w) (A : Int) :
    Calls Tryz.prog 54 #[.pointer (some ⟨i.b, 0, none⟩), .int .i64 A] w fun e w' => ∃ n m : Int, e = .returned (.tuple #[.int .i64 n, .int .i64 m]) ∧ RankAns i.s A n m ∧ Below w.heap.size w w' := by
  by_cases ho : A < 0 ∨ (i.s.size : Int) < A
  · refine (bitsRank_out i.a w i.b _ _ h.bitsAt A ho).mono ?_
    rintro e w' ⟨hb, rfl⟩
    exact ⟨0, 3, rfl, .inr ⟨ho, rfl, rfl⟩, hb⟩
  · obtain ⟨k, rfl⟩ : ∃ k : Nat, A = k := ⟨A.toNat, by omega⟩
    refine (bitsRank_in i.a w i.b _ _ h.bitsAt h.small k (by omega)).mono ?_
    rintro e w' ⟨hb, rfl⟩
    exact ⟨_, 0, rfl, .inl ⟨k, rfl, by omega, rfl, rfl⟩, hb⟩
theorem refrank_ans (i : BI) (w : World) (h : i.At w) (A : Int) :
    Calls Tryz.prog 55 #[.pointer (some ⟨i.q, 0, none⟩), .int .i64 A] w fun e w' => ∃ n m : Int, e = .returned (.tuple #[.int .i64 n, .int .i64 m]) ∧ RankAns i.s A n m ∧ Below w.heap.size w w' := by
  by_cases ho : A < 0 ∨ (i.s.size : Int) < A
  · refine (refRank_out i.s i.q w h.refb A ho).mono ?_
    rintro e w' ⟨rfl, rfl⟩
    exact ⟨0, 3, rfl, .inr ⟨ho, rfl, rfl⟩, Below.refl _ _⟩
  · obtain ⟨k, rfl⟩ : ∃ k : Nat, A = k := ⟨A.toNat, by omega⟩
    refine (refRank_in i.s i.q w h.small h.refb k (by omega)).mono ?_
    rintro e w' ⟨rfl, rfl⟩
    exact ⟨_, 0, rfl, .inl ⟨k, rfl, by omega, rfl, rfl⟩, Below.refl _ _⟩
theorem select_ans (i : BI) (w : World) (h : i.At w) (A : Int) :
    Calls Tryz.prog 56 #[.pointer (some ⟨i.b, 0, none⟩), .int .i64 A] w fun e w' => ∃ n m : Int, e = .returned (.tuple #[.int .i64 n, .int .i64 m]) ∧ SelAns i.s A n m ∧ Below w.heap.size w w' := by
  by_cases ho : A < 0 ∨ (Cc.cn i.s.size (oneAt i.s) : Int) ≤ A
  · refine (bitsSelect_out i.a w i.b _ _ h.bitsAt A ho).mono ?_
    rintro e w' ⟨hb, rfl⟩
    exact ⟨0, 3, rfl, .inr ⟨ho, rfl, rfl⟩, hb⟩
  · obtain ⟨k, rfl⟩ : ∃ k : Nat, A = k := ⟨A.toNat, by omega⟩
    refine (bitsSelect_in i.a w i.b _ _ h.bitsAt h.small k (by omega)).mono ?_
    rintro e w' ⟨hb, j, rfl, h1, h2, h3⟩
    exact ⟨j, 0, rfl, .inl ⟨k, j, rfl, rfl, rfl, h1, h2, h3⟩, hb⟩
theorem refselect_ans (i : BI) (w : World) (h : i.At w) (A : Int) (h1 : -9223372036854775808 ≤ A) (h2 : A ≤ 9223372036854775807) :
    Calls Tryz.prog 57 #[.pointer (some ⟨i.q, 0, none⟩), .int .i64 A] w fun e w' => ∃ n m : Int, e = .returned (.tuple #[.int .i64 n, .int .i64 m]) ∧ SelAns i.s A n m ∧ Below w.heap.size w w' := by
  refine (refSelect_any i.s i.q w h.small h.refb A h1 h2).mono ?_
  rintro e w' ⟨j, n, rfl, hs, rfl⟩
  exact ⟨j, n, rfl, hs, Below.refl _ _⟩

theorem below_drew {B : Nat} {a w : World} (h : Below B a w) : Below B a w.drew := below_drewN h 1

set_option maxRecDepth 100000 in
set_option maxHeartbeats 4000000 in
theorem bits_rank (B0 wb : Nat) (xv rv : Value) (FX : Nat → Prop) (X : World → Prop) (N : Nat) (w : World) (L : LX B0 wb xv rv FX X N w) (hB : B0 ≤ w.heap.size) (hN : N ≤ 5000000) (A B C : Int) (s : ByteArray) (hC1 : -9223372036854775808 ≤ C) (hC2 : C ≤ 9223372036854775807) :
    Calls Tryz.prog 22 #[.pointer (some ⟨wb, 0, none⟩), .agg #[.int .i64 5, .int .i64 A, .int .i64 B, .int .i64 C, .string s]] w fun e w' => e = .returned (.bool true) ∧ LX B0 wb xv rv FX X N w' ∧ Below B0 w w' := by
  have hbx1 := fun w' hb => box_cell w 5 A B C s (w' := w') hb 1
  have hbx3 := fun w' hb => box_cell w 5 A B C s (w' := w') hb 3
  have hbx0 := fun w' hb => box_cell w 5 A B C s (w' := w') hb 0
  simp only [List.getElem?_toArray, List.getElem?_cons_succ, List.getElem?_cons_zero] at hbx1 hbx3 hbx0
  have hW : Below B0 w (w.alloc (opBox 5 A B C s)) := (Below.refl _ _).alloc (by omega) _
  have hL0 : LX B0 wb xv rv FX X N (w.alloc (opBox 5 A B C s)) := L.below ((Below.refl _ _).alloc (Nat.le_refl _) _)
  have hsz : (w.alloc (opBox 5 A B C s)).heap.size = w.heap.size + 1 := by simp
  clear L
  obtain ⟨bv, qv, lv, tv, mv, dv, ls, ts, ms, ds, its, h1, h2, h3, h4⟩ := hL0
  obtain ⟨ba, bc, hbv⟩ := own_slice h1.bits.own
  obtain ⟨qa, qc, hqv⟩ := own_slice h1.bits.ref
  subst hbv hqv
  have c0 := h1.wd.cell 0
  simp only [List.getElem?_toArray, List.getElem?_cons_zero] at c0
  by_cases hn0 : its.length = 0
  · have HLX : Hid (LX B0 wb xv rv FX X N (w.alloc (opBox 5 A B C s))) := ⟨_, _, lv, tv, mv, dv, ls, ts, ms, ds, its, h1, h2, h3, h4⟩
    rw [hn0] at c0
    clear h1 h2 h3 h4 hbx1 hbx3 hbx0
    go_enter Tryz.func22, Tryz.ntmps22
    go_wp2
    go_ret
    exact ⟨rfl, HLX.out, hW⟩
  · have hp := lawpick_any C its.length
    have hlt := pickV_lt C (show 0 < its.length by omega)
    have hl2 : (1 : Int) ≤ (its.length : Int) := by omega
    have hl3 : (its.length : Int) ≤ 100000000 := by omega
    have hpk := fun W => hp W hC1 hC2 hl2 hl3
    clear hp
    generalize pickV C its.length = k at *
    have d0 : ((its.length : Int) == 0) = false := beq_eq_false_iff_ne.2 (by omega)
    have H1 : Hid (LXat B0 wb xv rv FX X (w.alloc (opBox 5 A B C s)) (.slice ba its.length bc) (.slice qa its.length qc) lv tv mv dv ls ts ms ds its) := h1
    have HF : Hid (ls.length ≤ N ∧ ts.length ≤ N ∧ its.length ≤ N) := ⟨h2, h3, h4⟩
    have b3 := hbx3 _ (Below.refl _ _)
    clear h1 h2 h3 h4
    go_enter Tryz.func22, Tryz.ntmps22
    go_wp2
    obtain ⟨W0, hW0⟩ : ∃ W0, W0 = w.alloc (opBox 5 A B C s) := ⟨_, rfl⟩
    rw [← hW0] at hbx1 hbx3 hbx0 hW H1 hsz c0 b3 ⊢
    clear hW0
    go_quiet ((go_at_call 25; exact Calls.quiet_of_same (hpk _)))
    have hb1 : Below W0.heap.size W0 (W0.drewN nq) := below_drewN (Below.refl _ _) nq
    generalize W0.drewN nq = W1 at *
    have h1 := H1.out.below hb1
    have b0 := hbx0 W1 (hsz ▸ hb1)
    have b1 := hbx1 W1 (hsz ▸ hb1)
    have hz1 := hb1.size
    obtain ⟨g1, cap1, x1, e1, e2, e3⟩ := own_at h1.bits.own hlt
    obtain ⟨g2, cap2, x2, e4, e5, e6⟩ := own_at h1.bits.ref hlt
    have hx1 : x1 = .pointer (some ⟨(its[k]).b, 0, none⟩) := by
      rw [List.getElem?_map, List.getElem?_eq_getElem hlt] at e2
      simpa using e2.symm
    have hx2 : x2 = .pointer (some ⟨(its[k]).q, 0, none⟩) := by
      rw [List.getElem?_map, List.getElem?_eq_getElem hlt] at e5
      simpa using e5.symm
    subst hx1 hx2
    injection e1 with e1 _ e1c
    injection e4 with e4 _ e4c
    subst e1 e4
    have hmem : its[k] ∈ its := List.getElem_mem hlt
    have hat1 := h1.bits.all _ hmem
    generalize its[k] = it at *
    have c0 := h1.wd.cell 0
    have c1 := h1.wd.cell 1
    simp only [List.getElem?_toArray, List.getElem?_cons_succ, List.getElem?_cons_zero] at c0 c1
    have hwl := h1.wd.lt
    have hl1 := (h1.bits.own.lt g1 rfl).2
    have hl2' := (h1.bits.ref.lt g2 rfl).2
    have KEEP : Hid (∀ W, Below W1.heap.size W1 W → W.cell? ⟨wb, 0, none⟩ = some (.slice (some ⟨g1, 0, none⟩) its.length bc) ∧ W.cell? ⟨wb, 1, none⟩ = some (.slice (some ⟨g2, 0, none⟩) its.length qc) ∧ W.cell? ⟨g1, k, none⟩ = some (.pointer (some ⟨it.b, 0, none⟩)) ∧ W.cell? ⟨g2, k, none⟩ = some (.pointer (some ⟨it.q, 0, none⟩)) ∧ W.cell? ⟨w.heap.size, 1, none⟩ = some (.int .i64 A) ∧ it.At W) := by
      intro W hb
      have hkp := Kept.of_below hb (Nat.le_refl _) (fun _ => False)
      exact ⟨hkp.cell c0 (fun h => h), hkp.cell c1 (fun h => h), hkp.cell e3 (fun h => h), hkp.cell e6 (fun h => h), hkp.cell b1 (fun h => h), hat1.keep hkp (fun _ _ _ h => h)⟩
    have S0 := KEEP.out W1.drew (below_drew (Below.refl _ _))
    have hrk : Calls Tryz.prog 54 #[.pointer (some ⟨it.b, 0, none⟩), .int .i64 A] W1.drew fun e w' => ∃ n m : Int, e = .returned (.tuple #[.int .i64 n, .int .i64 m]) ∧ RankAns it.s A n m ∧ Below W1.heap.size W1 w' ∧ (w'.cell? ⟨wb, 0, none⟩ = some (.slice (some ⟨g1, 0, none⟩) its.length bc) ∧ w'.cell? ⟨g1, k, none⟩ = some (.pointer (some ⟨it.b, 0, none⟩)) ∧ w'.cell? ⟨w.heap.size, 1, none⟩ = some (.int .i64 A)) :=
      (rank_ans it W1.drew S0.2.2.2.2.2 A).mono fun e w' ⟨n, m, he, ha, hb⟩ => by
        have hb' : Below W1.heap.size W1 w' := (below_drew (Below.refl _ _)).trans hb
        have hK := KEEP.out w' hb'
        exact ⟨n, m, he, ha, hb', hK.1, hK.2.2.1, hK.2.2.2.2.1⟩
    have s0 : W1.drew.cell? ⟨wb, 0, none⟩ = some (.slice (some ⟨g1, 0, none⟩) its.length bc) ∧ W1.drew.cell? ⟨g1, k, none⟩ = some (.pointer (some ⟨it.b, 0, none⟩)) ∧ W1.drew.cell? ⟨w.heap.size, 1, none⟩ = some (.int .i64 A) := ⟨S0.1, S0.2.2.1, S0.2.2.2.2.1⟩
    clear S0 hbx1 hbx3 hbx0 b3 b1 c0 c1 e2 e3 e5 e6 hpk
    have hki : (k : Int) < (its.length : Int) := by omega
    go_wp2_with fail
    go_region_held3 (fun w' => w'.cell? ⟨wb, 0, none⟩ = some (.slice (some ⟨g1, 0, none⟩) its.length bc) ∧ w'.cell? ⟨g1, k, none⟩ = some (.pointer (some ⟨it.b, 0, none⟩)) ∧ w'.cell? ⟨w.heap.size, 1, none⟩ = some (.int .i64 A)) (assumption) ((go_at_call 54; refine hrk.mono ?_; rintro e w2 ⟨n1, m1, rfl, ha1, hb2, hS2⟩))
    clear hrk s0 hS2
    have K2 := KEEP.out w2 hb2
    have hz2 := hb2.size
    have K3 := KEEP.out w2.drew (below_drew hb2)
    have hrq : Calls Tryz.prog 55 #[.pointer (some ⟨it.q, 0, none⟩), .int .i64 A] w2.drew fun e w' => e = .returned (.tuple #[.int .i64 n1, .int .i64 m1]) ∧ Below W1.heap.size W1 w' ∧ (w'.cell? ⟨wb, 1, none⟩ = some (.slice (some ⟨g2, 0, none⟩) its.length qc) ∧ w'.cell? ⟨g2, k, none⟩ = some (.pointer (some ⟨it.q, 0, none⟩)) ∧ w'.cell? ⟨w.heap.size, 1, none⟩ = some (.int .i64 A)) :=
      (refrank_ans it w2.drew K3.2.2.2.2.2 A).mono fun e w' ⟨n, m, he, ha, hb⟩ => by
        obtain ⟨u1, u2⟩ := ha1.uniq ha
        have hb' : Below W1.heap.size W1 w' := (below_drew hb2).trans (hb.mono (by show W1.heap.size ≤ w2.heap.size; exact hz2))
        have hK := KEEP.out w' hb'
        exact ⟨by rw [he, u1, u2], hb', hK.2.1, hK.2.2.2.1, hK.2.2.2.2.1⟩
    have s0 : w2.drew.cell? ⟨wb, 1, none⟩ = some (.slice (some ⟨g2, 0, none⟩) its.length qc) ∧ w2.drew.cell? ⟨g2, k, none⟩ = some (.pointer (some ⟨it.q, 0, none⟩)) ∧ w2.drew.cell? ⟨w.heap.size, 1, none⟩ = some (.int .i64 A) := ⟨K3.2.1, K3.2.2.2.1, K3.2.2.2.2.1⟩
    clear K2 K3 ha1
    go_wp2_with fail
    go_region_held3 (fun w' => w'.cell? ⟨wb, 1, none⟩ = some (.slice (some ⟨g2, 0, none⟩) its.length qc) ∧ w'.cell? ⟨g2, k, none⟩ = some (.pointer (some ⟨it.q, 0, none⟩)) ∧ w'.cell? ⟨w.heap.size, 1, none⟩ = some (.int .i64 A)) (assumption) ((go_at_call 55; refine hrq.mono ?_; rintro e w3 ⟨rfl, hb3, hS3⟩))
    clear hrq s0 hS3
    have HL3 : Hid (LX B0 wb xv rv FX X N w3) := ⟨_, _, lv, tv, mv, dv, ls, ts, ms, ds, its, h1.below hb3, HF.out.1, HF.out.2.1, HF.out.2.2⟩
    have HB3 : Hid (Below B0 w w3) := (hW.trans (hb1.mono (by omega))).trans (hb3.mono (by omega))
    clear KEEP HF h1 H1
    go_wp2_with fail
    refine (num_any m1 _).mono ?_
    rintro e w5 ⟨rfl, hw5⟩
    have hw5 := hw5.symm
    subst hw5
    go_wp2
    go_ret
    exact ⟨by simp, HL3.out, HB3.out⟩

end Go.Proofs.YtopihgmemnokkaaGreat

namespace Go.Proofs.YtopihgmemnokkaaGreat
open Go.RowKit

set_option maxRecDepth 100000 in
set_option maxHeartbeats 4000000 in
theorem bits_select (B0 wb : Nat) (xv rv : Value) (FX : Nat → Prop) (X : World → Prop) (N : Nat) (w : World) (L : LX B0 wb xv rv FX X N w) (hB : B0 ≤ w.heap.size) (hN : N ≤ 5000000) (A B C : Int) (s : ByteArray) (hC1 : -9223372036854775808 ≤ C) (hC2 : C ≤ 9223372036854775807) (hA1 : -9223372036854775808 ≤ A) (hA2 : A ≤ 9223372036854775807) :
    Calls Tryz.prog 22 #[.pointer (some ⟨wb, 0, none⟩), .agg #[.int .i64 6, .int .i64 A, .int .i64 B, .int .i64 C, .string s]] w fun e w' => e = .returned (.bool true) ∧ LX B0 wb xv rv FX X N w' ∧ Below B0 w w' := by
  have hbx1 := fun w' hb => box_cell w 6 A B C s (w' := w') hb 1
  have hbx3 := fun w' hb => box_cell w 6 A B C s (w' := w') hb 3
  have hbx0 := fun w' hb => box_cell w 6 A B C s (w' := w') hb 0
  simp only [List.getElem?_toArray, List.getElem?_cons_succ, List.getElem?_cons_zero] at hbx1 hbx3 hbx0
  have hW : Below B0 w (w.alloc (opBox 6 A B C s)) := (Below.refl _ _).alloc (by omega) _
  have hL0 : LX B0 wb xv rv FX X N (w.alloc (opBox 6 A B C s)) := L.below ((Below.refl _ _).alloc (Nat.le_refl _) _)
  have hsz : (w.alloc (opBox 6 A B C s)).heap.size = w.heap.size + 1 := by simp
  clear L
  obtain ⟨bv, qv, lv, tv, mv, dv, ls, ts, ms, ds, its, h1, h2, h3, h4⟩ := hL0
  obtain ⟨ba, bc, hbv⟩ := own_slice h1.bits.own
  obtain ⟨qa, qc, hqv⟩ := own_slice h1.bits.ref
  subst hbv hqv
  have c0 := h1.wd.cell 0
  simp only [List.getElem?_toArray, List.getElem?_cons_zero] at c0
  by_cases hn0 : its.length = 0
  · have HLX : Hid (LX B0 wb xv rv FX X N (w.alloc (opBox 6 A B C s))) := ⟨_, _, lv, tv, mv, dv, ls, ts, ms, ds, its, h1, h2, h3, h4⟩
    rw [hn0] at c0
    clear h1 h2 h3 h4 hbx1 hbx3 hbx0
    go_enter Tryz.func22, Tryz.ntmps22
    go_wp2
    go_ret
    exact ⟨rfl, HLX.out, hW⟩
  · have hp := lawpick_any C its.length
    have hlt := pickV_lt C (show 0 < its.length by omega)
    have hl2 : (1 : Int) ≤ (its.length : Int) := by omega
    have hl3 : (its.length : Int) ≤ 100000000 := by omega
    have hpk := fun W => hp W hC1 hC2 hl2 hl3
    clear hp
    generalize pickV C its.length = k at *
    have d0 : ((its.length : Int) == 0) = false := beq_eq_false_iff_ne.2 (by omega)
    have H1 : Hid (LXat B0 wb xv rv FX X (w.alloc (opBox 6 A B C s)) (.slice ba its.length bc) (.slice qa its.length qc) lv tv mv dv ls ts ms ds its) := h1
    have HF : Hid (ls.length ≤ N ∧ ts.length ≤ N ∧ its.length ≤ N) := ⟨h2, h3, h4⟩
    have b3 := hbx3 _ (Below.refl _ _)
    clear h1 h2 h3 h4
    go_enter Tryz.func22, Tryz.ntmps22
    go_wp2
    obtain ⟨W0, hW0⟩ : ∃ W0, W0 = w.alloc (opBox 6 A B C s) := ⟨_, rfl⟩
    rw [← hW0] at hbx1 hbx3 hbx0 hW H1 hsz c0 b3 ⊢
    clear hW0
    go_quiet ((go_at_call 25; exact Calls.quiet_of_same (hpk _)))
    have hb1 : Below W0.heap.size W0 (W0.drewN nq) := below_drewN (Below.refl _ _) nq
    generalize W0.drewN nq = W1 at *
    have h1 := H1.out.below hb1
    have b0 := hbx0 W1 (hsz ▸ hb1)
    have b1 := hbx1 W1 (hsz ▸ hb1)
    have hz1 := hb1.size
    obtain ⟨g1, cap1, x1, e1, e2, e3⟩ := own_at h1.bits.own hlt
    obtain ⟨g2, cap2, x2, e4, e5, e6⟩ := own_at h1.bits.ref hlt
    have hx1 : x1 = .pointer (some ⟨(its[k]).b, 0, none⟩) := by
      rw [List.getElem?_map, List.getElem?_eq_getElem hlt] at e2
      simpa using e2.symm
    have hx2 : x2 = .pointer (some ⟨(its[k]).q, 0, none⟩) := by
      rw [List.getElem?_map, List.getElem?_eq_getElem hlt] at e5
      simpa using e5.symm
    subst hx1 hx2
    injection e1 with e1 _ e1c
    injection e4 with e4 _ e4c
    subst e1 e4
    have hmem : its[k] ∈ its := List.getElem_mem hlt
    have hat1 := h1.bits.all _ hmem
    generalize its[k] = it at *
    have c0 := h1.wd.cell 0
    have c1 := h1.wd.cell 1
    simp only [List.getElem?_toArray, List.getElem?_cons_succ, List.getElem?_cons_zero] at c0 c1
    have hwl := h1.wd.lt
    have hl1 := (h1.bits.own.lt g1 rfl).2
    have hl2' := (h1.bits.ref.lt g2 rfl).2
    have KEEP : Hid (∀ W, Below W1.heap.size W1 W → W.cell? ⟨wb, 0, none⟩ = some (.slice (some ⟨g1, 0, none⟩) its.length bc) ∧ W.cell? ⟨wb, 1, none⟩ = some (.slice (some ⟨g2, 0, none⟩) its.length qc) ∧ W.cell? ⟨g1, k, none⟩ = some (.pointer (some ⟨it.b, 0, none⟩)) ∧ W.cell? ⟨g2, k, none⟩ = some (.pointer (some ⟨it.q, 0, none⟩)) ∧ W.cell? ⟨w.heap.size, 1, none⟩ = some (.int .i64 A) ∧ it.At W) := by
      intro W hb
      have hkp := Kept.of_below hb (Nat.le_refl _) (fun _ => False)
      exact ⟨hkp.cell c0 (fun h => h), hkp.cell c1 (fun h => h), hkp.cell e3 (fun h => h), hkp.cell e6 (fun h => h), hkp.cell b1 (fun h => h), hat1.keep hkp (fun _ _ _ h => h)⟩
    have S0 := KEEP.out W1.drew (below_drew (Below.refl _ _))
    have hrk : Calls Tryz.prog 56 #[.pointer (some ⟨it.b, 0, none⟩), .int .i64 A] W1.drew fun e w' => ∃ n m : Int, e = .returned (.tuple #[.int .i64 n, .int .i64 m]) ∧ SelAns it.s A n m ∧ Below W1.heap.size W1 w' ∧ (w'.cell? ⟨wb, 0, none⟩ = some (.slice (some ⟨g1, 0, none⟩) its.length bc) ∧ w'.cell? ⟨g1, k, none⟩ = some (.pointer (some ⟨it.b, 0, none⟩)) ∧ w'.cell? ⟨w.heap.size, 1, none⟩ = some (.int .i64 A)) :=
      (select_ans it W1.drew S0.2.2.2.2.2 A).mono fun e w' ⟨n, m, he, ha, hb⟩ => by
        have hb' : Below W1.heap.size W1 w' := (below_drew (Below.refl _ _)).trans hb
        have hK := KEEP.out w' hb'
        exact ⟨n, m, he, ha, hb', hK.1, hK.2.2.1, hK.2.2.2.2.1⟩
    have s0 : W1.drew.cell? ⟨wb, 0, none⟩ = some (.slice (some ⟨g1, 0, none⟩) its.length bc) ∧ W1.drew.cell? ⟨g1, k, none⟩ = some (.pointer (some ⟨it.b, 0, none⟩)) ∧ W1.drew.cell? ⟨w.heap.size, 1, none⟩ = some (.int .i64 A) := ⟨S0.1, S0.2.2.1, S0.2.2.2.2.1⟩
    clear S0 hbx1 hbx3 hbx0 b3 b1 c0 c1 e2 e3 e5 e6 hpk
    have hki : (k : Int) < (its.length : Int) := by omega
    go_wp2_with fail
    go_region_held3 (fun w' => w'.cell? ⟨wb, 0, none⟩ = some (.slice (some ⟨g1, 0, none⟩) its.length bc) ∧ w'.cell? ⟨g1, k, none⟩ = some (.pointer (some ⟨it.b, 0, none⟩)) ∧ w'.cell? ⟨w.heap.size, 1, none⟩ = some (.int .i64 A)) (assumption) ((go_at_call 56; refine hrk.mono ?_; rintro e w2 ⟨n1, m1, rfl, ha1, hb2, hS2⟩))
    clear hrk s0 hS2
    have K2 := KEEP.out w2 hb2
    have hz2 := hb2.size
    have K3 := KEEP.out w2.drew (below_drew hb2)
    have hrq : Calls Tryz.prog 57 #[.pointer (some ⟨it.q, 0, none⟩), .int .i64 A] w2.drew fun e w' => e = .returned (.tuple #[.int .i64 n1, .int .i64 m1]) ∧ Below W1.heap.size W1 w' ∧ (w'.cell? ⟨wb, 1, none⟩ = some (.slice (some ⟨g2, 0, none⟩) its.length qc) ∧ w'.cell? ⟨g2, k, none⟩ = some (.pointer (some ⟨it.q, 0, none⟩)) ∧ w'.cell? ⟨w.heap.size, 1, none⟩ = some (.int .i64 A)) :=
      (refselect_ans it w2.drew K3.2.2.2.2.2 A hA1 hA2).mono fun e w' ⟨n, m, he, ha, hb⟩ => by
        obtain ⟨u1, u2⟩ := ha1.uniq ha
        have hb' : Below W1.heap.size W1 w' := (below_drew hb2).trans (hb.mono (by show W1.heap.size ≤ w2.heap.size; exact hz2))
        have hK := KEEP.out w' hb'
        exact ⟨by rw [he, u1, u2], hb', hK.2.1, hK.2.2.2.1, hK.2.2.2.2.1⟩
    have s0 : w2.drew.cell? ⟨wb, 1, none⟩ = some (.slice (some ⟨g2, 0, none⟩) its.length qc) ∧ w2.drew.cell? ⟨g2, k, none⟩ = some (.pointer (some ⟨it.q, 0, none⟩)) ∧ w2.drew.cell? ⟨w.heap.size, 1, none⟩ = some (.int .i64 A) := ⟨K3.2.1, K3.2.2.2.1, K3.2.2.2.2.1⟩
    clear K2 K3 ha1
    go_wp2_with fail
    go_region_held3 (fun w' => w'.cell? ⟨wb, 1, none⟩ = some (.slice (some ⟨g2, 0, none⟩) its.length qc) ∧ w'.cell? ⟨g2, k, none⟩ = some (.pointer (some ⟨it.q, 0, none⟩)) ∧ w'.cell? ⟨w.heap.size, 1, none⟩ = some (.int .i64 A)) (assumption) ((go_at_call 57; refine hrq.mono ?_; rintro e w3 ⟨rfl, hb3, hS3⟩))
    clear hrq s0 hS3
    have HL3 : Hid (LX B0 wb xv rv FX X N w3) := ⟨_, _, lv, tv, mv, dv, ls, ts, ms, ds, its, h1.below hb3, HF.out.1, HF.out.2.1, HF.out.2.2⟩
    have HB3 : Hid (Below B0 w w3) := (hW.trans (hb1.mono (by omega))).trans (hb3.mono (by omega))
    clear KEEP HF h1 H1
    go_wp2_with fail
    refine (num_any m1 _).mono ?_
    rintro e w5 ⟨rfl, hw5⟩
    have hw5 := hw5.symm
    subst hw5
    go_wp2
    go_ret
    exact ⟨by simp, HL3.out, HB3.out⟩

end Go.Proofs.YtopihgmemnokkaaGreat

