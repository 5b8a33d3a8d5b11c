import Derived.Test.YtopihgmemnokkaaGreatWalk21a
namespace Go.Proofs.YtopihgmemnokkaaGreat
open Go.RowKit

/-- the law's World: so many lists have come out at most -/
def LW (B0 : Nat) (b q x r t d : Value) (wb N : Nat) (w : World) : Prop :=
  B0 ≤ wb ∧ ∃ lv mv ls ms, Wd w wb b q x r lv t mv d ∧ Lists B0 w lv mv ls ms ∧ ls.length ≤ N

theorem LW.below {B0 : Nat} {b q x r t d : Value} {wb N : Nat} {w w' : World} (h : LW B0 b q x r t d wb N w) (hb : Below w.heap.size w w') : LW B0 b q x r t d wb N w' := by
  obtain ⟨h0, lv, mv, ls, ms, h1, h2, h3⟩ := h
  have hk := Kept.of_below hb (Nat.le_refl _) (fun _ => False)
  exact ⟨h0, lv, mv, ls, ms, h1.keep hk (fun h => h), h2.keep hk (fun _ h => h.elim), h3⟩
theorem LW.more {B0 : Nat} {b q x r t d : Value} {wb N M : Nat} {w : World} (h : LW B0 b q x r t d wb N w) (hm : N ≤ M) : LW B0 b q x r t d wb M w := by
  obtain ⟨h0, lv, mv, ls, ms, h1, h2, h3⟩ := h
  exact ⟨h0, lv, mv, ls, ms, h1, h2, by omega⟩

theorem keep_lw (B0 : Nat) (b q x r t d : Value) (wb N : Nat) (w0 w : World) (L : LW B0 b q x r t d wb N w0) (hb : Below w0.heap.size w0 w) (l : Value) (n : Nat) (xs : List Value) (hl : w.ownsRow w0.heap.size 3 1 l n xs)
    (hB : B0 ≤ w0.heap.size) (hN : N ≤ 5000000) (hn : n ≤ 5000) :
    Calls Tryz.prog 42 #[.pointer (some ⟨wb, 0, none⟩), l] w fun e w' => e = .returned (.tuple #[]) ∧ LW B0 b q x r t d wb (N + 4) w' ∧ Below B0 w w' := by
  have hz := hb.size
  obtain ⟨h0, lv, mv, ls, ms, h1, h2, h3⟩ := L
  have hk := Kept.of_below hb (Nat.le_refl _) (fun _ => False)
  have hlb := hl.lt
  have hl0 := hl.mono hB
  refine (keep_any (fun _ => False) B0 wb b q x r t d lv mv l ls ms n xs w (h1.keep hk (fun h => h)) h0 (h2.keep hk (fun _ h => h.elim)) hl0 ?_ ?_ (by omega) (by omega) hn (fun _ h => h.elim)).mono ?_
  · cases hx : l.ownBlock with
    | none => exact .inl rfl
    | some g =>
      refine .inr fun e => ?_
      have := (hlb g hx).1
      have := (h2.mar.lt g e.symm).2
      omega
  · intro y hy
    obtain ⟨m, hm⟩ := h2.mem hy
    cases hx : y.ownBlock with
    | none => exact .inl rfl
    | some g =>
      refine .inr fun e => ?_
      have := (hlb g e.symm).1
      have := hm.lt g hx
      omega
  · rintro e w' ⟨he, lv', mv', ls', ms', k1, k2, k3, k4, _⟩
    exact ⟨he, ⟨h0, lv', mv', ls', ms', k1, k2, by omega⟩, k4⟩

set_option maxRecDepth 100000 in
set_option maxHeartbeats 2000000 in
theorem turns_suffixes (B0 : Nat) (b q x r t d : Value) (wb N : Nat) (w : World) (L : LW B0 b q x r t d wb N w) (hB : B0 ≤ w.heap.size) (hN : N ≤ 5000000) (A B C : Int) (s : ByteArray) :
    Calls Tryz.prog 21 #[.pointer (some ⟨wb, 0, none⟩), .agg #[.int .i64 1, .int .i64 A, .int .i64 B, .int .i64 C, .string s]] w fun e w' => e = .returned (.bool true) ∧ LW B0 b q x r t d wb (N + 4) w' ∧ Below B0 w w' := by
  have hbx := fun w' hb => box_cell w 1 A B C s (w' := w') hb 4
  simp only [List.getElem?_toArray, List.getElem?_cons_succ, List.getElem?_cons_zero] at hbx
  have hW : Below B0 w (w.alloc (opBox 1 A B C s)) := (Below.refl _ _).alloc (by omega) _
  have hL0 : LW B0 b q x r t d wb N (w.alloc (opBox 1 A B C s)) := L.below ((Below.refl _ _).alloc (Nat.le_refl _) _)
  have hsz : (w.alloc (opBox 1 A B C s)).heap.size = w.heap.size + 1 := by simp
  clear L
  by_cases hs : s.size ≤ 1000
  · go_enter Tryz.func21, Tryz.ntmps21
    go_wp2_with fail
    obtain ⟨W0, hW0⟩ : ∃ W0, W0 = w.alloc (opBox 1 A B C s) := ⟨_, rfl⟩
    rw [← hW0] at hbx hW hL0 hsz ⊢
    clear hW0
    refine (suffixes_any s W0 hs).mono ?_
    rintro e w1 ⟨rb, rows, D, rfl, h1, hR, hD, hB1⟩
    have c4 := hbx w1 (hsz ▸ hB1)
    have hz1 := hB1.size
    have hl1 := ownsRow_of_row hR h1 (by unfold maxLen; omega)
    go_wp2_with fail
    refine (refsuffixes_any s w1 hs).mono ?_
    rintro e w2 ⟨v, rfl, hv, hB2⟩
    have hz2 := hB2.size
    go_wp2_with fail
    have hr1 : Reads w2 (.slice (some ⟨rb, 0, none⟩) (s.size + 1) (s.size + 1)) (s.size + 1) (fun k => ((placeOf s k : Nat) : Int)) := by
      refine .inr ⟨rb, _, rfl, fun k hk => ?_⟩
      rw [hB2.cell (p := ⟨rb, k, none⟩) hR.lt, hR.cell hk, rows_place hD (by omega)]
    have hr2 : Reads w2 v (s.size + 1) (fun k => ((placeOf s k : Nat) : Int)) := by
      obtain ⟨g, cap, e1, _, _⟩ := hv.form (by omega)
      subst e1
      refine .inr ⟨g, cap, rfl, fun k hk => ?_⟩
      rw [hv.cellAt k (by omega)]
      exact sortedL_get s hk
    refine (same_any _ _ (s.size + 1) _ w2 hr1 hr2 (by omega)).mono ?_
    rintro e w3 ⟨rfl, hS3⟩
    have hz3 := hS3.size
    clear hr1 hr2 c4
    go_wp2_with fail
    have hl3 := own_keep (own_keep hl1 (Kept.of_below hB2 (Nat.le_refl _) (fun _ => False)) (fun _ _ h => h)) hS3 (fun _ _ h => h)
    have hb3 : Below W0.heap.size W0 w3 := (hB1.trans (hB2.mono hz1)).trans (still_below hS3 _ (by omega))
    refine (keep_lw B0 b q x r t d wb N W0 w3 hL0 hb3 _ (s.size + 1) _ hl3 (by omega) hN (by omega)).mono ?_
    rintro e w4 ⟨rfl, hL4, hB4⟩
    go_wp2_with fail
    refine (num_any 0 _).mono ?_
    rintro e w5 ⟨rfl, rfl⟩
    go_wp2
    go_ret
    exact ⟨rfl, hL4, (hW.trans (hb3.mono (by omega))).trans hB4⟩
  · go_enter Tryz.func21, Tryz.ntmps21
    go_wp2_with fail
    obtain ⟨W0, hW0⟩ : ∃ W0, W0 = w.alloc (opBox 1 A B C s) := ⟨_, rfl⟩
    rw [← hW0] at hbx hW hL0 hsz ⊢
    clear hW0
    refine (suffixes_long s W0 (by omega)).mono ?_
    rintro e w1 ⟨rfl, rfl⟩
    have c4 := hbx w1 (Below.refl _ _)
    go_wp2_with fail
    refine (refsuffixes_long s w1 (by omega)).mono ?_
    rintro e w2 ⟨rfl, rfl⟩
    go_wp2_with fail
    refine (same_any _ _ 0 (fun _ => 0) w2 (.inl ⟨rfl, rfl⟩) (.inl ⟨rfl, rfl⟩) (by omega)).mono ?_
    rintro e w3 ⟨rfl, hS3⟩
    have hz3 := hS3.size
    clear c4
    go_wp2_with fail
    have hb3 : Below w2.heap.size w2 w3 := still_below hS3 _ (by omega)
    refine (keep_lw B0 b q x r t d wb N w2 w3 hL0 hb3 _ 0 [] (World.ownsRow_nil _ _ _ _) (by omega) hN (by omega)).mono ?_
    rintro e w4 ⟨rfl, hL4, hB4⟩
    go_wp2_with fail
    refine (num_any 1 _).mono ?_
    rintro e w5 ⟨rfl, rfl⟩
    go_wp2
    go_ret
    exact ⟨rfl, hL4, (hW.trans (hb3.mono (by omega))).trans hB4⟩

set_option maxRecDepth 100000 in
set_option maxHeartbeats 2000000 in
theorem turns_transform (B0 : Nat) (b q x r t d : Value) (wb N : Nat) (w : World) (L : LW B0 b q x r t d wb N w) (hB : B0 ≤ w.heap.size) (A B C : Int) (s : ByteArray) :
    Calls Tryz.prog 21 #[.pointer (some ⟨wb, 0, none⟩), .agg #[.int .i64 2, .int .i64 A, .int .i64 B, .int .i64 C, .string s]] w fun e w' => e = .returned (.bool true) ∧ LW B0 b q x r t d wb N w' ∧ Below B0 w w' := by
  have hbx := fun w' hb => box_cell w 2 A B C s (w' := w') hb 4
  simp only [List.getElem?_toArray, List.getElem?_cons_succ, List.getElem?_cons_zero] at hbx
  have hW : Below B0 w (w.alloc (opBox 2 A B C s)) := (Below.refl _ _).alloc (by omega) _
  have hL0 : LW B0 b q x r t d wb N (w.alloc (opBox 2 A B C s)) := L.below ((Below.refl _ _).alloc (Nat.le_refl _) _)
  have hsz : (w.alloc (opBox 2 A B C s)).heap.size = w.heap.size + 1 := by simp
  clear L
  by_cases hs : s.size ≤ 1000
  · go_enter Tryz.func21, Tryz.ntmps21
    go_wp2_with fail
    obtain ⟨W0, hW0⟩ : ∃ W0, W0 = w.alloc (opBox 2 A B C s) := ⟨_, rfl⟩
    rw [← hW0] at hbx hW hL0 hsz ⊢
    clear hW0
    refine (transform_any s W0 hs).mono ?_
    rintro e w1 ⟨rfl, hB1⟩
    have c4 := hbx w1 (hsz ▸ hB1)
    have hz1 := hB1.size
    go_wp2_with fail
    refine (reftransform_any s w1 hs).mono ?_
    rintro e w2 ⟨rfl, hB2⟩
    clear c4
    have hb2 : Below W0.heap.size W0 w2 := hB1.trans (hB2.mono hz1)
    have hL2 := hL0.below hb2
    generalize trn s = y
    generalize fw s = z
    go_wp2_with fail
    refine (num_any 0 _).mono ?_
    rintro e w5 ⟨rfl, rfl⟩
    go_wp2
    go_ret
    exact ⟨rfl, hL2, hW.trans (hb2.mono (by omega))⟩
  · go_enter Tryz.func21, Tryz.ntmps21
    go_wp2_with fail
    obtain ⟨W0, hW0⟩ : ∃ W0, W0 = w.alloc (opBox 2 A B C s) := ⟨_, rfl⟩
    rw [← hW0] at hbx hW hL0 hsz ⊢
    clear hW0
    refine (transform_long s W0 (by omega)).mono ?_
    rintro e w1 ⟨rfl, rfl⟩
    have c4 := hbx w1 (Below.refl _ _)
    go_wp2_with fail
    refine (reftransform_long s w1 (by omega)).mono ?_
    rintro e w2 ⟨rfl, rfl⟩
    clear c4
    go_wp2_with fail
    refine (num_any 1 _).mono ?_
    rintro e w5 ⟨rfl, rfl⟩
    go_wp2
    go_ret
    exact ⟨rfl, hL0, hW⟩

set_option maxRecDepth 100000 in
set_option maxHeartbeats 2000000 in
theorem turns_restore (B0 : Nat) (b q x r t d : Value) (wb N : Nat) (w : World) (L : LW B0 b q x r t d wb N w) (hB : B0 ≤ w.heap.size) (A B C : Int) (s : ByteArray) :
    Calls Tryz.prog 21 #[.pointer (some ⟨wb, 0, none⟩), .agg #[.int .i64 3, .int .i64 A, .int .i64 B, .int .i64 C, .string s]] w fun e w' => e = .returned (.bool true) ∧ LW B0 b q x r t d wb N w' ∧ Below B0 w w' := by
  have hbx := fun w' hb => box_cell w 3 A B C s (w' := w') hb 4
  have hbx1 := fun w' hb => box_cell w 3 A B C s (w' := w') hb 1
  simp only [List.getElem?_toArray, List.getElem?_cons_succ, List.getElem?_cons_zero] at hbx hbx1
  have hW : Below B0 w (w.alloc (opBox 3 A B C s)) := (Below.refl _ _).alloc (by omega) _
  have hL0 : LW B0 b q x r t d wb N (w.alloc (opBox 3 A B C s)) := L.below ((Below.refl _ _).alloc (Nat.le_refl _) _)
  have hsz : (w.alloc (opBox 3 A B C s)).heap.size = w.heap.size + 1 := by simp
  clear L
  go_enter Tryz.func21, Tryz.ntmps21
  go_wp2_with fail
  obtain ⟨W0, hW0⟩ : ∃ W0, W0 = w.alloc (opBox 3 A B C s) := ⟨_, rfl⟩
  rw [← hW0] at hbx hbx1 hW hL0 hsz ⊢
  clear hW0
  refine (restore_ans s A W0).mono ?_
  rintro e w1 ⟨t1, n1, rfl, ha1, hB1⟩
  have c4 := hbx w1 (hsz ▸ hB1)
  have c1 := hbx1 w1 (hsz ▸ hB1)
  have hz1 := hB1.size
  go_wp2_with fail
  refine (refrestore_ans s A w1).mono ?_
  rintro e w2 ⟨t2, n2, rfl, ha2, hB2⟩
  obtain ⟨rfl, rfl⟩ := ha1.uniq ha2
  clear c4 c1 ha1 ha2
  have hb2 : Below W0.heap.size W0 w2 := hB1.trans (hB2.mono hz1)
  have hL2 := hL0.below hb2
  go_wp2_with fail
  refine (num_any _ _).mono ?_
  rintro e w5 ⟨rfl, rfl⟩
  go_wp2
  go_ret
  exact ⟨rfl, hL2, hW.trans (hb2.mono (by omega))⟩

end Go.Proofs.YtopihgmemnokkaaGreat
