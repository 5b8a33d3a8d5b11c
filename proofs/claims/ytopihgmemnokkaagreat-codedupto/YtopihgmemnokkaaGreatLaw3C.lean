import Derived.Test.YtopihgmemnokkaaGreatLaw1C
import Derived.Test.YtopihgmemnokkaaGreatWalk18C
namespace Go.Proofs.YtopihgmemnokkaaGreat
open Go.RowKit

set_option maxRecDepth 100000 in
set_option maxHeartbeats 2000000 in
theorem turns2_suffixes (B0 wb : Nat) (xv rv : Value) (FX : Nat → Prop) (X : World → Prop) (N : Nat) (w : World) (L : LX B0 wb xv rv FX X N w) (hB : B0 ≤ w.heap.size) (hN : N ≤ 5000000) (A B C : Int) (s : ByteArray) :
    Calls Tryz.prog 21 #[.pointer (some ⟨wb, 0, none⟩), .agg #[.int .i64 1, .int .i64 A, .int .i64 B, .int .i64 C, .string s]] w fun e w' => e = .returned (.bool true) ∧ LX B0 wb xv rv FX X (N + 4) w' ∧ Below B0 w w' := by
  have hbx := fun w' hb => box_cell w 1 A B C s (w' := w') hb 4
  simp only [List.getElem?_toArray, List.getElem?_cons_succ, List.getElem?_cons_zero] at hbx
  have hW : Below B0 w (w.alloc (opBox 1 A B C s)) := (Below.refl _ _).alloc (by omega) _
  have hL0 : LX B0 wb xv rv FX X N (w.alloc (opBox 1 A B C s)) := L.below ((Below.refl _ _).alloc (Nat.le_refl _) _)
  have hsz : (w.alloc (opBox 1 A B C s)).heap.size = w.heap.size + 1 := by simp
  clear L
  by_cases hs : s.size ≤ 1000
  · go_enter Tryz.func21, Tryz.ntmps21
    go_wp2_with fail
    obtain ⟨W0, hW0⟩ : ∃ W0, W0 = w.alloc (opBox 1 A B C s) := ⟨_, rfl⟩
    rw [← hW0] at hbx hW hL0 hsz ⊢
    clear hW0
    refine (suffixes_any s W0 hs).mono ?_
    rintro e w1 ⟨rb, rows, D, rfl, h1, hR, hD, hB1⟩
    have c4 := hbx w1 (hsz ▸ hB1)
    have hz1 := hB1.size
    have hl1 := ownsRow_of_row hR h1 (by unfold maxLen; omega)
    go_wp2_with fail
    refine (refsuffixes_any s w1 hs).mono ?_
    rintro e w2 ⟨v, rfl, hv, hB2⟩
    have hz2 := hB2.size
    go_wp2_with fail
    have hr1 : Reads w2 (.slice (some ⟨rb, 0, none⟩) (s.size + 1) (s.size + 1)) (s.size + 1) (fun k => ((placeOf s k : Nat) : Int)) := by
      refine .inr ⟨rb, _, rfl, fun k hk => ?_⟩
      rw [hB2.cell (p := ⟨rb, k, none⟩) hR.lt, hR.cell hk, rows_place hD (by omega)]
    have hr2 : Reads w2 v (s.size + 1) (fun k => ((placeOf s k : Nat) : Int)) := by
      obtain ⟨g, cap, e1, _, _⟩ := hv.form (by omega)
      subst e1
      refine .inr ⟨g, cap, rfl, fun k hk => ?_⟩
      rw [hv.cellAt k (by omega)]
      exact sortedL_get s hk
    refine (same_any _ _ (s.size + 1) _ w2 hr1 hr2 (by omega)).mono ?_
    rintro e w3 ⟨rfl, hS3⟩
    have hz3 := hS3.size
    clear hr1 hr2 c4
    go_wp2_with fail
    have hl3 := own_keep (own_keep hl1 (Kept.of_below hB2 (Nat.le_refl _) (fun _ => False)) (fun _ _ h => h)) hS3 (fun _ _ h => h)
    have hb3 : Below W0.heap.size W0 w3 := (hB1.trans (hB2.mono hz1)).trans (still_below hS3 _ (by omega))
    refine (keep_lx B0 wb xv rv FX X N W0 w3 hL0 hb3 _ (s.size + 1) _ hl3 (by omega) hN (by omega)).mono ?_
    rintro e w4 ⟨rfl, hL4, hB4⟩
    go_wp2_with fail
    refine (num_any 0 _).mono ?_
    rintro e w5 ⟨rfl, rfl⟩
    go_wp2
    go_ret
    exact ⟨rfl, hL4, (hW.trans (hb3.mono (by omega))).trans hB4⟩
  · go_enter Tryz.func21, Tryz.ntmps21
    go_wp2_with fail
    obtain ⟨W0, hW0⟩ : ∃ W0, W0 = w.alloc (opBox 1 A B C s) := ⟨_, rfl⟩
    rw [← hW0] at hbx hW hL0 hsz ⊢
    clear hW0
    refine (suffixes_long s W0 (by omega)).mono ?_
    rintro e w1 ⟨rfl, rfl⟩
    have c4 := hbx w1 (Below.refl _ _)
    go_wp2_with fail
    refine (refsuffixes_long s w1 (by omega)).mono ?_
    rintro e w2 ⟨rfl, rfl⟩
    go_wp2_with fail
    refine (same_any _ _ 0 (fun _ => 0) w2 (.inl ⟨rfl, rfl⟩) (.inl ⟨rfl, rfl⟩) (by omega)).mono ?_
    rintro e w3 ⟨rfl, hS3⟩
    have hz3 := hS3.size
    clear c4
    go_wp2_with fail
    have hb3 : Below w2.heap.size w2 w3 := still_below hS3 _ (by omega)
    refine (keep_lx B0 wb xv rv FX X N w2 w3 hL0 hb3 _ 0 [] (World.ownsRow_nil _ _ _ _) (by omega) hN (by omega)).mono ?_
    rintro e w4 ⟨rfl, hL4, hB4⟩
    go_wp2_with fail
    refine (num_any 1 _).mono ?_
    rintro e w5 ⟨rfl, rfl⟩
    go_wp2
    go_ret
    exact ⟨rfl, hL4, (hW.trans (hb3.mono (by omega))).trans hB4⟩

set_option maxRecDepth 100000 in
set_option maxHeartbeats 2000000 in
theorem turns2_transform (B0 wb : Nat) (xv rv : Value) (FX : Nat → Prop) (X : World → Prop) (N : Nat) (w : World) (L : LX B0 wb xv rv FX X N w) (hB : B0 ≤ w.heap.size) (A B C : Int) (s : ByteArray) :
    Calls Tryz.prog 21 #[.pointer (some ⟨wb, 0, none⟩), .agg #[.int .i64 2, .int .i64 A, .int .i64 B, .int .i64 C, .string s]] w fun e w' => e = .returned (.bool true) ∧ LX B0 wb xv rv FX X N w' ∧ Below B0 w w' := by
  have hbx := fun w' hb => box_cell w 2 A B C s (w' := w') hb 4
  simp only [List.getElem?_toArray, List.getElem?_cons_succ, List.getElem?_cons_zero] at hbx
  have hW : Below B0 w (w.alloc (opBox 2 A B C s)) := (Below.refl _ _).alloc (by omega) _
  have hL0 : LX B0 wb xv rv FX X N (w.alloc (opBox 2 A B C s)) := L.below ((Below.refl _ _).alloc (Nat.le_refl _) _)
  have hsz : (w.alloc (opBox 2 A B C s)).heap.size = w.heap.size + 1 := by simp
  clear L
  by_cases hs : s.size ≤ 1000
  · go_enter Tryz.func21, Tryz.ntmps21
    go_wp2_with fail
    obtain ⟨W0, hW0⟩ : ∃ W0, W0 = w.alloc (opBox 2 A B C s) := ⟨_, rfl⟩
    rw [← hW0] at hbx hW hL0 hsz ⊢
    clear hW0
    refine (transform_any s W0 hs).mono ?_
    rintro e w1 ⟨rfl, hB1⟩
    have c4 := hbx w1 (hsz ▸ hB1)
    have hz1 := hB1.size
    go_wp2_with fail
    refine (reftransform_any s w1 hs).mono ?_
    rintro e w2 ⟨rfl, hB2⟩
    clear c4
    have hb2 : Below W0.heap.size W0 w2 := hB1.trans (hB2.mono hz1)
    have hL2 := hL0.below hb2
    generalize trn s = y
    generalize fw s = z
    go_wp2_with fail
    refine (num_any 0 _).mono ?_
    rintro e w5 ⟨rfl, rfl⟩
    go_wp2
    go_ret
    exact ⟨rfl, hL2, hW.trans (hb2.mono (by omega))⟩
  · go_enter Tryz.func21, Tryz.ntmps21
    go_wp2_with fail
    obtain ⟨W0, hW0⟩ : ∃ W0, W0 = w.alloc (opBox 2 A B C s) := ⟨_, rfl⟩
    rw [← hW0] at hbx hW hL0 hsz ⊢
    clear hW0
    refine (transform_long s W0 (by omega)).mono ?_
    rintro e w1 ⟨rfl, rfl⟩
    have c4 := hbx w1 (Below.refl _ _)
    go_wp2_with fail
    refine (reftransform_long s w1 (by omega)).mono ?_
    rintro e w2 ⟨rfl, rfl⟩
    clear c4
    go_wp2_with fail
    refine (num_any 1 _).mono ?_
    rintro e w5 ⟨rfl, rfl⟩
    go_wp2
    go_ret
    exact ⟨rfl, hL0, hW⟩

set_option maxRecDepth 100000 in
set_option maxHeartbeats 2000000 in
theorem turns2_restore (B0 wb : Nat) (xv rv : Value) (FX : Nat → Prop) (X : World → Prop) (N : Nat) (w : World) (L : LX B0 wb xv rv FX X N w) (hB : B0 ≤ w.heap.size) (A B C : Int) (s : ByteArray) :
    Calls Tryz.prog 21 #[.pointer (some ⟨wb, 0, none⟩), .agg #[.int .i64 3, .int .i64 A, .int .i64 B, .int .i64 C, .string s]] w fun e w' => e = .returned (.bool true) ∧ LX B0 wb xv rv FX X N w' ∧ Below B0 w w' := by
  have hbx := fun w' hb => box_cell w 3 A B C s (w' := w') hb 4
  have hbx1 := fun w' hb => box_cell w 3 A B C s (w' := w') hb 1
  simp only [List.getElem?_toArray, List.getElem?_cons_succ, List.getElem?_cons_zero] at hbx hbx1
  have hW : Below B0 w (w.alloc (opBox 3 A B C s)) := (Below.refl _ _).alloc (by omega) _
  have hL0 : LX B0 wb xv rv FX X N (w.alloc (opBox 3 A B C s)) := L.below ((Below.refl _ _).alloc (Nat.le_refl _) _)
  have hsz : (w.alloc (opBox 3 A B C s)).heap.size = w.heap.size + 1 := by simp
  clear L
  go_enter Tryz.func21, Tryz.ntmps21
  go_wp2_with fail
  obtain ⟨W0, hW0⟩ : ∃ W0, W0 = w.alloc (opBox 3 A B C s) := ⟨_, rfl⟩
  rw [← hW0] at hbx hbx1 hW hL0 hsz ⊢
  clear hW0
  refine (restore_ans s A W0).mono ?_
  rintro e w1 ⟨t1, n1, rfl, ha1, hB1⟩
  have c4 := hbx w1 (hsz ▸ hB1)
  have c1 := hbx1 w1 (hsz ▸ hB1)
  have hz1 := hB1.size
  go_wp2_with fail
  refine (refrestore_ans s A w1).mono ?_
  rintro e w2 ⟨t2, n2, rfl, ha2, hB2⟩
  obtain ⟨rfl, rfl⟩ := ha1.uniq ha2
  clear c4 c1 ha1 ha2
  have hb2 : Below W0.heap.size W0 w2 := hB1.trans (hB2.mono hz1)
  have hL2 := hL0.below hb2
  go_wp2_with fail
  refine (num_any _ _).mono ?_
  rintro e w5 ⟨rfl, rfl⟩
  go_wp2
  go_ret
  exact ⟨rfl, hL2, hW.trans (hb2.mono (by omega))⟩

end Go.Proofs.YtopihgmemnokkaaGreat

namespace Go.Proofs.YtopihgmemnokkaaGreat
open Go.RowKit

theorem Wd.set0 {w : World} {wb : Nat} {v0 v1 v2 v3 v4 v5 v6 v7 : Value} (h : Wd w wb v0 v1 v2 v3 v4 v5 v6 v7) (v : Value) : Wd (w.setCell ⟨wb, 0, none⟩ v) wb v v1 v2 v3 v4 v5 v6 v7 := by
  unfold Wd at *; simp [World.setCell, Array.getElem?_modify, h]
theorem Wd.set1 {w : World} {wb : Nat} {v0 v1 v2 v3 v4 v5 v6 v7 : Value} (h : Wd w wb v0 v1 v2 v3 v4 v5 v6 v7) (v : Value) : Wd (w.setCell ⟨wb, 1, none⟩ v) wb v0 v v2 v3 v4 v5 v6 v7 := by
  unfold Wd at *; simp [World.setCell, Array.getElem?_modify, h]

/-- one thing more in a row of the law's World -/
theorem push_row {w w' : World} {B0 wb : Nat} {v0 v1 v2 v3 v4 v5 v6 v7 : Value} (hW : Wd w wb v0 v1 v2 v3 v4 v5 v6 v7) {e : TypeId} {v : Value} {n : Nat} {xs : List Value} (h : w.ownsRow B0 e 1 v n xs) (he : e ≠ 33) (o : Obj) {g cap : Nat} {u : Value}
    (hown : w'.ownsRow B0 e 1 (.slice (some ⟨g, 0, none⟩) (n + 1) cap) (n + 1) (xs ++ [u])) (hd : (v.ownBlock = some g ∧ (w.alloc o).grownBy w' (some g)) ∨ (g = w.heap.size + 1 ∧ (w.alloc o).grownBy w' none)) (f : Nat) :
    Wd w' wb v0 v1 v2 v3 v4 v5 v6 v7 ∧ Kept (fun k => v.ownBlock = some k ∨ k = wb) w (w'.setCell ⟨wb, f, none⟩ (.slice (some ⟨g, 0, none⟩) (n + 1) cap)) ∧
      (w'.setCell ⟨wb, f, none⟩ (.slice (some ⟨g, 0, none⟩) (n + 1) cap)).ownsRow B0 e 1 (.slice (some ⟨g, 0, none⟩) (n + 1) cap) (n + 1) (xs ++ [u]) ∧ (v.ownBlock = some g ∨ w.heap.size < g) := by
  have hg := two_grown hd
  have hk : Kept (fun a => some a = v.ownBlock) w w' := ((Kept.refl _ w).alloc o).grown hg (fun a h _ => h.symm)
  have hwd : Wd w' wb v0 v1 v2 v3 v4 v5 v6 v7 := hW.keep hk (fun e => hW.ne h he e.symm)
  have hk2 : Kept (fun a => a = wb) w' (w'.setCell ⟨wb, f, none⟩ (.slice (some ⟨g, 0, none⟩) (n + 1) cap)) := (Kept.refl (fun a => a = wb) w').setCell (show (⟨wb, _, none⟩ : Addr).block = wb from rfl) _
  refine ⟨hwd, ?_, own_keep hown hk2 (fun a ha e => hwd.ne hown he (by rw [ha, e])), hd.imp (fun h => h.1) (fun h => by omega)⟩
  refine Kept.trans' (P := fun k => v.ownBlock = some k ∨ k = wb) (hk.mono (fun k _ h => .inl h.symm)) hk2 (fun i _ h => .inr h)

theorem Tryz.infoPB : (Tryz.prog.info? 95).map (fun i => (i.zero, i.size, i.bytes)) = some (some (.pointer none), 1, 8) := by kernel_rfl
theorem Tryz.infoPQ : (Tryz.prog.info? 98).map (fun i => (i.zero, i.size, i.bytes)) = some (some (.pointer none), 1, 8) := by kernel_rfl

section
variable {B0 wb : Nat} {xv rv : Value} {FX : Nat → Prop} {X : World → Prop} {w : World} {bv qv lv tv mv dv : Value} {ls ts : List Value} {ms : List Int} {ds : List ByteArray} {its : List BI} {N : Nat}

/-- all blocks of the law's World lie under its world's top -/
theorem LXat.lts (h : LXat B0 wb xv rv FX X w bv qv lv tv mv dv ls ts ms ds its) (k : Nat) (hk : FL lv mv ls k ∨ FL tv dv ts k ∨ FB bv qv its k ∨ FX k) : k < w.heap.size := by
  rcases hk with hk | hk | hk | hk
  · exact h.lists.lt k hk
  · exact h.texts.lt k hk
  · exact h.bits.lt k hk
  · exact h.cl.lt _ h.more k hk

/-- bits more -/
theorem LXat.push (h : LXat B0 wb xv rv FX X w bv qv lv tv mv dv ls ts ms ds its) (it : BI) (hit : it.At w) (hlow : ∀ k, FL lv mv ls k ∨ FL tv dv ts k ∨ FB bv qv its k ∨ FX k → k < it.a) (hwb : wb < it.a)
    {wA wB : World} {g1 c1 g2 c2 : Nat} (kA : Kept (fun k => bv.ownBlock = some k ∨ k = wb) w wA) (kB : Kept (fun k => qv.ownBlock = some k ∨ k = wb) wA wB)
    (oA : wA.ownsRow B0 95 1 (.slice (some ⟨g1, 0, none⟩) (its.length + 1) c1) (its.length + 1) ((its.map fun i => .pointer (some ⟨i.b, 0, none⟩)) ++ [.pointer (some ⟨it.b, 0, none⟩)]))
    (oB : wB.ownsRow B0 98 1 (.slice (some ⟨g2, 0, none⟩) (its.length + 1) c2) (its.length + 1) ((its.map fun i => .pointer (some ⟨i.q, 0, none⟩)) ++ [.pointer (some ⟨it.q, 0, none⟩)]))
    (hA : bv.ownBlock = some g1 ∨ w.heap.size < g1) (hB : qv.ownBlock = some g2 ∨ wA.heap.size < g2)
    (hw : Wd wB wb (.slice (some ⟨g1, 0, none⟩) (its.length + 1) c1) (.slice (some ⟨g2, 0, none⟩) (its.length + 1) c2) xv rv lv tv mv dv) (qA : wA.ownsRow B0 98 1 qv its.length (its.map fun i => .pointer (some ⟨i.q, 0, none⟩))) :
    LXat B0 wb xv rv FX X wB (.slice (some ⟨g1, 0, none⟩) (its.length + 1) c1) (.slice (some ⟨g2, 0, none⟩) (its.length + 1) c2) lv tv mv dv ls ts ms ds (its ++ [it]) := by
  have hAs := kA.size
  have htop := hit.top
  have hk : Kept (fun k => bv.ownBlock = some k ∨ qv.ownBlock = some k ∨ k = wb) w wB :=
    Kept.trans' (kA.mono (Q := fun k => bv.ownBlock = some k ∨ qv.ownBlock = some k ∨ k = wb) (fun k _ h => h.elim .inl (fun h => .inr (.inr h)))) kB (fun i _ h => h.elim (fun h => .inr (.inl h)) (fun h => .inr (.inr h)))
  have fbn : ∀ k, FB (.slice (some ⟨g1, 0, none⟩) (its.length + 1) c1) (.slice (some ⟨g2, 0, none⟩) (its.length + 1) c2) (its ++ [it]) k → FB bv qv its k ∨ it.a ≤ k := by
    intro k hk2
    rcases hk2 with hk2 | hk2 | ⟨i, hi, h1, h2⟩
    · have : g1 = k := by simpa [Value.ownBlock] using hk2
      subst this
      rcases hA with hA | hA
      · exact .inl (.inl hA)
      · exact .inr (by have := hit.rq; omega)
    · have : g2 = k := by simpa [Value.ownBlock] using hk2
      subst this
      rcases hB with hB | hB
      · exact .inl (.inr (.inl hB))
      · exact .inr (by have := hit.rq; omega)
    · rw [List.mem_append] at hi
      rcases hi with hi | hi
      · exact .inl (.inr (.inr ⟨i, hi, h1, h2⟩))
      · have : i = it := by simpa using hi
        subst this
        exact .inr h1
  have notP : ∀ k, (FL lv mv ls k ∨ FL tv dv ts k ∨ FX k) → ¬ (bv.ownBlock = some k ∨ qv.ownBlock = some k ∨ k = wb) := by
    intro k hk2 hP
    have hFB : k ≠ wb → FB bv qv its k := fun hn => by
      rcases hP with h1 | h1 | h1
      · exact .inl h1
      · exact .inr (.inl h1)
      · exact absurd h1 hn
    rcases hk2 with hk2 | hk2 | hk2
    · exact (h.d1 k hk2).2.1 (hFB (h.lists.wd h.wd k hk2))
    · exact (h.d2 k hk2).1 (hFB (h.texts.wd h.wd k hk2))
    · exact (h.d3 k (hFB (h.d4 k hk2))).1 hk2
  have new : ∀ k, it.a ≤ k → ¬ (FL lv mv ls k ∨ FL tv dv ts k ∨ FB bv qv its k ∨ FX k) ∧ k ≠ wb := by
    intro k h1
    exact ⟨fun h2 => by have := hlow k h2; omega, by omega⟩
  have itk : ∀ i, i ∈ its ++ [it] → i.At wB := by
    intro i hi
    rw [List.mem_append] at hi
    rcases hi with hi | hi
    · refine (h.bits.all i hi).keep hk (fun k h1 h2 hP => ?_)
      have hF : FB bv qv its k := .inr (.inr ⟨i, hi, h1, h2⟩)
      have hs := h.bits.sep i hi k h1 h2
      rcases hP with h3 | h3 | h3
      · exact hs.1 h3
      · exact hs.2 h3
      · exact (h.d3 k hF).2 h3
    · have : i = it := by simpa using hi
      subst this
      refine hit.keep hk (fun k h1 h2 hP => ?_)
      have hn := new k h1
      rcases hP with h3 | h3 | h3
      · exact hn.1 (.inr (.inr (.inl (.inl h3))))
      · exact hn.1 (.inr (.inr (.inl (.inr (.inl h3)))))
      · exact hn.2 h3
  have sep : ∀ i, i ∈ its ++ [it] → ∀ k, i.a ≤ k → k < i.z → (Value.slice (some ⟨g1, 0, none⟩) (its.length + 1) c1).ownBlock ≠ some k ∧ (Value.slice (some ⟨g2, 0, none⟩) (its.length + 1) c2).ownBlock ≠ some k := by
    intro i hi k h1 h2
    have hz : k < w.heap.size ∧ bv.ownBlock ≠ some k ∧ qv.ownBlock ≠ some k := by
      rw [List.mem_append] at hi
      rcases hi with hi | hi
      · exact ⟨Nat.lt_of_lt_of_le h2 (h.bits.all i hi).top, h.bits.sep i hi k h1 h2⟩
      · have : i = it := by simpa using hi
        subst this
        have hn := (new k h1).1
        exact ⟨by omega, fun e => hn (.inr (.inr (.inl (.inl e)))), fun e => hn (.inr (.inr (.inl (.inr (.inl e)))))⟩
    exact ⟨own_far hA (fun h => by omega) hz.2.1, own_far hB (fun h => by omega) hz.2.2⟩
  refine ⟨h.low, hw, h.lists.keepO hk (fun k h1 => notP k (.inl h1)), h.texts.keepO hk (fun k h1 => notP k (.inr (.inl h1))), ⟨?_, ?_, itk, sep⟩, h.cl.keep _ _ _ h.more hk (fun k h1 => notP k (.inr (.inr h1))), h.cl, ?_, ?_, ?_, h.d4⟩
  · rw [List.length_append, List.map_append]
    exact own_keep oA kB (fun a ha hP => by
      rcases hP with hP | hP
      · have := ne_of (owns_ne qA oA (by decide)) a ha
        exact this hP.symm
      · have hg : g1 = a := by simpa [Value.ownBlock] using ha
        subst hg hP
        rcases hA with hA | hA
        · exact (h.d3 _ (.inl hA)).2 rfl
        · have := hit.rq; omega)
  · rw [List.length_append, List.map_append]; exact oB
  · intro k hk2
    refine ⟨(h.d1 k hk2).1, fun h2 => ?_, (h.d1 k hk2).2.2⟩
    rcases fbn k h2 with h2 | h2
    · exact (h.d1 k hk2).2.1 h2
    · exact (new k h2).1 (.inl hk2)
  · intro k hk2
    refine ⟨fun h2 => ?_, (h.d2 k hk2).2⟩
    rcases fbn k h2 with h2 | h2
    · exact (h.d2 k hk2).1 h2
    · exact (new k h2).1 (.inr (.inl hk2))
  · intro k hk2
    rcases fbn k hk2 with h2 | h2
    · exact h.d3 k h2
    · exact ⟨fun h3 => (new k h2).1 (.inr (.inr (.inr h3))), (new k h2).2⟩
end

end Go.Proofs.YtopihgmemnokkaaGreat

