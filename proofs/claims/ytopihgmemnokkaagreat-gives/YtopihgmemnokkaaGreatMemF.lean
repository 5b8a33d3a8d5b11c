import Derived.Test.YtopihgmemnokkaaGreatOrderF
import Derived.Test.YtopihgmemnokkaaGreatBuildF
import Derived.WalkKit
import Derived.WalkSpells
import Derived.WalkLawsBesides
import Derived.Test.YtopihgmemnokkaaGreatEndsF
import Derived.BigRegion
namespace Go.Proofs.YtopihgmemnokkaaGreat
open Go.RowKit

theorem size_rowC (m : Nat) (f : Nat → Nat) : (rowC m f).size = m := by simp [rowC]

theorem rowC_get {m : Nat} {f : Nat → Nat} {i : Nat} (h : i < m) : (rowC m f)[i]? = some (.int .i64 (f i : Nat)) := by
  simp [rowC, h]

theorem rowC_congr {m : Nat} {f g : Nat → Nat} (h : ∀ i, i < m → f i = g i) : rowC m f = rowC m g := by
  unfold rowC
  apply Array.map_congr_left
  intro a ha
  rw [h a (by simpa using ha)]

theorem rowC_set {m : Nat} {f : Nat → Nat} {i v : Nat} : (rowC m f).setIfInBounds i (.int .i64 (v : Nat)) = rowC m (Cc.put f i v) := by
  apply Array.ext_getElem?
  intro j
  rw [Array.getElem?_setIfInBounds, size_rowC]
  by_cases hj : j < m
  · rw [rowC_get hj]
    by_cases e : i = j
    · subst e; simp [hj, rowC_get hj, Cc.put]
    · have e' : ¬ j = i := fun x => e x.symm
      rw [if_neg e, rowC_get hj]; simp [Cc.put, e']
  · have h1 : (rowC m f)[j]? = none := by simp [size_rowC]; omega
    have h2 : (rowC m (Cc.put f i v))[j]? = none := by simp [size_rowC]; omega
    rw [h1, h2]
    by_cases e : i = j
    · subst e; simp [hj]
    · rw [if_neg e]

theorem rowC_made (m : Nat) : madeCells #[.int .i64 0] m = rowC m fun _ => 0 := by
  unfold madeCells rowC
  apply Array.map_congr_left
  intro a _
  have : a % (#[Value.int .i64 0] : Array Value).size = 0 := by simp [Nat.mod_one]
  rw [this]; rfl

/-- block b holds m numbers -/
def Row (w : World) (b : Nat) (e : TypeId) (m : Nat) (f : Nat → Nat) : Prop := w.heap[b]? = some (.cells (rowC m f) e (0, 0))

theorem Row.cell {w : World} {b : Nat} {e : TypeId} {m : Nat} {f : Nat → Nat} (h : Row w b e m f) {i : Nat} (hi : i < m) : w.cell? ⟨b, i, none⟩ = some (.int .i64 (f i : Nat)) := by
  unfold Row at h
  simp [World.cell?, h, rowC_get hi]

theorem Row.frozen {w : World} {b : Nat} {e : TypeId} {m : Nat} {f : Nat → Nat} (h : Row w b e m f) (i : Nat) : w.frozen? ⟨b, i, none⟩ = false := by
  unfold Row at h
  simp [World.frozen?, h]

theorem Row.lt {w : World} {b : Nat} {e : TypeId} {m : Nat} {f : Nat → Nat} (h : Row w b e m f) : b < w.heap.size := by
  unfold Row at h
  exact (Array.getElem?_eq_some_iff.1 h).1

theorem Row.congr {w : World} {b : Nat} {e : TypeId} {m : Nat} {f g : Nat → Nat} (h : Row w b e m f) (hg : ∀ i, i < m → f i = g i) : Row w b e m g := by
  unfold Row at *; rw [h, rowC_congr hg]

theorem Row.set {w : World} {b : Nat} {e : TypeId} {m : Nat} {f : Nat → Nat} (h : Row w b e m f) (i v : Nat) : Row (w.setCell ⟨b, i, none⟩ (.int .i64 (v : Nat))) b e m (Cc.put f i v) := by
  unfold Row at *
  have hb := (Array.getElem?_eq_some_iff.1 h).1
  have hb2 := (Array.getElem?_eq_some_iff.1 h).2
  simp [World.setCell, Array.getElem?_modify, h, rowC_set]

theorem Row.other {w : World} {b : Nat} {e : TypeId} {m : Nat} {f : Nat → Nat} (h : Row w b e m f) {a : Addr} (ha : a.block ≠ b) (v : Value) : Row (w.setCell a v) b e m f := by
  unfold Row at *
  rw [Below.heap_setCell w a v b (fun e => ha e.symm)]; exact h

theorem Row.alloc {w : World} {b : Nat} {e : TypeId} {m : Nat} {f : Nat → Nat} (h : Row w b e m f) (o : Obj) : Row (w.alloc o) b e m f := by
  have := h.lt
  unfold Row at *
  rw [Below.heap_alloc w o b this]; exact h

theorem Row.drew {w : World} {b : Nat} {e : TypeId} {m : Nat} {f : Nat → Nat} (h : Row w b e m f) : Row w.drew b e m f := h

theorem Row.new (w : World) (e : TypeId) (m : Nat) (f : Nat → Nat) : Row (w.alloc (.cells (rowC m f) e)) w.heap.size e m f := by
  unfold Row; exact heap_alloc_new w _

theorem Row.new' {w : World} {b : Nat} (e : TypeId) (m : Nat) (f : Nat → Nat) (hb : w.heap.size = b) : Row (w.alloc (.cells (rowC m f) e)) b e m f := by
  subst hb; exact Row.new w e m f

theorem Row.below {w w' : World} {b B : Nat} {e : TypeId} {m : Nat} {f : Nat → Nat} (h : Row w b e m f) (hb : Below B w w') (hlt : b < B) : Row w' b e m f := by
  unfold Row at *; rw [hb.block b hlt]; exact h

/-- nothing but blocks of P has turned -/
structure Kept (P : Nat → Prop) (w w' : World) : Prop where
  os : w'.os = w.os
  tape : w'.tape = w.tape
  output : w'.output = w.output
  size : w.heap.size ≤ w'.heap.size
  block : ∀ k, k < w.heap.size → ¬ P k → w'.heap[k]? = w.heap[k]?

theorem Kept.refl (P : Nat → Prop) (w : World) : Kept P w w := ⟨rfl, rfl, rfl, Nat.le_refl _, fun _ _ _ => rfl⟩
theorem Kept.drew {P : Nat → Prop} {a w : World} (h : Kept P a w) : Kept P a w.drew := ⟨h.os, h.tape, h.output, h.size, h.block⟩
theorem Kept.setCell {P : Nat → Prop} {a w : World} (h : Kept P a w) {p : Addr} (hp : P p.block) (u : Value) : Kept P a (w.setCell p u) :=
  ⟨h.os, h.tape, h.output, by simp; exact h.size, fun k hk hn => by
    rw [Below.heap_setCell w p u k (fun e => hn (e ▸ hp))]; exact h.block k hk hn⟩
theorem Kept.trans {P : Nat → Prop} {a b c : World} (h : Kept P a b) (k : Kept P b c) : Kept P a c :=
  ⟨k.os.trans h.os, k.tape.trans h.tape, k.output.trans h.output, Nat.le_trans h.size k.size, fun i hi hn => (k.block i (Nat.lt_of_lt_of_le hi h.size) hn).trans (h.block i hi hn)⟩
theorem Kept.row {P : Nat → Prop} {w w' : World} (h : Kept P w w') {b : Nat} {e : TypeId} {m : Nat} {f : Nat → Nat} (hr : Row w b e m f) (hn : ¬ P b) : Row w' b e m f := by
  have := hr.lt
  unfold Row at *; rw [h.block b this hn]; exact hr
theorem Kept.below {P : Nat → Prop} {w w' : World} {B : Nat} (h : Kept P w w') (hP : ∀ k, P k → B ≤ k) (hB : B ≤ w.heap.size) : Below B w w' :=
  ⟨h.os, h.tape, h.output, h.size, fun k hk => h.block k (by omega) (fun p => by have := hP k p; omega)⟩


theorem rowC_one (m : Nat) (f : Nat → Nat) : (rowC m f).all (·.oneCell') = true := by
  rw [Array.all_eq_true_iff_forall_mem]
  intro x hx
  unfold rowC at hx
  simp at hx
  obtain ⟨a, _, rfl⟩ := hx
  rfl

/-- a variable of many cells is made -/
theorem wpList_alloc_row {P : Program} {ops : Array Oper} {rest : List Oper} {o : Oper} {a : Act} {w : World} {Q : Exit → Act → World → Prop} (hgd : o.guard = none) (t : TypeId) (ho : o.op = .alloc t)
    (cs : Array Value) (hz : (P.info? t).map (·.zero) = some (some (.agg cs)))
    (h : wpList P ops Q rest (a.put o.dst (.pointer (some ⟨w.heap.size, 0, none⟩))) (w.alloc (.cells cs t))) : wpList P ops Q (o :: rest) a w := by
  refine wpList_plain hgd fun K hK => ?_
  unfold Oper.wp execOp
  simp only [ho, Sem.run_bind, Sem.run_pure, Result.andThen_ok, run_alloc_row w t cs hz]
  exact hK _ _ h

theorem Row.setRow {w : World} {b : Nat} {e : TypeId} {m : Nat} {f : Nat → Nat} (h : Row w b e m f) (g : Nat → Nat) : Row (w.setRow b (rowC m g)) b e m g := by
  unfold Row at *; exact setRow_heap w b _ _ e _ h
theorem Row.setRow_other {w : World} {b c : Nat} {e : TypeId} {m : Nat} {f : Nat → Nat} (h : Row w b e m f) (hc : b ≠ c) (cs : Array Value) : Row (w.setRow c cs) b e m f := by
  unfold Row at *; rw [Go.setRow_other w c b cs hc]; exact h
theorem below_setRow {B : Nat} {a w : World} (h : Below B a w) {b : Nat} (hb : B ≤ b) (cs : Array Value) : Below B a (w.setRow b cs) :=
  ⟨h.os, h.tape, h.output, by simp; exact h.size, fun k hk => by rw [Go.setRow_other w b k cs (by omega)]; exact h.block k hk⟩

/-- a result that lies in memory, and one that doesn't -/
theorem results_row_tmp {P : Program} {fn : Func} {p u : Tmp} {ty : TypeId} (h : fn.results = #[.cell p ty, .tmp u]) (tmps : Array Value) (w : World) (g : Nat) (t : TypeId) (cs : Array Value) (fr : Nat × Nat) (d : TypeDesc)
    (hp : tmps.getD p undef = .pointer (some ⟨g, 0, none⟩)) (hg : w.heap[g]? = some (.cells cs t fr))
    (hu : P.underlying ty = some d) (hd : (match d with | .struct _ | .array _ _ => true | _ => false) = true) (hi : (P.info? ty).map (·.size) = some cs.size) :
    (results fn tmps).run P w = .ok (.tuple #[.agg cs, tmps.getD u undef]) w := by
  rw [results_cell_tmp h, hp]
  simp [asAddr, Result.andThen, run_loadVar_row w g t ty cs fr d hg hu hd hi]

end Go.Proofs.YtopihgmemnokkaaGreat

namespace Go.Proofs.YtopihgmemnokkaaGreat
open Go.RowKit

theorem ret_int {k : IntKind} {a b : Int} (h : a = b) : Ending.returned (.int k a) = .returned (.int k b) := by rw [h]

set_option maxHeartbeats 400000 in
theorem letter_any (s : ByteArray) (i : Nat) (w : World) (h1 : i ≤ s.size) :
    Calls Tryz.prog 159 #[.string s, .int .i64 i] w fun e w' => e = .returned (.int .i64 (LT s i : Nat)) ∧ w' = w := by
  by_cases h : i = s.size
  · subst h
    have hb : ((s.size : Int) == (s.size : Int)) = true := by simp
    go_enter Tryz.func159, Tryz.ntmps159
    go_wp2
    go_ret
    exact ⟨ret_int (by unfold LT; simp), rfl⟩
  · have hb : ((i : Int) == (s.size : Int)) = false := by simp; omega
    have hlt : i < s.size := by omega
    go_enter Tryz.func159, Tryz.ntmps159
    go_wp2
    go_ret
    exact ⟨ret_int (by rw [LT_lt s hlt]; simp only [wrap64]; have := UInt8.toNat_lt s[i]; omega), rfl⟩


theorem Tryz.info233 : (Tryz.prog.info? 233).map (fun i => (i.zero, i.size, i.bytes)) = some (some (.int .i64 0), 1, 8) := by kernel_rfl
theorem Tryz.info3 : (Tryz.prog.info? 3).map (fun i => (i.zero, i.size, i.bytes)) = some (some (.int .i64 0), 1, 8) := by kernel_rfl

set_option maxHeartbeats 400000 in
theorem cmp_any (a b : Int) (w : World) :
    Calls Tryz.prog 158 #[.int .i64 a, .int .i64 b] w fun e w' => e = .returned (.int .i64 (if a < b then -1 else if a = b then 0 else 1)) ∧ w' = w := by
  have hn1 : (a != a) = false := by simp
  have hn2 : (b != b) = false := by simp
  by_cases h : a < b
  · go_enter Tryz.func158, Tryz.ntmps158
    go_wp2
    go_ret
    exact ⟨rfl, rfl⟩
  · by_cases h2 : a = b
    · subst h2
      go_enter Tryz.func158, Tryz.ntmps158
      go_wp2
      go_ret
      exact ⟨rfl, rfl⟩
    · have h3 : b < a := by omega
      go_enter Tryz.func158, Tryz.ntmps158
      go_wp2
      go_ret
      exact ⟨rfl, rfl⟩


theorem cmp_lt (a b : Int) (w : World) (h : a < b) :
    Calls Tryz.prog 158 #[.int .i64 a, .int .i64 b] w fun e w' => e = .returned (.int .i64 (-1)) ∧ w' = w :=
  (cmp_any a b w).mono fun e w' ⟨he, hw⟩ => ⟨by rw [he, if_pos h], hw⟩
theorem cmp_eq (a b : Int) (w : World) (h : a = b) :
    Calls Tryz.prog 158 #[.int .i64 a, .int .i64 b] w fun e w' => e = .returned (.int .i64 0) ∧ w' = w :=
  (cmp_any a b w).mono fun e w' ⟨he, hw⟩ => ⟨by rw [he, if_neg (by omega), if_pos h], hw⟩
theorem cmp_gt (a b : Int) (w : World) (h : b < a) :
    Calls Tryz.prog 158 #[.int .i64 a, .int .i64 b] w fun e w' => e = .returned (.int .i64 1) ∧ w' = w :=
  (cmp_any a b w).mono fun e w' ⟨he, hw⟩ => ⟨by rw [he, if_neg (by omega), if_neg (by omega)], hw⟩

theorem make_kinds (n : Nat) (hn : n ≤ 1001) (w : World) : (Instr.makeSlice 195 (.int .i64 (n : Int)) (.int .i64 (n : Int))).run Tryz.prog w
    = .ok (.slice (some ⟨w.heap.size, 0, none⟩) n n) (w.alloc (.cells (rowC n fun _ => 0) 233)) := by
  obtain ⟨i, hi, hz0, hz1, hz2⟩ := info_parts Tryz.info233
  have h := run_make (P := Tryz.prog) w 195 233 i _ Tryz.underlying195 hi hz0 .i64 .i64 n n (by omega) (by omega) (by rw [hz2]; omega) (by omega)
  rw [hz1] at h
  simp only [Int.toNat_natCast, Nat.mul_one] at h
  have hc : (Value.int .i64 0).cells = #[.int .i64 0] := rfl
  rw [hc, rowC_made] at h
  exact h

set_option maxHeartbeats 1000000 in
theorem kinds_any (s : ByteArray) (w : World) (hs : s.size ≤ 1000) :
    Calls Tryz.prog 126 #[.string s] w fun e w' => e = .returned (.slice (some ⟨w.heap.size, 0, none⟩) (s.size + 1) (s.size + 1)) ∧ Row w' w.heap.size 233 (s.size + 1) (kindN s) ∧ Below w.heap.size w w' := by
  have hmk := fun w => make_kinds (s.size + 1) (by omega) w
  have ec : ((s.size + 1 : Nat) : Int) = (s.size : Int) + 1 := by omega
  simp only [ec] at hmk
  clear ec
  have hg : (rowC (s.size + 1) fun _ => 0)[s.size]? = some (.int .i64 0) := rowC_get (by omega)
  have hrow : Row (w.alloc (Obj.cells ((rowC (s.size + 1) fun _ => 0).setIfInBounds s.size (Value.int IntKind.i64 2)) 233)) w.heap.size 233 (s.size + 1) (kindAt s s.size) := by
    have h : (rowC (s.size + 1) fun _ => 0).setIfInBounds s.size (Value.int IntKind.i64 2) = rowC (s.size + 1) (Cc.put (fun _ => 0) s.size 2) := rowC_set (v := 2)
    rw [h]
    exact (Row.new w _ _ _).congr fun i hi => kindAt_top s hi
  go_enter Tryz.func126, Tryz.ntmps126
  go_wp2
  go_loopw [4] (fun i wr => ∃ k : Nat, k ≤ s.size ∧ i = .int .i64 ((k : Int) - 1) ∧ Row wr w.heap.size 233 (s.size + 1) (kindAt s k) ∧ Below w.heap.size w wr) (fun i _ => (intOf i + 1).toNat)
  case atStart => exact ⟨s.size, Nat.le_refl _, rfl, hrow, (Below.refl _ _).alloc (Nat.le_refl _) _⟩
  case round =>
    obtain ⟨k, hk, rfl, hR, hB⟩ := hrel
    clear hrow hmk hg
    cases k with
    | zero =>
      go_wp2
      go_ret
      exact ⟨rfl, hR.congr fun i _ => kindAt_zero s, hB⟩
    | succ k =>
      have hk' : k < s.size := by omega
      have c0 : wr.cell? ⟨w.heap.size, k, none⟩ = some (.int .i64 (kindAt s (k + 1) k : Nat)) := hR.cell (by omega)
      have c1 : wr.cell? ⟨w.heap.size, k + 1, none⟩ = some (.int .i64 (kindAt s (k + 1) (k + 1) : Nat)) := hR.cell (by omega)
      have f0 : wr.frozen? ⟨w.heap.size, k, none⟩ = false := hR.frozen _
      have f1 : wr.frozen? ⟨w.heap.size, k + 1, none⟩ = false := hR.frozen _
      generalize hx : kindAt s (k + 1) k = x at c0
      generalize hy : kindAt s (k + 1) (k + 1) = y at c1
      have Hy : Hid (kindAt s (k + 1) (k + 1) = y) := hy
      clear hx hy
      rcases Nat.lt_trichotomy (LT s k) (LT s (k + 1)) with hl | hl | hl
      · have hf := fall_of_lt s hk' hl
        have hg : Row (wr.setCell ⟨w.heap.size, k, none⟩ (.int .i64 1)) w.heap.size 233 (s.size + 1) (kindAt s k) :=
          (hR.set k 1).congr fun j hj => kindAt_plain s hk' (by rw [hf]; rfl) (by omega) hj
        clear hR
        go_wp2_with fail
        rw [show ((k + 1 : Nat) : Int) - 1 = (k : Int) from by omega]
        refine (letter_any s k _ (by omega)).mono ?_
        rintro e w' ⟨rfl, rfl⟩
        go_wp2_with fail
        rw [show (k : Int) + 1 = ((k + 1 : Nat) : Int) from rfl]
        refine (letter_any s (k + 1) _ (by omega)).mono ?_
        rintro e w' ⟨rfl, rfl⟩
        go_wp2_with fail
        refine (cmp_lt _ _ _ (by omega)).mono ?_
        rintro e w' ⟨rfl, rfl⟩
        go_wp2
        exact ⟨⟨k, by omega, rfl, hg, hB.setCell (Nat.le_refl _) _⟩, by simp [intOf]⟩
      · obtain ⟨hk2, hf⟩ := fall_of_eq s hk' hl
        have hn := kindAt_next s hk2
        rw [Hy.out, ← hf] at hn
        cases hfk : Cc.fall s.size (before s) k
        · rw [hfk] at hn
          have hn' : y = 1 := hn
          clear hn
          have hg : Row (wr.setCell ⟨w.heap.size, k, none⟩ (.int .i64 1)) w.heap.size 233 (s.size + 1) (kindAt s k) :=
            (hR.set k 1).congr fun j hj => kindAt_plain s hk' (by rw [hfk]; rfl) (by omega) hj
          subst hn'
          clear hR hf hfk
          go_wp2_with fail
          rw [show ((k + 1 : Nat) : Int) - 1 = (k : Int) from by omega]
          refine (letter_any s k _ (by omega)).mono ?_
          rintro e w' ⟨rfl, rfl⟩
          go_wp2_with fail
          rw [show (k : Int) + 1 = ((k + 1 : Nat) : Int) from rfl]
          refine (letter_any s (k + 1) _ (by omega)).mono ?_
          rintro e w' ⟨rfl, rfl⟩
          go_wp2_with fail
          refine (cmp_eq _ _ _ (by omega)).mono ?_
          rintro e w' ⟨rfl, rfl⟩
          go_wp2
          exact ⟨⟨k, by omega, rfl, hg, hB.setCell (Nat.le_refl _) _⟩, by simp [intOf]⟩
        · rw [hfk] at hn
          have hn' : y = 0 := hn
          clear hn
          have hg : Row (wr.setCell ⟨w.heap.size, k, none⟩ (.int .i64 0)) w.heap.size 233 (s.size + 1) (kindAt s k) :=
            (hR.set k 0).congr fun j hj => kindAt_plain s hk' (by rw [hfk]; rfl) (by rw [Hy.out]; omega) hj
          subst hn'
          clear hR hf hfk
          go_wp2_with fail
          rw [show ((k + 1 : Nat) : Int) - 1 = (k : Int) from by omega]
          refine (letter_any s k _ (by omega)).mono ?_
          rintro e w' ⟨rfl, rfl⟩
          go_wp2_with fail
          rw [show (k : Int) + 1 = ((k + 1 : Nat) : Int) from rfl]
          refine (letter_any s (k + 1) _ (by omega)).mono ?_
          rintro e w' ⟨rfl, rfl⟩
          go_wp2_with fail
          refine (cmp_eq _ _ _ (by omega)).mono ?_
          rintro e w' ⟨rfl, rfl⟩
          go_wp2
          exact ⟨⟨k, by omega, rfl, hg, hB.setCell (Nat.le_refl _) _⟩, by simp [intOf]⟩
      · have hf := fall_of_gt s hk' hl
        by_cases hy1 : y = 1
        · subst hy1
          have hg : Row ((wr.setCell ⟨w.heap.size, k, none⟩ (.int .i64 0)).setCell ⟨w.heap.size, k + 1, none⟩ (.int .i64 2)) w.heap.size 233 (s.size + 1) (kindAt s k) :=
            ((hR.set k 0).set (k + 1) 2).congr fun j hj => kindAt_valley s hk' hf Hy.out hj
          clear hR hf
          go_wp2_with fail
          rw [show ((k + 1 : Nat) : Int) - 1 = (k : Int) from by omega]
          refine (letter_any s k _ (by omega)).mono ?_
          rintro e w' ⟨rfl, rfl⟩
          go_wp2_with fail
          rw [show (k : Int) + 1 = ((k + 1 : Nat) : Int) from rfl]
          refine (letter_any s (k + 1) _ (by omega)).mono ?_
          rintro e w' ⟨rfl, rfl⟩
          go_wp2_with fail
          refine (cmp_gt _ _ _ (by omega)).mono ?_
          rintro e w' ⟨rfl, rfl⟩
          go_wp2
          exact ⟨⟨k, by omega, rfl, hg, (hB.setCell (Nat.le_refl _) _).setCell (Nat.le_refl _) _⟩, by simp [intOf]⟩
        · have hg : Row (wr.setCell ⟨w.heap.size, k, none⟩ (.int .i64 0)) w.heap.size 233 (s.size + 1) (kindAt s k) :=
            (hR.set k 0).congr fun j hj => kindAt_plain s hk' (by rw [hf]; rfl) (by rw [Hy.out]; omega) hj
          have hyb : ((y : Int) == 1) = false := by simp; omega
          clear hR hf hy1
          go_wp2_with fail
          rw [show ((k + 1 : Nat) : Int) - 1 = (k : Int) from by omega]
          refine (letter_any s k _ (by omega)).mono ?_
          rintro e w' ⟨rfl, rfl⟩
          go_wp2_with fail
          rw [show (k : Int) + 1 = ((k + 1 : Nat) : Int) from rfl]
          refine (letter_any s (k + 1) _ (by omega)).mono ?_
          rintro e w' ⟨rfl, rfl⟩
          go_wp2_with fail
          refine (cmp_gt _ _ _ (by omega)).mono ?_
          rintro e w' ⟨rfl, rfl⟩
          go_wp2
          exact ⟨⟨k, by omega, rfl, hg, hB.setCell (Nat.le_refl _) _⟩, by simp [intOf]⟩

end Go.Proofs.YtopihgmemnokkaaGreat

namespace Go.Proofs.YtopihgmemnokkaaGreat
open Go.RowKit

set_option maxRecDepth 100000 in
set_option maxHeartbeats 1000000 in
theorem shelves_any (fa fr F M B : Nat → Nat) (w : World) (h0 : F 0 = 0) (hB : ∀ c, c < 257 → F c + fa c = B c) (hF : ∀ c, c < 257 → F (c + 1) = B c) (hM : ∀ c, c < 257 → M c + fr c = B c) (hb : ∀ c, B c ≤ 1001) :
    Calls Tryz.prog 160 #[.agg (rowC 257 fa), .agg (rowC 257 fr)] w fun e w' => e = .returned (.agg (rowC 771 (sh3 F M B))) ∧ Below w.heap.size w w' := by
  have hF0 : Hid (F 0 = 0) := h0
  clear h0
  have hB' : Hid (∀ c, c < 257 → F c + fa c = B c) := hB
  have hM' : Hid (∀ c, c < 257 → M c + fr c = B c) := hM
  have hF' : Hid (∀ c, c < 257 → F (c + 1) = B c) := hF
  clear hB hM hF
  go_enter Tryz.func160, Tryz.ntmps160
  go_wp2_with (refine wpList_alloc_row rfl 199 rfl _ zero771 ?_)
  go_loopw [6, 7, 8, 9] (fun f c b i wr => ∃ p : Nat, p ≤ 257 ∧ i = .int .i64 p ∧ f = .int .i64 (F p : Nat) ∧
    Row wr w.heap.size 234 257 fa ∧ Row wr (w.heap.size + 1) 234 257 fr ∧ Row wr (w.heap.size + 2) 199 771 (fun _ => 0) ∧ Row wr (w.heap.size + 3) 199 771 (shPart F M B p) ∧
    Below w.heap.size w wr) (fun _ _ _ i _ => (257 - intOf i).toNat)
  case atStart =>
    refine ⟨0, by omega, rfl, by rw [hF0.out]; rfl, ?_, ?_, ?_, ?_, ?_⟩
    · exact (((Row.new' _ _ _ rfl).alloc _).alloc _).alloc _
    · exact ((Row.new' _ _ _ (by simp)).alloc _).alloc _
    · exact (Row.new' _ _ _ (by simp)).alloc _
    · exact (Row.new' _ 771 (fun _ => 0) (by simp)).congr fun k _ => by unfold shPart; rw [if_neg (by omega)]
    · exact ((((Below.refl _ _).alloc (Nat.le_refl _) _).alloc (by simp) _).alloc (by simp <;> omega) _).alloc (by simp <;> omega) _
  case round =>
    obtain ⟨p, hp, rfl, rfl, hR0, hR1, hR2, hR3, hBl⟩ := hrel
    by_cases hlt : p < 257
    · have c0 : wr.cell? ⟨w.heap.size, p, none⟩ = some (.int .i64 (fa p : Nat)) := hR0.cell hlt
      have c1 : wr.cell? ⟨w.heap.size + 1, p, none⟩ = some (.int .i64 (fr p : Nat)) := hR1.cell hlt
      have c2 := hR3.cell (i := p * 3) (by omega)
      have c3 := hR3.cell (i := p * 3 + 1) (by omega)
      have c4 := hR3.cell (i := p * 3 + 2) (by omega)
      have f2 := hR3.frozen (p * 3)
      have f3 := hR3.frozen (p * 3 + 1)
      have f4 := hR3.frozen (p * 3 + 2)
      have b1 := hb p
      have e1 := hB'.out p hlt
      have e2 := hM'.out p hlt
      have e3 := hF'.out p hlt
      have hg : Row (((wr.setCell ⟨w.heap.size + 3, p * 3, none⟩ (.int .i64 (F p : Nat))).setCell ⟨w.heap.size + 3, p * 3 + 1, none⟩ (.int .i64 (M p : Nat))).setCell ⟨w.heap.size + 3, p * 3 + 2, none⟩ (.int .i64 (B p : Nat))) (w.heap.size + 3) 199 771 (shPart F M B (p + 1)) :=
        (((hR3.set _ _).set _ _).set _ _).congr fun k _ => shPart_step F M B p k
      have q1 : (F p : Int) + (fa p : Int) = (B p : Nat) := by omega
      have q2 : (B p : Int) - (fr p : Int) = (M p : Nat) := by omega
      have e3' : Hid (F (p + 1) = B p) := e3
      clear e1 e2 e3 hF0
      go_wp2
      refine ⟨⟨p + 1, by omega, by go_num, by rw [e3'.out], ?_, ?_, ?_, hg, ?_⟩, by simp [intOf]; omega⟩
      · exact ((hR0.other (by simp <;> omega) _).other (by simp <;> omega) _).other (by simp <;> omega) _
      · exact ((hR1.other (by simp <;> omega) _).other (by simp <;> omega) _).other (by simp <;> omega) _
      · exact ((hR2.other (by simp <;> omega) _).other (by simp <;> omega) _).other (by simp <;> omega) _
      · exact ((hBl.setCell (by simp <;> omega) _).setCell (by simp <;> omega) _).setCell (by simp <;> omega) _
    · have hp' : p = 257 := by omega
      subst hp'
      go_wp2_with (first
        | (refine wpList_load_row rfl 199 _ rfl (w.heap.size + 3) rfl 199 (rowC 771 (shPart F M B 257)) (0, 0) _ (by exact hR3) Tryz.underlying199 rfl (by rw [size_rowC]; exact size771) ?_)
        | (refine wpList_store_row rfl 199 _ _ rfl (w.heap.size + 2) (rowC 771 (shPart F M B 257)) rfl rfl 199 (rowC 771 fun _ => 0) (by exact hR2) (by rw [size_rowC]; exact size771) (by rw [size_rowC, size_rowC]) (rowC_one _ _) ?_))
      have hfin : Row (wr.setRow (w.heap.size + 2) (rowC 771 (shPart F M B 257))) (w.heap.size + 2) 199 771 (shPart F M B 257) := hR2.setRow _
      refine bodyPost_ret (results_cell_row Tryz.results160 _ _ (w.heap.size + 2) 199 (rowC 771 (shPart F M B 257)) (0, 0) _ rfl hfin Tryz.underlying199 rfl (by rw [size_rowC]; exact size771)) rfl ⟨?_, ?_⟩
      · rw [rowC_congr fun k hk => shPart_all F M B hk]
      · exact below_setRow hBl (by omega) _

end Go.Proofs.YtopihgmemnokkaaGreat

namespace Go.Proofs.YtopihgmemnokkaaGreat
open Go.RowKit

abbrev fallS (s : ByteArray) (i : Nat) : Bool := Cc.fall s.size (before s) i
abbrev valS (s : ByteArray) (i : Nat) : Bool := Cc.val s.size (before s) i
def cntAll (s : ByteArray) (p c : Nat) : Nat := Cc.cn p fun j => decide (LT s j = c)
def cntRise (s : ByteArray) (p c : Nat) : Nat := Cc.cn p fun j => decide (LT s j = c) && !Cc.fall s.size (before s) j
def valsTo (s : ByteArray) (p : Nat) : List Nat := (List.range p).filter (Cc.val s.size (before s))
def valV (s : ByteArray) (p : Nat) : List Value := (valsTo s p).map fun i => Value.int .i64 (i : Nat)

theorem cntAll_succ (s : ByteArray) (p c : Nat) : Cc.put (cntAll s p) (LT s p) (cntAll s p (LT s p) + 1) c = cntAll s (p + 1) c := by
  by_cases h : c = LT s p
  · subst h; rw [Cc.put_same]; simp [cntAll, Cc.cn]
  · rw [Cc.put_other _ _ h]
    have h' : ¬ LT s p = c := fun e => h e.symm
    simp [cntAll, Cc.cn, h']
theorem cntRise_succ (s : ByteArray) (p c : Nat) (hf : Cc.fall s.size (before s) p = false) : Cc.put (cntRise s p) (LT s p) (cntRise s p (LT s p) + 1) c = cntRise s (p + 1) c := by
  by_cases h : c = LT s p
  · subst h; rw [Cc.put_same]; simp [cntRise, Cc.cn, hf]
  · rw [Cc.put_other _ _ h]
    have h' : ¬ LT s p = c := fun e => h e.symm
    simp [cntRise, Cc.cn, h']
theorem cntRise_same (s : ByteArray) (p c : Nat) (hf : Cc.fall s.size (before s) p = true) : cntRise s p c = cntRise s (p + 1) c := by
  simp [cntRise, Cc.cn, hf]
theorem valsTo_hit (s : ByteArray) (p : Nat) (h : Cc.val s.size (before s) p = true) : valsTo s (p + 1) = valsTo s p ++ [p] := by
  simp [valsTo, List.range_succ, List.filter_append, h]
theorem valsTo_miss (s : ByteArray) (p : Nat) (h : Cc.val s.size (before s) p = false) : valsTo s (p + 1) = valsTo s p := by
  simp [valsTo, List.range_succ, List.filter_append, h]
theorem valsTo_le (s : ByteArray) (p : Nat) : (valsTo s p).length ≤ p := by
  have := List.length_filter_le (Cc.val s.size (before s)) (List.range p)
  simpa [valsTo] using this
theorem cntAll_le (s : ByteArray) (p c : Nat) : cntAll s p c ≤ p := Cc.cn_le _ _
theorem cntRise_le (s : ByteArray) (p c : Nat) : cntRise s p c ≤ p := Cc.cn_le _ _

theorem kind_0 (s : ByteArray) (p : Nat) (h : Cc.fall s.size (before s) p = true) : kindN s p = 0 ∧ Cc.val s.size (before s) p = false := by
  refine ⟨by simp [kindN, h], ?_⟩
  cases e : Cc.val s.size (before s) p
  · rfl
  · rw [Cc.val_not_fall e] at h; cases h
theorem kind_2 (s : ByteArray) (p : Nat) (h : Cc.val s.size (before s) p = true) : kindN s p = 2 := by
  simp [kindN, h, Cc.val_not_fall h]
theorem kind_1 (s : ByteArray) (p : Nat) (h : Cc.fall s.size (before s) p = false) (h2 : Cc.val s.size (before s) p = false) : kindN s p = 1 := by
  simp [kindN, h, h2]

theorem Row.grown {w w' : World} {row : Option Nat} {b : Nat} {e : TypeId} {m : Nat} {f : Nat → Nat} (h : Row w b e m f) (hg : w.grownBy w' row) (hn : some b ≠ row) : Row w' b e m f := by
  have hl := h.lt
  unfold Row at *
  rw [hg.block b hl hn]; exact h

theorem ownsRow_setRow_below {w : World} {base : Nat} {e : TypeId} {size : Nat} {v : Value} {n : Nat} {xs : List Value} (h : w.ownsRow base e size v n xs) {g : Nat} (hg : g < base) (cs : Array Value) : (w.setRow g cs).ownsRow base e size v n xs := by
  obtain ⟨h1, h2⟩ := h
  refine ⟨h1, ?_⟩
  rcases h2 with h2 | ⟨g', cap, cur, e1, e2, e3, e4⟩
  · exact .inl h2
  · exact .inr ⟨g', cap, cur, e1, e2, by rw [setRow_other w g g' cs (by omega)]; exact e3, e4⟩

/-- what survey has found behind p places -/
structure Surv (s : ByteArray) (w : World) (p : Nat) (v : Value) (wr : World) : Prop where
  own : wr.ownsRow (w.heap.size + 3) 3 1 v (valsTo s p).length (valV s p)
  r0 : Row wr w.heap.size 199 771 (fun _ => 0)
  r1 : Row wr (w.heap.size + 1) 234 257 (cntAll s p)
  r2 : Row wr (w.heap.size + 2) 234 257 (cntRise s p)
  bl : Below w.heap.size w wr

theorem Surv.fall {s : ByteArray} {w : World} {p : Nat} {v : Value} {wr : World} (S : Surv s w p v wr) (hf : Cc.fall s.size (before s) p = true) :
    Surv s w (p + 1) v (wr.setCell ⟨w.heap.size + 1, LT s p, none⟩ (.int .i64 ((cntAll s p (LT s p) : Int) + 1))) := by
  have hv := (kind_0 s p hf).2
  have e := valsTo_miss s p hv
  refine ⟨?_, S.r0.other (by simp) _, (S.r1.set (LT s p) (cntAll s p (LT s p) + 1)).congr fun c _ => cntAll_succ s p c, (S.r2.other (by simp) _).congr fun c _ => cntRise_same s p c hf, S.bl.setCell (by simp) _⟩
  unfold valV; rw [e]
  exact ownsRow_setCell_below S.own (by simp) _

theorem Surv.rise {s : ByteArray} {w : World} {p : Nat} {v : Value} {wr : World} (S : Surv s w p v wr) (hf : Cc.fall s.size (before s) p = false) (hv : Cc.val s.size (before s) p = false) :
    Surv s w (p + 1) v ((wr.setCell ⟨w.heap.size + 2, LT s p, none⟩ (.int .i64 ((cntRise s p (LT s p) : Int) + 1))).setCell ⟨w.heap.size + 1, LT s p, none⟩ (.int .i64 ((cntAll s p (LT s p) : Int) + 1))) := by
  have e := valsTo_miss s p hv
  refine ⟨?_, (S.r0.other (by simp) _).other (by simp) _, ((S.r1.other (by simp) _).set (LT s p) (cntAll s p (LT s p) + 1)).congr fun c _ => cntAll_succ s p c,
    ((S.r2.set (LT s p) (cntRise s p (LT s p) + 1)).other (by simp) _).congr fun c _ => cntRise_succ s p c hf, (S.bl.setCell (by simp) _).setCell (by simp) _⟩
  unfold valV; rw [e]
  exact ownsRow_setCell_below (ownsRow_setCell_below S.own (by simp) _) (by simp) _

theorem Surv.val {s : ByteArray} {w : World} {p : Nat} {v v' : Value} {wr w1 : World} (S : Surv s w p v wr) (hf : Cc.fall s.size (before s) p = false) (hv : Cc.val s.size (before s) p = true) (o : Obj)
    (hown : w1.ownsRow (w.heap.size + 3) 3 1 v' ((valsTo s p).length + 1) (valV s p ++ [.int .i64 (p : Nat)])) (hg : (wr.alloc o).grownBy w1 v.ownBlock) :
    Surv s w (p + 1) v' ((w1.setCell ⟨w.heap.size + 2, LT s p, none⟩ (.int .i64 ((cntRise s p (LT s p) : Int) + 1))).setCell ⟨w.heap.size + 1, LT s p, none⟩ (.int .i64 ((cntAll s p (LT s p) : Int) + 1))) ∧
    Row w1 (w.heap.size + 1) 234 257 (cntAll s p) ∧ Row w1 (w.heap.size + 2) 234 257 (cntRise s p) := by
  have e := valsTo_hit s p hv
  have hb : ∀ k, k < w.heap.size + 3 → some k ≠ v.ownBlock := fun k hk h => by
    have := (S.own.lt k h.symm).1; omega
  have hsz := S.bl.size
  have q0 := (S.r0.alloc o).grown hg (hb _ (by omega))
  have q1 := (S.r1.alloc o).grown hg (hb _ (by omega))
  have q2 := (S.r2.alloc o).grown hg (hb _ (by omega))
  have qb : Below w.heap.size w w1 := (S.bl.alloc hsz o).grown hg (by simp; omega) (fun k h => by have := (S.own.lt k h).1; omega)
  refine ⟨⟨?_, (q0.other (by simp) _).other (by simp) _, ((q1.other (by simp) _).set (LT s p) (cntAll s p (LT s p) + 1)).congr fun c _ => cntAll_succ s p c,
    ((q2.set (LT s p) (cntRise s p (LT s p) + 1)).other (by simp) _).congr fun c _ => cntRise_succ s p c hf, (qb.setCell (by simp) _).setCell (by simp) _⟩, q1, q2⟩
  unfold valV at *; rw [e]
  simp only [List.length_append, List.length_singleton, List.map_append, List.map_cons, List.map_nil]
  exact ownsRow_setCell_below (ownsRow_setCell_below hown (by simp) _) (by simp) _

set_option maxRecDepth 100000 in
set_option maxHeartbeats 1000000 in
theorem survey_any (s : ByteArray) (kb : Nat) (w : World) (hs : s.size ≤ 1000) (hK : Row w kb 233 (s.size + 1) (kindN s)) :
    Calls Tryz.prog 127 #[.string s, .slice (some ⟨kb, 0, none⟩) (s.size + 1) (s.size + 1)] w fun e w' =>
      ∃ v, e = .returned (.tuple #[.agg (rowC 771 (sh3 (Cc.frontOf s.size (LT s)) (Cc.midOf s.size (LT s) (before s)) (Cc.backOf s.size (LT s)))), v]) ∧
        w'.ownsRow (w.heap.size + 3) 3 1 v (valsTo s (s.size + 1)).length (valV s (s.size + 1)) ∧ Below w.heap.size w w' := by
  obtain ⟨i0, hi, hz0, hz1, hz2⟩ := info_parts Tryz.info3
  have hkb := hK.lt
  go_enter Tryz.func127, Tryz.ntmps127
  go_wp2_with (first
    | (refine wpList_alloc_row rfl 199 rfl _ zero771 ?_)
    | (refine wpList_alloc_row rfl 234 rfl _ zero257 ?_))
  go_loopw [8, 9, 10, 11, 14] (fun v pl k c i wr => ∃ p : Nat, p ≤ s.size + 1 ∧ i = .int .i64 p ∧ Surv s w p v wr) (fun _ _ _ _ i _ => (s.size + 1) - (intOf i).toNat)
  case atStart =>
    refine ⟨0, by omega, rfl, World.ownsRow_nil _ _ _ _, ?_, ?_, ?_, ?_⟩
    · exact ((Row.new' _ _ _ rfl).alloc _).alloc _
    · exact ((Row.new' _ _ (fun _ => 0) (by simp)).alloc _).congr fun _ _ => rfl
    · exact (Row.new' _ _ (fun _ => 0) (by simp)).congr fun _ _ => rfl
    · exact (((Below.refl _ _).alloc (Nat.le_refl _) _).alloc (by simp) _).alloc (by simp <;> omega) _
  case round =>
    obtain ⟨p, hp, rfl, S⟩ := hrel
    by_cases hlt : p < s.size + 1
    · have hKr : Row wr kb 233 (s.size + 1) (kindN s) := hK.below S.bl hkb
      have ck : wr.cell? ⟨kb, p, none⟩ = some (.int .i64 (kindN s p : Nat)) := hKr.cell hlt
      have hll := LT_le s p
      have c1 := S.r1.cell (i := LT s p) (by omega)
      have c2 := S.r2.cell (i := LT s p) (by omega)
      have f1 := S.r1.frozen (LT s p)
      have f2 := S.r2.frozen (LT s p)
      have b1 := cntAll_le s p (LT s p)
      have b2 := cntRise_le s p (LT s p)
      cases hf : Cc.fall s.size (before s) p
      · cases hv : Cc.val s.size (before s) p
        · rw [kind_1 s p hf hv] at ck
          have R := S.rise hf hv
          clear hf hv
          go_wp2_with (go_at_call 159; refine (letter_any s p _ (by omega)).mono ?_; rintro e w' ⟨rfl, rfl⟩)
          exact ⟨⟨p + 1, by omega, by go_num, R⟩, by simp [intOf]; omega⟩
        · rw [kind_2 s p hv] at ck
          have R := fun v' w1 => S.val (v' := v') (w1 := w1) hf hv (Obj.cells #[Value.int IntKind.i64 p] 3)
          have hsz := S.bl.size
          have hvl := valsTo_le s p
          clear hf hv
          go_wp2_with (first
            | (go_at_call 159; refine (letter_any s p _ (by omega)).mono ?_; rintro e w' ⟨rfl, rfl⟩)
            | (at_builtin; refine wpList_append_own _ rfl _ _ 30 rfl (w.heap.size + 3) 3 i0 (.int .i64 0) 1 8 Tryz.underlying30 hi hz0 hz1 hz2 rfl (by decide) _ _ _ rfl (S.own.alloc _) ⟨w'.heap.size, 0, none⟩ 1 1 [.int .i64 (p : Int)] rfl rfl ?c1 ?c2 ?c3 ?c4 ?c5 ?_))
          case c1 => exact cell_one_new _ _ _
          case c2 => intro u hu; simp at hu; subst hu; rfl
          case c3 => unfold maxLen; omega
          case c4 => omega
          case c5 => have := S.r2.lt; simp; omega
          intro v' w1 hown hgrow _
          obtain ⟨R1, q1, q2⟩ := R v' w1 hown hgrow
          have d1 := q1.cell (i := LT s p) (by omega)
          have d2 := q2.cell (i := LT s p) (by omega)
          have g1 := q1.frozen (LT s p)
          have g2 := q2.frozen (LT s p)
          clear R hown hgrow q1 q2 c1 c2 f1 f2 ck hKr
          go_wp2
          exact ⟨⟨p + 1, by omega, by go_num, R1⟩, by simp [intOf]; omega⟩
      · obtain ⟨k0, hv⟩ := kind_0 s p hf
        rw [k0] at ck
        have R := S.fall hf
        clear k0 hf hv
        go_wp2_with (go_at_call 159; refine (letter_any s p _ (by omega)).mono ?_; rintro e w' ⟨rfl, rfl⟩)
        exact ⟨⟨p + 1, by omega, by go_num, R⟩, by simp [intOf]; omega⟩
    · have hp' : p = s.size + 1 := by omega
      subst hp'
      go_wp2_with (first
        | (refine wpList_load_row rfl 234 _ rfl (w.heap.size + 1) rfl 234 (rowC 257 (cntAll s (s.size + 1))) (0, 0) _ (by exact S.r1) Tryz.underlying234 rfl (by rw [size_rowC]; exact size257) ?_)
        | (refine wpList_load_row rfl 234 _ rfl (w.heap.size + 2) rfl 234 (rowC 257 (cntRise s (s.size + 1))) (0, 0) _ (by exact S.r2) Tryz.underlying234 rfl (by rw [size_rowC]; exact size257) ?_))
      refine (shelves_any (cntAll s (s.size + 1)) (cntRise s (s.size + 1)) (Cc.frontOf s.size (LT s)) (Cc.midOf s.size (LT s) (before s)) (Cc.backOf s.size (LT s)) _ (Cc.frontOf_zero _ _) ?_ ?_ ?_ ?_).mono ?_
      · intro c _; rw [Cc.backOf_eq, Cc.frontOf_succ]; rfl
      · intro c _; rw [Cc.backOf_eq]
      · intro c _; exact Cc.midOf_eq _ _ _ _
      · intro c; have := Cc.backOf_le s.size (LT s) c; omega
      rintro e w2 ⟨rfl, hB2⟩
      have q0 : Row w2 w.heap.size 199 771 (fun _ => 0) := S.r0.below hB2 S.r0.lt
      generalize hX : rowC 771 (sh3 (Cc.frontOf s.size (LT s)) (Cc.midOf s.size (LT s) (before s)) (Cc.backOf s.size (LT s))) = X
      have hX1 : X.size = 771 := by rw [← hX, size_rowC]
      have hX2 : X.all (·.oneCell') = true := by rw [← hX]; exact rowC_one _ _
      have HX : Hid (rowC 771 (sh3 (Cc.frontOf s.size (LT s)) (Cc.midOf s.size (LT s) (before s)) (Cc.backOf s.size (LT s))) = X) := hX
      clear hX
      go_wp2_with (refine wpList_store_row rfl 199 _ _ rfl w.heap.size X rfl rfl 199 (rowC 771 fun _ => 0) (by exact q0) (by rw [hX1]; exact size771) (by rw [hX1, size_rowC]) hX2 ?_)
      have hfin : (w2.setRow w.heap.size X).heap[w.heap.size]? = some (.cells X 199 (0, 0)) := setRow_heap w2 w.heap.size _ X 199 _ q0
      have hsz := S.r2.lt
      refine bodyPost_ret (results_row_tmp Tryz.results127 _ _ w.heap.size 199 X (0, 0) _ rfl hfin Tryz.underlying199 rfl (by rw [hX1]; exact size771)) rfl ⟨u8, ?_, ?_, ?_⟩
      · rw [HX.out]; rfl
      · refine ownsRow_setRow_below (S.own.kept (w' := w2) (row := none) ⟨hB2.os, hB2.tape, hB2.output, hB2.size, fun k hk _ => hB2.block k hk⟩ ?_) (by omega) _
        cases u8.ownBlock <;> simp
      · exact below_setRow (S.bl.trans (hB2.mono S.bl.size)) (Nat.le_refl _) _

end Go.Proofs.YtopihgmemnokkaaGreat

namespace Go.Proofs.YtopihgmemnokkaaGreat
open Go.RowKit

/-- the cells of a sorting -/
def sortC (s : ByteArray) (kb rb : Nat) (F M B : Nat → Nat) : Array Value :=
  #[.string s, .slice (some ⟨kb, 0, none⟩) (s.size + 1) (s.size + 1)] ++ rowC 771 (sh3 F M B) ++ #[.slice (some ⟨rb, 0, none⟩) (s.size + 1) (s.size + 1)]

theorem sortC_size (s : ByteArray) (kb rb : Nat) (F M B : Nat → Nat) : (sortC s kb rb F M B).size = 774 := by
  simp [sortC, size_rowC]
theorem sortC_0 (s : ByteArray) (kb rb : Nat) (F M B : Nat → Nat) : (sortC s kb rb F M B)[0]? = some (.string s) := by
  simp [sortC, size_rowC]
theorem sortC_1 (s : ByteArray) (kb rb : Nat) (F M B : Nat → Nat) : (sortC s kb rb F M B)[1]? = some (.slice (some ⟨kb, 0, none⟩) (s.size + 1) (s.size + 1)) := by
  simp [sortC, size_rowC]
theorem sortC_last (s : ByteArray) (kb rb : Nat) (F M B : Nat → Nat) : (sortC s kb rb F M B)[773]? = some (.slice (some ⟨rb, 0, none⟩) (s.size + 1) (s.size + 1)) := by
  unfold sortC
  rw [Array.getElem?_append_right (by simp [size_rowC])]
  have : 773 - (#[Value.string s, Value.slice (some ⟨kb, 0, none⟩) (s.size + 1) (s.size + 1)] ++ rowC 771 (sh3 F M B)).size = 0 := by simp [size_rowC]
  rw [this]; rfl
theorem sortC_in (s : ByteArray) (kb rb : Nat) (F M B : Nat → Nat) {k : Nat} (hk : k < 771) : (sortC s kb rb F M B)[2 + k]? = some (.int .i64 (sh3 F M B k : Nat)) := by
  have h : (rowC 771 (sh3 F M B))[k]? = some (.int .i64 (sh3 F M B k : Nat)) := rowC_get hk
  unfold sortC
  rw [Array.getElem?_append_left (by simp [size_rowC]; omega), Array.getElem?_append_right (by simp)]
  simp only [List.size_toArray, List.length_cons, List.length_nil]
  rw [show 2 + k - (0 + 1 + 1) = k from by omega]
  exact h
theorem sortC_set (s : ByteArray) (kb rb : Nat) (F M B F' M' B' : Nat → Nat) {k v : Nat} (hk : k < 771) (h : ∀ j, Cc.put (sh3 F M B) k v j = sh3 F' M' B' j) :
    (sortC s kb rb F M B).setIfInBounds (2 + k) (.int .i64 (v : Nat)) = sortC s kb rb F' M' B' := by
  apply Array.ext_getElem?
  intro j
  rw [Array.getElem?_setIfInBounds, sortC_size]
  by_cases e : 2 + k = j
  · subst e
    rw [if_pos rfl, if_pos (by omega), sortC_in s kb rb F' M' B' hk, ← h k, Cc.put_same]
  · rw [if_neg e]
    by_cases h0 : j = 0
    · subst h0; rw [sortC_0, sortC_0]
    · by_cases h1 : j = 1
      · subst h1; rw [sortC_1, sortC_1]
      · by_cases h2 : j < 773
        · obtain ⟨i, rfl⟩ : ∃ i, j = 2 + i := ⟨j - 2, by omega⟩
          rw [sortC_in _ _ _ _ _ _ (by omega), sortC_in _ _ _ _ _ _ (by omega), ← h i, Cc.put_other _ _ (by omega)]
        · by_cases h3 : j = 773
          · subst h3; rw [sortC_last, sortC_last]
          · rw [Array.getElem?_eq_none (by rw [sortC_size]; omega), Array.getElem?_eq_none (by rw [sortC_size]; omega)]

structure Srt (s : ByteArray) (sb kb rb : Nat) (F M B rows : Nat → Nat) (w : World) : Prop where
  blk : w.heap[sb]? = some (.cells (sortC s kb rb F M B) 205 (0, 0))
  kinds : Row w kb 233 (s.size + 1) (kindN s)
  rws : Row w rb 3 (s.size + 1) rows
  n1 : sb ≠ kb
  n2 : sb ≠ rb
  n3 : kb ≠ rb

theorem Srt.text {s : ByteArray} {sb kb rb : Nat} {F M B rows : Nat → Nat} {w : World} (S : Srt s sb kb rb F M B rows w) : w.cell? ⟨sb, 0, none⟩ = some (.string s) := by
  rw [cell_of_row w sb 0 _ _ _ S.blk, sortC_0]
theorem Srt.kindsV {s : ByteArray} {sb kb rb : Nat} {F M B rows : Nat → Nat} {w : World} (S : Srt s sb kb rb F M B rows w) : w.cell? ⟨sb, 1, none⟩ = some (.slice (some ⟨kb, 0, none⟩) (s.size + 1) (s.size + 1)) := by
  rw [cell_of_row w sb 1 _ _ _ S.blk, sortC_1]
theorem Srt.rowsV {s : ByteArray} {sb kb rb : Nat} {F M B rows : Nat → Nat} {w : World} (S : Srt s sb kb rb F M B rows w) : w.cell? ⟨sb, 773, none⟩ = some (.slice (some ⟨rb, 0, none⟩) (s.size + 1) (s.size + 1)) := by
  rw [cell_of_row w sb 773 _ _ _ S.blk, sortC_last]
theorem Srt.shelf {s : ByteArray} {sb kb rb : Nat} {F M B rows : Nat → Nat} {w : World} (S : Srt s sb kb rb F M B rows w) {k : Nat} (hk : k < 771) : w.cell? ⟨sb, 2 + k, none⟩ = some (.int .i64 (sh3 F M B k : Nat)) := by
  rw [cell_of_row w sb _ _ _ _ S.blk, sortC_in s kb rb F M B hk]
theorem Srt.frozen {s : ByteArray} {sb kb rb : Nat} {F M B rows : Nat → Nat} {w : World} (S : Srt s sb kb rb F M B rows w) (k : Nat) : w.frozen? ⟨sb, k, none⟩ = false :=
  frozen_of_row w sb k _ _ S.blk

theorem Srt.setShelf {s : ByteArray} {sb kb rb : Nat} {F M B F' M' B' rows : Nat → Nat} {w : World} (S : Srt s sb kb rb F M B rows w) {k v : Nat} (hk : k < 771) (h : ∀ j, Cc.put (sh3 F M B) k v j = sh3 F' M' B' j) :
    Srt s sb kb rb F' M' B' rows (w.setCell ⟨sb, 2 + k, none⟩ (.int .i64 (v : Nat))) := by
  refine ⟨?_, S.kinds.other S.n1 _, S.rws.other S.n2 _, S.n1, S.n2, S.n3⟩
  rw [heap_setCell_same w sb _ _ _ _ S.blk, sortC_set s kb rb F M B F' M' B' hk h]
theorem Srt.setRow {s : ByteArray} {sb kb rb : Nat} {F M B rows : Nat → Nat} {w : World} (S : Srt s sb kb rb F M B rows w) (p v : Nat) :
    Srt s sb kb rb F M B (Cc.put rows p v) (w.setCell ⟨rb, p, none⟩ (.int .i64 (v : Nat))) :=
  ⟨by rw [heap_setCell_other w _ _ _ S.n2]; exact S.blk, S.kinds.other (fun e => S.n3 e.symm) _, S.rws.set p v, S.n1, S.n2, S.n3⟩
theorem Srt.drew {s : ByteArray} {sb kb rb : Nat} {F M B rows : Nat → Nat} {w : World} (S : Srt s sb kb rb F M B rows w) : Srt s sb kb rb F M B rows w.drew := ⟨S.blk, S.kinds, S.rws, S.n1, S.n2, S.n3⟩

set_option maxRecDepth 100000 in
set_option maxHeartbeats 1000000 in
theorem falling_any (s : ByteArray) (sb kb rb : Nat) (F M B rows : Nat → Nat) (w : World) (hs : s.size ≤ 1000) (S : Srt s sb kb rb F M B rows w) (U : Cc.Up s.size (LT s) (before s) 0 rows F) :
    Calls Tryz.prog 132 #[.pointer (some ⟨sb, 0, none⟩)] w fun e w' => e = .returned (.tuple #[]) ∧
      ∃ rows' F', Srt s sb kb rb F' M B rows' w' ∧ Cc.Up s.size (LT s) (before s) (s.size + 1) rows' F' ∧ Kept (fun k => k = sb ∨ k = rb) w w' := by
  go_enter Tryz.func132, Tryz.ntmps132
  go_wp2
  go_loopw [2, 3, 4] (fun r b c wr => ∃ (p : Nat) (rows' F' : Nat → Nat), p ≤ s.size + 1 ∧ r = .int .i64 p ∧ Srt s sb kb rb F' M B rows' wr ∧ Cc.Up s.size (LT s) (before s) p rows' F' ∧ Kept (fun k => k = sb ∨ k = rb) w wr) (fun r _ _ _ => (s.size + 1) - (intOf r).toNat)
  case atStart => exact ⟨0, rows, F, by omega, rfl, S, U, Kept.refl _ _⟩
  case round =>
    obtain ⟨p, rows', F', hp, rfl, S', U', hk⟩ := hrel
    have cT := S'.text
    have cK := S'.kindsV
    have cR := S'.rowsV
    by_cases hlt : p < s.size + 1
    · have cp : wr.cell? ⟨rb, p, none⟩ = some (.int .i64 (rows' p : Nat)) := S'.rws.cell hlt
      have hle := U'.le (p := p) (by omega)
      generalize hv : rows' p = v at cp hle
      have Hv : Hid (rows' p = v) := hv
      clear hv
      cases v with
      | zero =>
        have U2 := U'.skip (ord s) (Or.inl Hv.out)
        go_wp2
        exact ⟨⟨p + 1, rows', F', by omega, by go_num, S', U2, hk⟩, by simp [intOf]; omega⟩
      | succ b =>
        have ck : wr.cell? ⟨kb, b, none⟩ = some (.int .i64 (kindN s b : Nat)) := S'.kinds.cell (by omega)
        cases hf : Cc.fall s.size (before s) b
        · have U2 := U'.skip (ord s) (Or.inr (by rw [Hv.out]; exact hf))
          have hkv : kindN s b = 1 ∨ kindN s b = 2 := by
            unfold kindN; rw [hf]; simp
          clear hf
          rcases hkv with hkv | hkv
          all_goals
            rw [hkv] at ck
            clear hkv
            go_wp2
            exact ⟨⟨p + 1, rows', F', by omega, by go_num, S', U2, hk⟩, by simp [intOf]; omega⟩
        · rw [(kind_0 s b hf).1] at ck
          have hll := LT_le s b
          have cF := S'.shelf (k := LT s b * 3) (by omega)
          have fF := S'.frozen (2 + LT s b * 3)
          rw [sh3_0] at cF
          have hpl : F' (LT s b) = Cc.rank s.size (before s) b := by
            have := U'.place (ord s) (by omega) (by rw [Hv.out]; omega) (by rw [Hv.out]; exact hf)
            rw [Hv.out] at this; exact this
          have hrk := (ord s).rank_le (i := b) (by have := Cc.fall_lt hf; omega)
          have hb : F' (LT s b) ≤ s.size := by omega
          have cO := S'.rws.cell (i := F' (LT s b)) (by omega)
          have fO := S'.rws.frozen (F' (LT s b))
          clear hpl hrk
          have hfin : Srt s sb kb rb (Cc.put F' (LT s b) (F' (LT s b) + 1)) M B (Cc.put rows' (F' (LT s b)) b) ((wr.setCell ⟨rb, F' (LT s b), none⟩ (.int .i64 (b : Nat))).setCell ⟨sb, 2 + LT s b * 3, none⟩ (.int .i64 ((F' (LT s b) + 1 : Nat) : Int))).drew.drew :=
            ((S'.setRow _ b).setShelf (by omega) (fun j => sh3_put0 F' M B (LT s b) _ j)).drew.drew
          have U2 : Cc.Up s.size (LT s) (before s) (p + 1) (Cc.put rows' (F' (LT s b)) b) (Cc.put F' (LT s b) (F' (LT s b) + 1)) := by
            have := U'.lay (ord s) (by omega) (by rw [Hv.out]; omega) (by rw [Hv.out]; exact hf)
            rw [Hv.out] at this; exact this
          have n2 : ¬ sb = rb := S'.n2
          have n2' : ¬ rb = sb := fun e => n2 e.symm
          generalize hq : F' (LT s b) = q at *
          have Hq : Hid (F' (LT s b) = q) := hq
          clear hq
          go_wp2_with (go_at_call 159; refine (letter_any s b _ (by omega)).mono ?_; rintro e w' ⟨rfl, rfl⟩)
          go_region
          go_wp2
          go_region
          go_wp2
          exact ⟨⟨p + 1, _, _, by omega, by go_num, hfin, U2, (((hk.setCell (Or.inr rfl) _).setCell (Or.inl rfl) _).drew).drew⟩, by simp [intOf]; omega⟩
    · have hp' : p = s.size + 1 := by omega
      subst hp'
      go_wp2
      go_end0
      exact ⟨rfl, rows', F', S', U', hk⟩


set_option maxRecDepth 100000 in
set_option maxHeartbeats 1000000 in
theorem rising_any (s : ByteArray) (sb kb rb : Nat) (F M B rows : Nat → Nat) (w : World) (hs : s.size ≤ 1000) (S : Srt s sb kb rb F M B rows w) (D : Cc.Down s.size (LT s) (before s) (s.size + 1) rows B) :
    Calls Tryz.prog 133 #[.pointer (some ⟨sb, 0, none⟩)] w fun e w' => e = .returned (.tuple #[]) ∧
      ∃ rows' B', Srt s sb kb rb F M B' rows' w' ∧ Cc.Down s.size (LT s) (before s) 0 rows' B' ∧ Kept (fun k => k = sb ∨ k = rb) w w' := by
  have cR0 := S.rowsV
  go_enter Tryz.func133, Tryz.ntmps133
  go_wp2
  go_loopw [2, 3, 4] (fun r b c wr => ∃ (p : Nat) (rows' B' : Nat → Nat), p ≤ s.size + 1 ∧ r = .int .i64 ((p : Int) - 1) ∧ Srt s sb kb rb F M B' rows' wr ∧ Cc.Down s.size (LT s) (before s) p rows' B' ∧ Kept (fun k => k = sb ∨ k = rb) w wr) (fun r _ _ _ => (intOf r + 1).toNat)
  case atStart => exact ⟨s.size + 1, rows, B, by omega, by go_num, S, D, Kept.refl _ _⟩
  case round =>
    obtain ⟨p, rows', B', hp, rfl, S', D', hk⟩ := hrel
    clear cR0
    have cT := S'.text
    have cK := S'.kindsV
    have cR := S'.rowsV
    cases p with
    | zero =>
      go_wp2
      go_end0
      exact ⟨rfl, rows', B', S', D', hk⟩
    | succ p =>
      have ep : ((p + 1 : Nat) : Int) - 1 = (p : Int) := by omega
      have cp : wr.cell? ⟨rb, p, none⟩ = some (.int .i64 (rows' p : Nat)) := S'.rws.cell (by omega)
      have hle := D'.le p (by omega)
      generalize hv : rows' p = v at cp hle
      have Hv : Hid (rows' p = v) := hv
      clear hv
      rw [ep]
      clear ep
      cases v with
      | zero =>
        have D2 := D'.skip (ord s) (Or.inl Hv.out)
        go_wp2
        exact ⟨⟨p, rows', B', by omega, rfl, S', D2, hk⟩, by simp [intOf]⟩
      | succ b =>
        have ck : wr.cell? ⟨kb, b, none⟩ = some (.int .i64 (kindN s b : Nat)) := S'.kinds.cell (by omega)
        cases hf : Cc.fall s.size (before s) b
        · have hkv : kindN s b = 1 ∨ kindN s b = 2 := by
            unfold kindN; rw [hf]; simp
          have hll := LT_le s b
          have hpl : B' (LT s b) = Cc.rank s.size (before s) b + 1 := by
            have := D'.place (ord s) (by omega) (by rw [Hv.out]; omega) (by rw [Hv.out]; exact hf)
            rw [Hv.out] at this; exact this
          have hrk := (ord s).rank_le (i := b) (by omega)
          obtain ⟨q, hq⟩ : ∃ q, B' (LT s b) = q + 1 := ⟨_, hpl⟩
          have hqs : q ≤ s.size := by omega
          have cB := S'.shelf (k := LT s b * 3 + 2) (by omega)
          have fB := S'.frozen (2 + (LT s b * 3 + 2))
          rw [sh3_2, hq] at cB
          rw [show 2 + (LT s b * 3 + 2) = 2 + LT s b * 3 + 2 from by omega] at cB fB
          have cO := S'.rws.cell (i := q) (by omega)
          have fO := S'.rws.frozen q
          have hfin : Srt s sb kb rb F M (Cc.put B' (LT s b) q) (Cc.put rows' q b) ((wr.setCell ⟨sb, 2 + LT s b * 3 + 2, none⟩ (.int .i64 (q : Nat))).setCell ⟨rb, q, none⟩ (.int .i64 (b : Nat))).drew.drew :=
            ((S'.setShelf (k := LT s b * 3 + 2) (by omega) (fun j => sh3_put2 F M B' (LT s b) q j)).setRow q b).drew.drew
          have D2 : Cc.Down s.size (LT s) (before s) p (Cc.put rows' q b) (Cc.put B' (LT s b) q) := by
            have := D'.lay (ord s) (by omega) (by rw [Hv.out]; omega) (by rw [Hv.out]; exact hf)
            rw [Hv.out] at this
            simp only [Nat.add_sub_cancel] at this
            rw [hq] at this
            simpa using this
          have n2 : ¬ sb = rb := S'.n2
          have n2' : ¬ rb = sb := fun e => n2 e.symm
          clear hpl hrk hf hq
          rcases hkv with hkv | hkv
          all_goals
            rw [hkv] at ck
            clear hkv
            go_wp2_with (go_at_call 159; refine (letter_any s b _ (by omega)).mono ?_; rintro e w' ⟨rfl, rfl⟩)
            go_region
            go_wp2
            go_region
            go_wp2
            exact ⟨⟨p, _, _, by omega, rfl, hfin, D2, (((hk.setCell (Or.inl rfl) _).setCell (Or.inr rfl) _).drew).drew⟩, by simp [intOf]⟩
        · have D2 := D'.skip (ord s) (Or.inr (by rw [Hv.out]; exact hf))
          rw [(kind_0 s b hf).1] at ck
          clear hf
          go_wp2
          exact ⟨⟨p, rows', B', by omega, rfl, S', D2, hk⟩, by simp [intOf]⟩

end Go.Proofs.YtopihgmemnokkaaGreat

namespace Go.Proofs.YtopihgmemnokkaaGreat
open Go.RowKit

/-- the cells of a list of places -/
def Places (w : World) (vb : Nat) (V : List Nat) : Prop := ∀ j i, V[j]? = some i → w.cell? ⟨vb, j, none⟩ = some (.int .i64 (i : Nat))

theorem Places.setCell {w : World} {vb : Nat} {V : List Nat} (h : Places w vb V) {a : Addr} (ha : a.block ≠ vb) (u : Value) : Places (w.setCell a u) vb V := fun j i hj =>
  (World.cell?_of_block (a := ⟨vb, j, none⟩) (Below.heap_setCell w a u vb (fun e => ha e.symm))).trans (h j i hj)
theorem Places.drew {w : World} {vb : Nat} {V : List Nat} (h : Places w vb V) : Places w.drew vb V := h

set_option maxRecDepth 100000 in
set_option maxHeartbeats 1000000 in
theorem valleys_any (s : ByteArray) (sb kb rb vb cap : Nat) (V : List Nat) (F M B rows : Nat → Nat) (w : World) (hs : s.size ≤ 1000) (hV : V.length ≤ 1001) (S : Srt s sb kb rb F M B rows w) (SV : Cc.SortedVals s.size (before s) V)
    (P : Places w vb V) (v1 : vb ≠ sb) (v2 : vb ≠ rb) (Vl : Cc.Vals s.size (LT s) (before s) V 0 rows M) :
    Calls Tryz.prog 131 #[.pointer (some ⟨sb, 0, none⟩), .slice (some ⟨vb, 0, none⟩) V.length cap] w fun e w' => e = .returned (.tuple #[]) ∧
      ∃ rows' M', Srt s sb kb rb F M' B rows' w' ∧ Cc.Vals s.size (LT s) (before s) V V.length rows' M' ∧ Kept (fun k => k = sb ∨ k = rb) w w' := by
  go_enter Tryz.func131, Tryz.ntmps131
  go_wp2
  go_loopw [5, 6, 9] (fun pl c i wr => ∃ (k : Nat) (rows' M' : Nat → Nat), k ≤ V.length ∧ i = .int .i64 k ∧ Srt s sb kb rb F M' B rows' wr ∧ Cc.Vals s.size (LT s) (before s) V k rows' M' ∧ Places wr vb V ∧ Kept (fun k => k = sb ∨ k = rb) w wr) (fun _ _ i _ => V.length - (intOf i).toNat)
  case atStart => exact ⟨0, rows, M, by omega, rfl, S, Vl, P, Kept.refl _ _⟩
  case round =>
    obtain ⟨k, rows', M', hk, rfl, S', Vl', P', hK⟩ := hrel
    have cT := S'.text
    have cR := S'.rowsV
    by_cases hlt : k < V.length
    · obtain ⟨b, hb⟩ : ∃ b, V[k]? = some b := ⟨V[k], List.getElem?_eq_getElem hlt⟩
      have cv := P' k b hb
      have hval : Cc.val s.size (before s) b = true := SV.mem.1 (List.mem_of_getElem? hb)
      have hbn := Cc.val_le hval
      have hll := LT_le s b
      have hpl := Vl'.place (ord s) SV hb
      have hpb := (ord s).vpos_lt_back hval
      have hbk := Cc.backOf_le s.size (LT s) (LT s b)
      have hq : M' (LT s b) ≤ s.size := by omega
      have cM := S'.shelf (k := LT s b * 3 + 1) (by omega)
      have fM := S'.frozen (2 + (LT s b * 3 + 1))
      rw [sh3_1] at cM
      rw [show 2 + (LT s b * 3 + 1) = 2 + LT s b * 3 + 1 from by omega] at cM fM
      have cO := S'.rws.cell (i := M' (LT s b)) (by omega)
      have fO := S'.rws.frozen (M' (LT s b))
      have hfin : Srt s sb kb rb F (Cc.put M' (LT s b) (M' (LT s b) + 1)) B (Cc.put rows' (M' (LT s b)) b) ((wr.setCell ⟨rb, M' (LT s b), none⟩ (.int .i64 (b : Nat))).setCell ⟨sb, 2 + LT s b * 3 + 1, none⟩ (.int .i64 ((M' (LT s b) + 1 : Nat) : Int))).drew.drew :=
        ((S'.setRow _ b).setShelf (k := LT s b * 3 + 1) (by omega) (fun j => sh3_put1 F M' B (LT s b) _ j)).drew.drew
      have V2 := Vl'.lay (ord s) SV hb
      have P2 : Places ((wr.setCell ⟨rb, M' (LT s b), none⟩ (.int .i64 (b : Nat))).setCell ⟨sb, 2 + LT s b * 3 + 1, none⟩ (.int .i64 ((M' (LT s b) + 1 : Nat) : Int))).drew.drew vb V :=
        (((P'.setCell (fun e => v2 e.symm) _).setCell (fun e => v1 e.symm) _).drew).drew
      have n2 : ¬ sb = rb := S'.n2
      have n2' : ¬ rb = sb := fun e => n2 e.symm
      clear hpl hpb hbk hb hval P'
      generalize hqq : M' (LT s b) = q at *
      have Hq : Hid (M' (LT s b) = q) := hqq
      clear hqq
      go_wp2_with (go_at_call 159; refine (letter_any s b _ (by omega)).mono ?_; rintro e w' ⟨rfl, rfl⟩)
      go_region
      go_wp2
      go_region
      go_wp2
      exact ⟨⟨k + 1, _, _, by omega, by go_num, hfin, V2, P2, (((hK.setCell (Or.inr rfl) _).setCell (Or.inl rfl) _).drew).drew⟩, by simp [intOf]; omega⟩
    · have hk' : k = V.length := by omega
      subst hk'
      go_wp2
      go_end0
      exact ⟨rfl, rows', M', S', Vl', hK⟩

end Go.Proofs.YtopihgmemnokkaaGreat

namespace Go.Proofs.YtopihgmemnokkaaGreat

theorem sort0_size : sort0.size = 774 := by simp [sort0, size_rowC]

theorem built_sort (s : ByteArray) (kb rb n : Nat) (X : Array Value) (hX : X.size = 771) :
    Tryz.prog.built 205 [(0, .string s), (1, .slice (some ⟨kb, 0, none⟩) n n), (2, .agg X), (3, .slice (some ⟨rb, 0, none⟩) n n)]
      = some (#[.string s, .slice (some ⟨kb, 0, none⟩) n n] ++ X ++ #[.slice (some ⟨rb, 0, none⟩) n n]) := by
  refine built_of zero774 places774 ?_
  have hcX : Value.cells (.agg X) = X := rfl
  have hs0 := sort0_size
  have e0 : (splice sort0 0 (Value.cells (.string s))).size = 774 := by rw [splice_size _ _ _ (by rw [hs0]; simp [Value.cells]), hs0]
  have e1 : (splice (splice sort0 0 (Value.cells (.string s))) 1 (Value.cells (.slice (some ⟨kb, 0, none⟩) n n))).size = 774 := by rw [splice_size _ _ _ (by rw [e0]; simp [Value.cells]), e0]
  have e2 : (splice (splice (splice sort0 0 (Value.cells (.string s))) 1 (Value.cells (.slice (some ⟨kb, 0, none⟩) n n))) 2 (Value.cells (.agg X))).size = 774 := by rw [splice_size _ _ _ (by rw [e1, hcX, hX]; decide), e1]
  rw [fill_step (off := 0) (size := 1) rfl rfl (by rw [hs0]; decide), fill_step (off := 1) (size := 1) rfl rfl (by rw [e0]; decide), fill_step (off := 2) (size := 771) (v := .agg X) rfl hX (by rw [e1]; decide), fill_step (off := 773) (size := 1) rfl rfl (by rw [e2]; decide)]
  simp only [Instr.fill]
  congr 1
  have e3 : (splice (splice (splice (splice sort0 0 (Value.cells (.string s))) 1 (Value.cells (.slice (some ⟨kb, 0, none⟩) n n))) 2 (Value.cells (.agg X))) 773 (Value.cells (.slice (some ⟨rb, 0, none⟩) n n))).size = 774 := by rw [splice_size _ _ _ (by rw [e2]; simp [Value.cells]), e2]
  apply Array.ext_getElem?
  intro k
  rw [splice_get _ _ _ (by rw [e2]; simp [Value.cells]), splice_get _ _ _ (by rw [e1, hcX, hX]; decide), splice_get _ _ _ (by rw [e0]; simp [Value.cells]), splice_get _ _ _ (by rw [hs0]; simp [Value.cells])]
  simp only [hX, Value.cells, List.size_toArray, List.length_cons, List.length_nil]
  by_cases k3 : k = 773
  · subst k3
    rw [if_pos (by omega), Array.getElem?_append_right (by simp [hX])]
    simp [hX]
  · rw [if_neg (by omega)]
    by_cases k4 : k < 773
    · rw [Array.getElem?_append_left (by simp [hX]; omega)]
      by_cases k2 : 2 ≤ k
      · rw [if_pos (by omega), Array.getElem?_append_right (by simpa using k2)]
        simp
      · rw [if_neg (by omega), Array.getElem?_append_left (by simp; omega)]
        have : k = 0 ∨ k = 1 := by omega
        rcases this with rfl | rfl <;> simp
    · rw [if_neg (by omega), if_neg (by omega), if_neg (by omega), Array.getElem?_eq_none (by rw [hs0]; omega), Array.getElem?_eq_none (by simp [hX]; omega)]

end Go.Proofs.YtopihgmemnokkaaGreat

