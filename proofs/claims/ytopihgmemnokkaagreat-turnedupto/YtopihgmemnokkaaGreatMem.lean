import Derived.Test.YtopihgmemnokkaaGreatOrder
import Derived.Test.YtopihgmemnokkaaGreatBuild
import Derived.WalkKit
import Derived.WalkSpells
import Derived.WalkLawsBesides
namespace Go.Proofs.YtopihgmemnokkaaGreat
open Go.RowKit

theorem size_rowC (m : Nat) (f : Nat → Nat) : (rowC m f).size = m := by simp [rowC]

theorem rowC_get {m : Nat} {f : Nat → Nat} {i : Nat} (h : i < m) : (rowC m f)[i]? = some (.int .i64 (f i : Nat)) := by
  simp [rowC, h]

theorem rowC_congr {m : Nat} {f g : Nat → Nat} (h : ∀ i, i < m → f i = g i) : rowC m f = rowC m g := by
  unfold rowC
  apply Array.map_congr_left
  intro a ha
  rw [h a (by simpa using ha)]

theorem rowC_set {m : Nat} {f : Nat → Nat} {i v : Nat} : (rowC m f).setIfInBounds i (.int .i64 (v : Nat)) = rowC m (Cc.put f i v) := by
  apply Array.ext_getElem?
  intro j
  rw [Array.getElem?_setIfInBounds, size_rowC]
  by_cases hj : j < m
  · rw [rowC_get hj]
    by_cases e : i = j
    · subst e; simp [hj, rowC_get hj, Cc.put]
    · have e' : ¬ j = i := fun x => e x.symm
      rw [if_neg e, rowC_get hj]; simp [Cc.put, e']
  · have h1 : (rowC m f)[j]? = none := by simp [size_rowC]; omega
    have h2 : (rowC m (Cc.put f i v))[j]? = none := by simp [size_rowC]; omega
    rw [h1, h2]
    by_cases e : i = j
    · subst e; simp [hj]
    · rw [if_neg e]

theorem rowC_made (m : Nat) : madeCells #[.int .i64 0] m = rowC m fun _ => 0 := by
  unfold madeCells rowC
  apply Array.map_congr_left
  intro a _
  have : a % (#[Value.int .i64 0] : Array Value).size = 0 := by simp [Nat.mod_one]
  rw [this]; rfl

/-- block b holds m numbers -/
def Row (w : World) (b : Nat) (e : TypeId) (m : Nat) (f : Nat → Nat) : Prop := w.heap[b]? = some (.cells (rowC m f) e (0, 0))

theorem Row.cell {w : World} {b : Nat} {e : TypeId} {m : Nat} {f : Nat → Nat} (h : Row w b e m f) {i : Nat} (hi : i < m) : w.cell? ⟨b, i, none⟩ = some (.int .i64 (f i : Nat)) := by
  unfold Row at h
  simp [World.cell?, h, rowC_get hi]

theorem Row.frozen {w : World} {b : Nat} {e : TypeId} {m : Nat} {f : Nat → Nat} (h : Row w b e m f) (i : Nat) : w.frozen? ⟨b, i, none⟩ = false := by
  unfold Row at h
  simp [World.frozen?, h]

theorem Row.lt {w : World} {b : Nat} {e : TypeId} {m : Nat} {f : Nat → Nat} (h : Row w b e m f) : b < w.heap.size := by
  unfold Row at h
  exact (Array.getElem?_eq_some_iff.1 h).1

theorem Row.congr {w : World} {b : Nat} {e : TypeId} {m : Nat} {f g : Nat → Nat} (h : Row w b e m f) (hg : ∀ i, i < m → f i = g i) : Row w b e m g := by
  unfold Row at *; rw [h, rowC_congr hg]

theorem Row.set {w : World} {b : Nat} {e : TypeId} {m : Nat} {f : Nat → Nat} (h : Row w b e m f) (i v : Nat) : Row (w.setCell ⟨b, i, none⟩ (.int .i64 (v : Nat))) b e m (Cc.put f i v) := by
  unfold Row at *
  have hb := (Array.getElem?_eq_some_iff.1 h).1
  have hb2 := (Array.getElem?_eq_some_iff.1 h).2
  simp [World.setCell, Array.getElem?_modify, h, rowC_set]

theorem Row.other {w : World} {b : Nat} {e : TypeId} {m : Nat} {f : Nat → Nat} (h : Row w b e m f) {a : Addr} (ha : a.block ≠ b) (v : Value) : Row (w.setCell a v) b e m f := by
  unfold Row at *
  rw [Below.heap_setCell w a v b (fun e => ha e.symm)]; exact h

theorem Row.alloc {w : World} {b : Nat} {e : TypeId} {m : Nat} {f : Nat → Nat} (h : Row w b e m f) (o : Obj) : Row (w.alloc o) b e m f := by
  have := h.lt
  unfold Row at *
  rw [Below.heap_alloc w o b this]; exact h

theorem Row.drew {w : World} {b : Nat} {e : TypeId} {m : Nat} {f : Nat → Nat} (h : Row w b e m f) : Row w.drew b e m f := h

theorem Row.new (w : World) (e : TypeId) (m : Nat) (f : Nat → Nat) : Row (w.alloc (.cells (rowC m f) e)) w.heap.size e m f := by
  unfold Row; exact heap_alloc_new w _

theorem Row.new' {w : World} {b : Nat} (e : TypeId) (m : Nat) (f : Nat → Nat) (hb : w.heap.size = b) : Row (w.alloc (.cells (rowC m f) e)) b e m f := by
  subst hb; exact Row.new w e m f

theorem Row.below {w w' : World} {b B : Nat} {e : TypeId} {m : Nat} {f : Nat → Nat} (h : Row w b e m f) (hb : Below B w w') (hlt : b < B) : Row w' b e m f := by
  unfold Row at *; rw [hb.block b hlt]; exact h

/-- nothing but blocks of P has turned -/
structure Kept (P : Nat → Prop) (w w' : World) : Prop where
  os : w'.os = w.os
  tape : w'.tape = w.tape
  output : w'.output = w.output
  size : w.heap.size ≤ w'.heap.size
  block : ∀ k, k < w.heap.size → ¬ P k → w'.heap[k]? = w.heap[k]?

theorem Kept.refl (P : Nat → Prop) (w : World) : Kept P w w := ⟨rfl, rfl, rfl, Nat.le_refl _, fun _ _ _ => rfl⟩
theorem Kept.drew {P : Nat → Prop} {a w : World} (h : Kept P a w) : Kept P a w.drew := ⟨h.os, h.tape, h.output, h.size, h.block⟩
theorem Kept.setCell {P : Nat → Prop} {a w : World} (h : Kept P a w) {p : Addr} (hp : P p.block) (u : Value) : Kept P a (w.setCell p u) :=
  ⟨h.os, h.tape, h.output, by simp; exact h.size, fun k hk hn => by
    rw [Below.heap_setCell w p u k (fun e => hn (e ▸ hp))]; exact h.block k hk hn⟩
theorem Kept.trans {P : Nat → Prop} {a b c : World} (h : Kept P a b) (k : Kept P b c) : Kept P a c :=
  ⟨k.os.trans h.os, k.tape.trans h.tape, k.output.trans h.output, Nat.le_trans h.size k.size, fun i hi hn => (k.block i (Nat.lt_of_lt_of_le hi h.size) hn).trans (h.block i hi hn)⟩
theorem Kept.row {P : Nat → Prop} {w w' : World} (h : Kept P w w') {b : Nat} {e : TypeId} {m : Nat} {f : Nat → Nat} (hr : Row w b e m f) (hn : ¬ P b) : Row w' b e m f := by
  have := hr.lt
  unfold Row at *; rw [h.block b this hn]; exact hr
theorem Kept.below {P : Nat → Prop} {w w' : World} {B : Nat} (h : Kept P w w') (hP : ∀ k, P k → B ≤ k) (hB : B ≤ w.heap.size) : Below B w w' :=
  ⟨h.os, h.tape, h.output, h.size, fun k hk => h.block k (by omega) (fun p => by have := hP k p; omega)⟩


theorem rowC_one (m : Nat) (f : Nat → Nat) : (rowC m f).all (·.oneCell') = true := by
  rw [Array.all_eq_true_iff_forall_mem]
  intro x hx
  unfold rowC at hx
  simp at hx
  obtain ⟨a, _, rfl⟩ := hx
  rfl

/-- a variable of many cells is made -/
theorem wpList_alloc_row {P : Program} {ops : Array Oper} {rest : List Oper} {o : Oper} {a : Act} {w : World} {Q : Exit → Act → World → Prop} (hgd : o.guard = none) (t : TypeId) (ho : o.op = .alloc t)
    (cs : Array Value) (hz : (P.info? t).map (·.zero) = some (some (.agg cs)))
    (h : wpList P ops Q rest (a.put o.dst (.pointer (some ⟨w.heap.size, 0, none⟩))) (w.alloc (.cells cs t))) : wpList P ops Q (o :: rest) a w := by
  refine wpList_plain hgd fun K hK => ?_
  unfold Oper.wp execOp
  simp only [ho, Sem.run_bind, Sem.run_pure, Result.andThen_ok, run_alloc_row w t cs hz]
  exact hK _ _ h

theorem Row.setRow {w : World} {b : Nat} {e : TypeId} {m : Nat} {f : Nat → Nat} (h : Row w b e m f) (g : Nat → Nat) : Row (w.setRow b (rowC m g)) b e m g := by
  unfold Row at *; exact setRow_heap w b _ _ e _ h
theorem Row.setRow_other {w : World} {b c : Nat} {e : TypeId} {m : Nat} {f : Nat → Nat} (h : Row w b e m f) (hc : b ≠ c) (cs : Array Value) : Row (w.setRow c cs) b e m f := by
  unfold Row at *; rw [Go.setRow_other w c b cs hc]; exact h
theorem below_setRow {B : Nat} {a w : World} (h : Below B a w) {b : Nat} (hb : B ≤ b) (cs : Array Value) : Below B a (w.setRow b cs) :=
  ⟨h.os, h.tape, h.output, by simp; exact h.size, fun k hk => by rw [Go.setRow_other w b k cs (by omega)]; exact h.block k hk⟩

/-- a result that lies in memory, and one that doesn't -/
theorem results_row_tmp {P : Program} {fn : Func} {p u : Tmp} {ty : TypeId} (h : fn.results = #[.cell p ty, .tmp u]) (tmps : Array Value) (w : World) (g : Nat) (t : TypeId) (cs : Array Value) (fr : Nat × Nat) (d : TypeDesc)
    (hp : tmps.getD p undef = .pointer (some ⟨g, 0, none⟩)) (hg : w.heap[g]? = some (.cells cs t fr))
    (hu : P.underlying ty = some d) (hd : (match d with | .struct _ | .array _ _ => true | _ => false) = true) (hi : (P.info? ty).map (·.size) = some cs.size) :
    (results fn tmps).run P w = .ok (.tuple #[.agg cs, tmps.getD u undef]) w := by
  rw [results_cell_tmp h, hp]
  simp [asAddr, Result.andThen, run_loadVar_row w g t ty cs fr d hg hu hd hi]

end Go.Proofs.YtopihgmemnokkaaGreat
