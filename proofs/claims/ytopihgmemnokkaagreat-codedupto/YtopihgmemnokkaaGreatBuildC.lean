import Derived.Test.YtopihgmemnokkaaGreatRowCC
import Derived.WalkKit
namespace Go.Proofs.YtopihgmemnokkaaGreat

/-- cells laid over others, from a place on -/
def splice (cs : Array Value) (off : Nat) (vs : Array Value) : Array Value := vs.zipIdx.foldl (fun cs (c, j) => cs.setIfInBounds (off + j) c) cs

theorem splice_aux (off : Nat) : ∀ (l : List Value) (j0 : Nat) (cs : Array Value), off + j0 + l.length ≤ cs.size →
    ((l.zipIdx j0).foldl (fun (cs : Array Value) (p : Value × Nat) => cs.setIfInBounds (off + p.2) p.1) cs).size = cs.size ∧
    ∀ k, ((l.zipIdx j0).foldl (fun (cs : Array Value) (p : Value × Nat) => cs.setIfInBounds (off + p.2) p.1) cs)[k]? = if off + j0 ≤ k ∧ k < off + j0 + l.length then l[k - (off + j0)]? else cs[k]?
  | [], j0, cs, _ => ⟨rfl, fun k => by rw [if_neg (by simp)]; rfl⟩
  | v :: l, j0, cs, h => by
    have h' : off + (j0 + 1) + l.length ≤ (cs.setIfInBounds (off + j0) v).size := by simp at *; omega
    obtain ⟨h1, h2⟩ := splice_aux off l (j0 + 1) (cs.setIfInBounds (off + j0) v) h'
    refine ⟨by simp only [List.zipIdx_cons, List.foldl_cons]; rw [h1]; simp, fun k => ?_⟩
    simp only [List.zipIdx_cons, List.foldl_cons]
    rw [h2 k]
    simp only [List.length_cons] at *
    by_cases e : k = off + j0
    · subst e
      rw [if_neg (by omega), if_pos (by omega), Array.getElem?_setIfInBounds, if_pos rfl, if_pos (by omega)]
      simp
    · by_cases e2 : off + (j0 + 1) ≤ k ∧ k < off + (j0 + 1) + l.length
      · rw [if_pos e2, if_pos (by omega), show k - (off + j0) = (k - (off + (j0 + 1))) + 1 from by omega]
        simp
      · rw [if_neg e2, if_neg (by omega), Array.getElem?_setIfInBounds, if_neg (by omega)]

theorem splice_size (cs : Array Value) (off : Nat) (vs : Array Value) (h : off + vs.size ≤ cs.size) : (splice cs off vs).size = cs.size := by
  have := (splice_aux off vs.toList 0 cs (by simpa using h)).1
  unfold splice
  rw [← Array.foldl_toList, Array.toList_zipIdx]
  exact this
theorem splice_get (cs : Array Value) (off : Nat) (vs : Array Value) (h : off + vs.size ≤ cs.size) (k : Nat) : (splice cs off vs)[k]? = if off ≤ k ∧ k < off + vs.size then vs[k - off]? else cs[k]? := by
  have := (splice_aux off vs.toList 0 cs (by simpa using h)).2 k
  unfold splice
  rw [← Array.foldl_toList, Array.toList_zipIdx]
  rw [this]
  simp

theorem fill_step {place : Nat → Option (Nat × Nat)} {cells : Array Value} {i off size : Nat} {v : Value} {rest : List (Nat × Value)} (hp : place i = some (off, size)) (hv : v.cells.size = size) (hc : off + size ≤ cells.size) :
    Instr.fill place cells ((i, v) :: rest) = Instr.fill place (splice cells off v.cells) rest := by
  simp only [Instr.fill, hp]
  rw [if_neg (by simp [hv]; omega)]
  rfl

/-- where a struct's fields lie, and how many cells each has -/
def placesOf (P : Program) (t : TypeId) : Option (List (Nat × Nat)) :=
  match P.underlying t with
  | some (.struct fields) => fields.toList.mapM (fun f => (P.info? f.type).map fun i => (f.offset, i.size))
  | _ => none

theorem built_of {P : Program} {t : TypeId} {Z cells : Array Value} {places : List (Nat × Nat)} {parts : List (Nat × Value)} (h1 : (P.info? t).map (·.zero) = some (some (.agg Z)))
    (h2 : placesOf P t = some places) (h : Instr.fill (places.toArray[·]?) Z parts = some cells) : P.built t parts = some cells := by
  unfold placesOf at h2
  unfold Program.built
  cases hi : P.info? t with
  | none => rw [hi] at h1; cases h1
  | some it =>
    rw [hi] at h1
    have hz : it.zero = some (.agg Z) := by simpa using h1
    cases hu : P.underlying t with
    | none => rw [hu] at h2; cases h2
    | some d =>
      rw [hu] at h2
      cases d with
      | struct fields =>
        simp only at h2
        simp only [hz, h2]
        exact h
      | _ => cases h2

theorem exec_load_row {P : Program} {o : Oper} {a : Act} {w : World} (ty : TypeId) (x : Operand) (ho : o.op = .load ty x) (g : Nat) (hx : a.eval x = .pointer (some ⟨g, 0, none⟩)) (t : TypeId) (cs : Array Value) (fr : Nat × Nat) (d : TypeDesc)
    (hg : w.heap[g]? = some (.cells cs t fr)) (hu : P.underlying ty = some d) (hd : (match d with | .struct _ | .array _ _ => true | _ => false) = true) (hi : (P.info? ty).map (·.size) = some cs.size) :
    (execOp a.eval o).run P w = .ok (.value (.agg cs)) w := by
  unfold execOp
  simp only [ho, hx, Instr.loadAt, Instr.sureAddr, Sem.run_bind, Sem.run_pure, Result.andThen_ok, run_loadVar_row w g t ty cs fr d hg hu hd hi]

theorem exec_build {P : Program} {o : Oper} {a : Act} {w : World} (t : TypeId) (parts : Array (Nat × Operand)) (ho : o.op = .build t parts) (cells : Array Value)
    (hf : P.built t (parts.map fun (i, x) => (i, a.eval x)).toList = some cells) : (execOp a.eval o).run P w = .ok (.value (.agg cells)) w := by
  unfold execOp
  simp only [ho, Sem.run_bind, run_build w t _ cells hf, Result.andThen_ok, Sem.run_pure]

theorem run_alloc_row {P : Program} (w : World) (t : TypeId) (cs : Array Value) (hz : (P.info? t).map (·.zero) = some (some (.agg cs))) (b : Bool) :
    (Instr.alloc t b (.tuple #[])).run P w = .ok (.pointer (some ⟨w.heap.size, 0, none⟩)) (w.alloc (.cells cs t)) := by
  cases hq : P.info? t with
  | none => simp [hq] at hz
  | some i =>
    have hz' : i.zero = some (.agg cs) := by simpa [hq] using hz
    cases b <;> simp [Instr.alloc, zeroValue, typeInfo, hq, hz', newVar, newRow, Value.cells]

theorem wp_alloc_row {P : Program} {o : Oper} {a : Act} {w : World} {K : Act → World → Prop} {Q : Exit → Act → World → Prop} (t : TypeId) (ho : o.op = .alloc t) (cs : Array Value) (hz : (P.info? t).map (·.zero) = some (some (.agg cs)))
    (h : K (a.put o.dst (.pointer (some ⟨w.heap.size, 0, none⟩))) (w.alloc (.cells cs t))) : o.wp P a w K Q := by
  unfold Oper.wp execOp
  simp only [ho, Sem.run_bind, Sem.run_pure, Result.andThen_ok, run_alloc_row w t cs hz]
  exact h

end Go.Proofs.YtopihgmemnokkaaGreat

namespace Go.Proofs.YtopihgmemnokkaaGreat

def sort0 : Array Value := #[.string ByteArray.empty, .slice none 0 0] ++ rowC 771 (fun _ => 0) ++ #[.slice none 0 0]
theorem zero774 : (Tryz.prog.info? 205).map (·.zero) = some (some (.agg sort0)) := by kernel_rfl
theorem size774 : (Tryz.prog.info? 205).map (·.size) = some 774 := by kernel_rfl
theorem places774 : placesOf Tryz.prog 205 = some [(0, 1), (1, 1), (2, 771), (773, 1)] := by kernel_rfl

end Go.Proofs.YtopihgmemnokkaaGreat

