import Derived.Test.YtopihgmemnokkaaGreatBitLC
import Derived.Test.YtopihgmemnokkaaGreatEndsC
namespace Go.Proofs.YtopihgmemnokkaaGreat
open Go.RowKit

theorem setCells_kept (b : Nat) : ∀ (vs : List Value) (o : Nat) (w : World), Kept (fun k => k = b) w (w.setCells b o vs)
  | [], _, w => Kept.refl _ w
  | v :: r, o, w => ((Kept.refl (fun k => k = b) w).setCell (show (⟨b, o, none⟩ : Addr).block = b from rfl) v).trans (setCells_kept b r (o + 1) _)
theorem setCells_block (b : Nat) (e : TypeId) : ∀ (vs : List Value) (o : Nat) (w : World) (cur : Array Value), w.heap[b]? = some (.cells cur e (0, 0)) → ∃ cur' : Array Value, (w.setCells b o vs).heap[b]? = some (.cells cur' e (0, 0)) ∧ cur'.size = cur.size
  | [], _, w, cur, h => ⟨cur, h, rfl⟩
  | v :: r, o, w, cur, h => by
    obtain ⟨c2, h1, h2⟩ := setCells_block b e r (o + 1) (w.setCell ⟨b, o, none⟩ v) (cur.setIfInBounds o v) (by simp [World.setCell, Array.getElem?_modify, h])
    exact ⟨c2, h1, by simpa using h2⟩

/-- a row of pointers to blocks, from a place on, with room -/
structure PRow (w : World) (g off cap : Nat) (L : List Nat) : Prop where
  blk : ∃ cur : Array Value, w.heap[g]? = some (.cells cur 178 (0, 0)) ∧ off + cap ≤ cur.size
  cells : ∀ (j b : Nat), L[j]? = some b → w.cell? ⟨g, off + j, none⟩ = some (.pointer (some ⟨b, 0, none⟩))
  len : L.length ≤ cap
  cap63 : cap ≤ 9223372036854775807

section
variable {w : World} {g off cap : Nat} {L : List Nat}
theorem PRow.lt (h : PRow w g off cap L) : g < w.heap.size := by
  obtain ⟨cur, h1, _⟩ := h.blk; exact (Array.getElem?_eq_some_iff.1 h1).1
theorem PRow.frozen (h : PRow w g off cap L) (i : Nat) : w.frozen? ⟨g, i, none⟩ = false := by
  obtain ⟨cur, h1, _⟩ := h.blk; simp [World.frozen?, h1]
theorem PRow.there (h : PRow w g off cap L) {i : Nat} (hi : i < off + cap) : (w.cell? ⟨g, i, none⟩).isSome = true := by
  obtain ⟨cur, h1, h2⟩ := h.blk
  have : i < cur.size := by omega
  simp [World.cell?, h1, this]
theorem PRow.keep {P : Nat → Prop} {w' : World} (h : PRow w g off cap L) (hk : Kept P w w') (hn : ¬ P g) : PRow w' g off cap L := by
  obtain ⟨cur, h1, h2⟩ := h.blk
  refine ⟨⟨cur, by rw [hk.block g h.lt hn]; exact h1, h2⟩, fun j b hj => ?_, h.len, h.cap63⟩
  have hc := h.cells j b hj
  unfold World.cell? at hc ⊢
  rw [hk.block g h.lt hn]; exact hc
/-- without the first ones -/
theorem PRow.drop (h : PRow w g off cap L) (k : Nat) (hk : k ≤ L.length) : PRow w g (off + k) (cap - k) (L.drop k) := by
  obtain ⟨cur, h1, h2⟩ := h.blk
  have hl := h.len
  have h63 := h.cap63
  refine ⟨⟨cur, h1, by omega⟩, fun j b hj => ?_, by rw [List.length_drop]; omega, by omega⟩
  rw [List.getElem?_drop] at hj
  have := h.cells (k + j) b hj
  rw [Nat.add_assoc]; exact this
end

/-- a tree in memory -/
def TreeAt (f : Nat → Nat) (w : World) : Hf.T → Nat → Prop
  | .leaf c, b => w.heap[b]? = some (.cells #[.int .i64 (f c : Nat), .int .u8 (c : Nat), .pointer none, .pointer none] 181 (0, 0))
  | .node l r, b => ∃ bl br, w.heap[b]? = some (.cells #[.int .i64 (Hf.wt f (.node l r) : Nat), .int .u8 (Hf.least (.node l r) : Nat), .pointer (some ⟨bl, 0, none⟩), .pointer (some ⟨br, 0, none⟩)] 181 (0, 0)) ∧ TreeAt f w l bl ∧ TreeAt f w r br

theorem TreeAt.block {f : Nat → Nat} {w : World} : ∀ {t : Hf.T} {b : Nat}, TreeAt f w t b → ∃ p0 p1, w.heap[b]? = some (.cells #[.int .i64 (Hf.wt f t : Nat), .int .u8 (Hf.least t : Nat), p0, p1] 181 (0, 0))
  | .leaf _, _, h => ⟨_, _, h⟩
  | .node _ _, _, ⟨_, _, h, _⟩ => ⟨_, _, h⟩
theorem TreeAt.lt {f : Nat → Nat} {w : World} {t : Hf.T} {b : Nat} (h : TreeAt f w t b) : b < w.heap.size := by
  obtain ⟨_, _, h1⟩ := h.block; exact (Array.getElem?_eq_some_iff.1 h1).1
theorem TreeAt.c0 {f : Nat → Nat} {w : World} {t : Hf.T} {b : Nat} (h : TreeAt f w t b) : w.cell? ⟨b, 0, none⟩ = some (.int .i64 (Hf.wt f t : Nat)) := by
  obtain ⟨_, _, h1⟩ := h.block; simp [World.cell?, h1]
theorem TreeAt.c1 {f : Nat → Nat} {w : World} {t : Hf.T} {b : Nat} (h : TreeAt f w t b) : w.cell? ⟨b, 1, none⟩ = some (.int .u8 (Hf.least t : Nat)) := by
  obtain ⟨_, _, h1⟩ := h.block; simp [World.cell?, h1]
theorem TreeAt.keep {f : Nat → Nat} {P : Nat → Prop} {w w' : World} (hk : Kept P w w') (hP : ∀ (b : Nat) (cs : Array Value), w.heap[b]? = some (.cells cs 181 (0, 0)) → ¬ P b) : ∀ {t : Hf.T} {b : Nat}, TreeAt f w t b → TreeAt f w' t b
  | .leaf _, b, h => by
    unfold TreeAt at *
    rw [hk.block b (Array.getElem?_eq_some_iff.1 h).1 (hP b _ h)]; exact h
  | .node _ _, b, h => by
    obtain ⟨bl, br, h1, h2, h3⟩ := h
    exact ⟨bl, br, by rw [hk.block b (Array.getElem?_eq_some_iff.1 h1).1 (hP b _ h1)]; exact h1, h2.keep hk hP, h3.keep hk hP⟩
theorem TreeAt.below {f : Nat → Nat} {w w' : World} {t : Hf.T} {b : Nat} (h : TreeAt f w t b) (hb : Below w.heap.size w w') : TreeAt f w' t b :=
  h.keep (Kept.of_below hb (Nat.le_refl _) (fun _ => False)) (fun _ _ _ h => h)
/-- a row of pointers is no tree -/
theorem PRow.tree {w : World} {g off cap : Nat} {L : List Nat} (h : PRow w g off cap L) : ∀ (b : Nat) (cs : Array Value), w.heap[b]? = some (.cells cs 181 (0, 0)) → ¬ b = g := by
  rintro b cs hb rfl
  obtain ⟨cur, h1, _⟩ := h.blk
  rw [hb] at h1
  simp at h1

/-- trees, one in each block of a list -/
def Trees (f : Nat → Nat) (w : World) (L : List Nat) (l : List Hf.T) : Prop := L.length = l.length ∧ ∀ (j b : Nat) (t : Hf.T), L[j]? = some b → l[j]? = some t → TreeAt f w t b

theorem Trees.keep {f : Nat → Nat} {P : Nat → Prop} {w w' : World} {L : List Nat} {l : List Hf.T} (h : Trees f w L l) (hk : Kept P w w') (hP : ∀ (b : Nat) (cs : Array Value), w.heap[b]? = some (.cells cs 181 (0, 0)) → ¬ P b) : Trees f w' L l :=
  ⟨h.1, fun j b t h1 h2 => (h.2 j b t h1 h2).keep hk hP⟩

end Go.Proofs.YtopihgmemnokkaaGreat

