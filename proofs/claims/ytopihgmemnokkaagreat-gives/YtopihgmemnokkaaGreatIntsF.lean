import Derived.Test.YtopihgmemnokkaaGreatMemF
namespace Go.Proofs.YtopihgmemnokkaaGreat
open Go.RowKit

/-- a list of m numbers, as it lies in the world (nil: none) -/
def IntsIn (w : World) (v : Value) (m : Nat) : Prop := (v = .slice none 0 0 ∧ m = 0) ∨ ∃ a cap, v = .slice (some a) m cap ∧ ∀ i, i < m → ∃ x : Int, w.cell? (a.add i) = some (.int .i64 x) ∧ -9223372036854775808 ≤ x ∧ x ≤ 9223372036854775807
theorem cell_block {w : World} {a : Addr} {v : Value} (h : w.cell? a = some v) : a.block < w.heap.size := by
  unfold World.cell? at h
  rcases Nat.lt_or_ge a.block w.heap.size with h1 | h1
  · exact h1
  · rw [Array.getElem?_eq_none h1] at h; simp at h
theorem IntsIn.below {w w' : World} {v : Value} {m : Nat} (h : IntsIn w v m) (hb : Below w.heap.size w w') : IntsIn w' v m := by
  rcases h with h | ⟨a, cap, rfl, hc⟩
  · exact .inl h
  · refine .inr ⟨a, cap, rfl, fun i hi => ?_⟩
    obtain ⟨x, h1, h2⟩ := hc i hi
    refine ⟨x, ?_, h2⟩
    have hl := cell_block h1
    rw [← h1]
    unfold World.cell?
    rw [hb.block _ hl]

end Go.Proofs.YtopihgmemnokkaaGreat

