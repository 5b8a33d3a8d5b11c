import Derived.Test.YtopihgmemnokkaaGreatBuildC
import Derived.Test.YtopihgmemnokkaaGreatWalk2C
namespace Go.Proofs.YtopihgmemnokkaaGreat

theorem sort0_size : sort0.size = 774 := by simp [sort0, size_rowC]

theorem built_sort (s : ByteArray) (kb rb n : Nat) (X : Array Value) (hX : X.size = 771) :
    Tryz.prog.built 205 [(0, .string s), (1, .slice (some ⟨kb, 0, none⟩) n n), (2, .agg X), (3, .slice (some ⟨rb, 0, none⟩) n n)]
      = some (#[.string s, .slice (some ⟨kb, 0, none⟩) n n] ++ X ++ #[.slice (some ⟨rb, 0, none⟩) n n]) := by
  refine built_of zero774 places774 ?_
  have hcX : Value.cells (.agg X) = X := rfl
  have hs0 := sort0_size
  have e0 : (splice sort0 0 (Value.cells (.string s))).size = 774 := by rw [splice_size _ _ _ (by rw [hs0]; simp [Value.cells]), hs0]
  have e1 : (splice (splice sort0 0 (Value.cells (.string s))) 1 (Value.cells (.slice (some ⟨kb, 0, none⟩) n n))).size = 774 := by rw [splice_size _ _ _ (by rw [e0]; simp [Value.cells]), e0]
  have e2 : (splice (splice (splice sort0 0 (Value.cells (.string s))) 1 (Value.cells (.slice (some ⟨kb, 0, none⟩) n n))) 2 (Value.cells (.agg X))).size = 774 := by rw [splice_size _ _ _ (by rw [e1, hcX, hX]; decide), e1]
  rw [fill_step (off := 0) (size := 1) rfl rfl (by rw [hs0]; decide), fill_step (off := 1) (size := 1) rfl rfl (by rw [e0]; decide), fill_step (off := 2) (size := 771) (v := .agg X) rfl hX (by rw [e1]; decide), fill_step (off := 773) (size := 1) rfl rfl (by rw [e2]; decide)]
  simp only [Instr.fill]
  congr 1
  have e3 : (splice (splice (splice (splice sort0 0 (Value.cells (.string s))) 1 (Value.cells (.slice (some ⟨kb, 0, none⟩) n n))) 2 (Value.cells (.agg X))) 773 (Value.cells (.slice (some ⟨rb, 0, none⟩) n n))).size = 774 := by rw [splice_size _ _ _ (by rw [e2]; simp [Value.cells]), e2]
  apply Array.ext_getElem?
  intro k
  rw [splice_get _ _ _ (by rw [e2]; simp [Value.cells]), splice_get _ _ _ (by rw [e1, hcX, hX]; decide), splice_get _ _ _ (by rw [e0]; simp [Value.cells]), splice_get _ _ _ (by rw [hs0]; simp [Value.cells])]
  simp only [hX, Value.cells, List.size_toArray, List.length_cons, List.length_nil]
  by_cases k3 : k = 773
  · subst k3
    rw [if_pos (by omega), Array.getElem?_append_right (by simp [hX])]
    simp [hX]
  · rw [if_neg (by omega)]
    by_cases k4 : k < 773
    · rw [Array.getElem?_append_left (by simp [hX]; omega)]
      by_cases k2 : 2 ≤ k
      · rw [if_pos (by omega), Array.getElem?_append_right (by simpa using k2)]
        simp
      · rw [if_neg (by omega), Array.getElem?_append_left (by simp; omega)]
        have : k = 0 ∨ k = 1 := by omega
        rcases this with rfl | rfl <;> simp
    · rw [if_neg (by omega), if_neg (by omega), if_neg (by omega), Array.getElem?_eq_none (by rw [hs0]; omega), Array.getElem?_eq_none (by simp [hX]; omega)]

end Go.Proofs.YtopihgmemnokkaaGreat

