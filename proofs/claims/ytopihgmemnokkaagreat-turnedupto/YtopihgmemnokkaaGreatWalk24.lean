import Derived.Test.YtopihgmemnokkaaGreatWalk23
namespace Go.Proofs.YtopihgmemnokkaaGreat
open Go.RowKit

abbrev nilV : Value := .slice none 0 0

theorem Script.below {w w' : World} {v : Value} {n B : Nat} (h : Script w v n) (hb : Below B w w') (hlow : ∀ a, v.ownBlock = some a → 0 < n → a < B) : Script w' v n := by
  refine ⟨?_⟩
  rcases h.of with h0 | ⟨a, cap, rfl, h1, h2⟩
  · exact .inl h0
  · refine .inr ⟨a, cap, rfl, h1, fun i hi => ?_⟩
    have hab := hlow a.block rfl (by omega)
    obtain ⟨K, A, B', C, s, k0, k1, k2, k3, k4⟩ := h2 i hi
    exact ⟨K, A, B', C, s, (hb.cell (by rw [add_block]; exact hab)).trans k0, (hb.cell (by rw [add_block, add_block]; exact hab)).trans k1, (hb.cell (by rw [add_block, add_block]; exact hab)).trans k2,
      (hb.cell (by rw [add_block, add_block]; exact hab)).trans k3, (hb.cell (by rw [add_block, add_block]; exact hab)).trans k4⟩

theorem lw_new (w : World) : LW w.heap.size nilV nilV nilV nilV nilV nilV w.heap.size 0 (w.alloc (.cells #[nilV, nilV, nilV, nilV, nilV, nilV, nilV, nilV] 33)) :=
  ⟨Nat.le_refl _, nilV, nilV, [], [], heap_alloc_new w _, ⟨rfl, World.ownsRow_nil _ _ _ _, World.ownsRow_nil _ _ _ _, fun i l m h => by simp at h, fun l h => by simp at h⟩, Nat.le_refl _⟩

set_option maxRecDepth 100000 in
set_option maxHeartbeats 2000000 in
theorem turned_any (v : Value) (n : Nat) (w : World) (hS : Script w v n) (hlow : ∀ a, v.ownBlock = some a → 0 < n → a < w.heap.size) (hn : n ≤ 1048576) :
    Calls Tryz.prog 3 #[v] w fun e w' => e = .returned (.bool true) ∧ Below w.heap.size w w' := by
  have L0 := lw_new w
  have hb0 : Below w.heap.size w (w.alloc (.cells #[nilV, nilV, nilV, nilV, nilV, nilV, nilV, nilV] 33)) := (Below.refl _ _).alloc (Nat.le_refl _) _
  go_enter Tryz.func3, Tryz.ntmps3
  go_wp2_with fail
  refine (step_any w.heap.size nilV nilV nilV nilV nilV w.heap.size 0 _ L0 (by simp) (by omega) 2 0 0 0 _ (by omega)).mono ?_
  rintro e w1 ⟨rfl, L1, hb1⟩
  have hb2 := hb0.trans hb1
  have hz := hb2.size
  go_wp2_with fail
  refine (play_any w.heap.size nilV nilV nilV nilV w.heap.size 4 v n w1 L1 hz (hS.below hb2 hlow) hlow (by omega)).mono ?_
  rintro e w2 ⟨rfl, hb3⟩
  go_wp2
  go_ret
  exact ⟨rfl, hb2.trans hb3⟩

end Go.Proofs.YtopihgmemnokkaaGreat
