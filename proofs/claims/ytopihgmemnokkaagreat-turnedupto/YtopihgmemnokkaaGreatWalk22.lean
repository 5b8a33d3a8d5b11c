import Derived.Test.YtopihgmemnokkaaGreatWalk21
namespace Go.Proofs.YtopihgmemnokkaaGreat
open Go.RowKit

set_option maxRecDepth 100000 in
set_option maxHeartbeats 2000000 in
theorem step_any (B0 : Nat) (b q r t d : Value) (wb N : Nat) (w : World) (L : LW B0 b q (.slice none 0 0) r t d wb N w) (hB : B0 ≤ w.heap.size) (hN : N ≤ 5000000) (K A B C : Int) (s : ByteArray) (hK : K ≤ 3) :
    Calls Tryz.prog 10 #[.pointer (some ⟨wb, 0, none⟩), .agg #[.int .i64 K, .int .i64 A, .int .i64 B, .int .i64 C, .string s]] w fun e w' => e = .returned (.bool true) ∧ LW B0 b q (.slice none 0 0) r t d wb (N + 4) w' ∧ Below B0 w w' := by
  have hW : Below B0 w (w.alloc (opBox K A B C s)) := (Below.refl _ _).alloc (by omega) _
  have hL0 : LW B0 b q (.slice none 0 0) r t d wb N (w.alloc (opBox K A B C s)) := L.below ((Below.refl _ _).alloc (Nat.le_refl _) _)
  have hsz : (w.alloc (opBox K A B C s)).heap.size = w.heap.size + 1 := by simp
  by_cases hlow : K < 1
  · have d1 : decide ((1 : Int) ≤ K) = false := decide_eq_false (by omega)
    have d2 : (K == 7) = false := by simp; omega
    have d3 : decide ((4 : Int) ≤ K) = false := decide_eq_false (by omega)
    have d4 : (K == 8) = false := by simp; omega
    have d5 : (K == 14) = false := by simp; omega
    obtain ⟨h0, lv, mv, ls, ms, h1, h2, h3⟩ := hL0
    have c2 := h1.cell 2
    simp only [List.getElem?_toArray, List.getElem?_cons_succ, List.getElem?_cons_zero] at c2
    go_enter Tryz.func10, Tryz.ntmps10
    go_wp2
    go_ret
    exact ⟨rfl, ⟨h0, lv, mv, ls, ms, h1, h2, by omega⟩, hW⟩
  · by_cases e1 : K = 1
    · subst e1
      go_enter Tryz.func10, Tryz.ntmps10
      go_wp2_with fail
      refine (turns_suffixes B0 b q _ r t d wb N _ hL0 (by omega) hN A B C s).mono ?_
      rintro e w1 ⟨rfl, hL1, hB1⟩
      go_wp2
      go_ret
      exact ⟨rfl, hL1, hW.trans hB1⟩
    · by_cases e2 : K = 2
      · subst e2
        go_enter Tryz.func10, Tryz.ntmps10
        go_wp2_with fail
        refine (turns_transform B0 b q _ r t d wb N _ hL0 (by omega) A B C s).mono ?_
        rintro e w1 ⟨rfl, hL1, hB1⟩
        go_wp2
        go_ret
        exact ⟨rfl, hL1.more (by omega), hW.trans hB1⟩
      · have e3 : K = 3 := by omega
        subst e3
        go_enter Tryz.func10, Tryz.ntmps10
        go_wp2_with fail
        refine (turns_restore B0 b q _ r t d wb N _ hL0 (by omega) A B C s).mono ?_
        rintro e w1 ⟨rfl, hL1, hB1⟩
        go_wp2
        go_ret
        exact ⟨rfl, hL1.more (by omega), hW.trans hB1⟩

end Go.Proofs.YtopihgmemnokkaaGreat
