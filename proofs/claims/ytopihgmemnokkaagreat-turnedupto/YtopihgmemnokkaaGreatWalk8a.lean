import Derived.Test.YtopihgmemnokkaaGreatWalk7
import Derived.Deep.QuietTactic
import Derived.BigQuiet
namespace Go.Proofs.YtopihgmemnokkaaGreat
open Go.RowKit


theorem ret_str {a b : ByteArray} (h : a = b) : Ending.returned (.string a) = .returned (.string b) := by rw [h]


set_option maxHeartbeats 400000 in
theorem suffixes_any (s : ByteArray) (w : World) (hs : s.size ≤ 1000) :
    Calls Tryz.prog 39 #[.string s] w fun e w' => ∃ (rb : Nat) (rows B : Nat → Nat), e = .returned (.tuple #[.slice (some ⟨rb, 0, none⟩) (s.size + 1) (s.size + 1), .int .i64 0]) ∧ w.heap.size ≤ rb ∧
      Row w' rb 3 (s.size + 1) rows ∧ Cc.Down s.size (LT s) (before s) 0 rows B ∧ Below w.heap.size w w' := by
  go_enter Tryz.func39, Tryz.ntmps39
  go_wp2_with fail
  refine (sorted_any s _ hs).mono ?_
  rintro e w1 ⟨rb, rows, B, rfl, h1, h2, h3, h4⟩
  go_wp2
  go_ret2
  exact ⟨rb, rows, B, rfl, h1, h2, h3, h4⟩

theorem below_drewN {B : Nat} {a w : World} (h : Below B a w) (n : Nat) : Below B a (w.drewN n) := ⟨h.os, h.tape, h.output, h.size, h.block⟩

theorem toList_extract (s : ByteArray) (a : Nat) : (s.extract a s.size).toList = s.data.toList.drop a := by
  rw [ByteArray.toList_eq, Lib.extract_to_end]

end Go.Proofs.YtopihgmemnokkaaGreat
