import Derived.Test.YtopihgmemnokkaaGreatMemF
namespace Go.Proofs.YtopihgmemnokkaaGreat
open Go.RowKit

theorem ret_cut {a b : ByteArray} (h : a = b) : Ending.returned (.string a) = .returned (.string b) := by rw [h]

/-- at most so many bytes of a text -/
def cutS (t : ByteArray) (m : Nat) : ByteArray := if m < t.size then t.extract 0 m else t

theorem cutS_size (t : ByteArray) (m : Nat) : (cutS t m).size ≤ m := by
  unfold cutS; split
  · simp; omega
  · omega

set_option maxHeartbeats 400000 in
theorem cut_any (t : ByteArray) (m : Nat) (w : World) (hm : m ≤ 1000) :
    Calls Tryz.prog 13 #[.string t, .int .i64 (m : Nat)] w fun e w' => e = .returned (.string (cutS t m)) ∧ w' = w := by
  by_cases h : m < t.size
  · go_enter Tryz.func13, Tryz.ntmps13
    go_wp2
    go_ret
    exact ⟨ret_cut (by unfold cutS; rw [if_pos h]), rfl⟩
  · go_enter Tryz.func13, Tryz.ntmps13
    go_wp2
    go_ret
    exact ⟨ret_cut (by unfold cutS; rw [if_neg h]), rfl⟩

end Go.Proofs.YtopihgmemnokkaaGreat

