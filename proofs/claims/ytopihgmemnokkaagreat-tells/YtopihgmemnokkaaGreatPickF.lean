import Derived.Test.YtopihgmemnokkaaGreatMemF
namespace Go.Proofs.YtopihgmemnokkaaGreat
open Go.RowKit

set_option maxHeartbeats 400000 in
theorem pick_any (c n : Int) (w : World) (h1 : -9223372036854775808 ≤ c) (h2 : c ≤ 9223372036854775807) (hn : 1 ≤ n) (hn2 : n ≤ 1000000) :
    Calls Tryz.prog 16 #[.int .i64 c, .int .i64 n] w fun e w' => (∃ v : Nat, e = .returned (.int .i64 (v : Nat)) ∧ (v : Int) < n) ∧ w' = w := by
  by_cases h : c < 0
  · go_enter Tryz.func16, Tryz.ntmps16
    go_wp2
    go_ret
    have e1 : -((c + 1).tmod n) = (-(c + 1)) % n := by rw [← Int.neg_tmod, Int.tmod_eq_emod_of_nonneg (by omega)]
    have e2 := Int.emod_nonneg (-(c + 1)) (show n ≠ 0 by omega)
    have e3 := Int.emod_lt_of_pos (-(c + 1)) (show 0 < n by omega)
    exact ⟨⟨(-((c + 1).tmod n)).toNat, ret_int (by omega), by omega⟩, rfl⟩
  · go_enter Tryz.func16, Tryz.ntmps16
    go_wp2
    go_ret
    have e2 := Int.emod_nonneg c (show n ≠ 0 by omega)
    have e3 := Int.emod_lt_of_pos c (show 0 < n by omega)
    exact ⟨⟨(c % n).toNat, ret_int (by omega), by omega⟩, rfl⟩

end Go.Proofs.YtopihgmemnokkaaGreat

