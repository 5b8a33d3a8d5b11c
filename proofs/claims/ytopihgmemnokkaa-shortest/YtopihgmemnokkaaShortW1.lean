import Derived.Test.YtopihgmemnokkaaCodeW12
import Derived.Test.YtopihgmemnokkaaPick
import Derived.Test.YtopihgmemnokkaaCut
import Derived.Test.YtopihgmemnokkaaInts
namespace Go.Proofs.Ytopihgmemnokkaa
open Go.RowKit Go.Shelf Go.Lib

set_option maxHeartbeats 400000 in
theorem begins_any (a b : ByteArray) (w : World) (h : ¬ (a.size ≤ b.size ∧ (b.extract 0 a.size).toList = a.toList)) :
    Calls Try.prog 18 #[.string a, .string b] w fun e w' => e = .returned (.bool false) ∧ w' = w := by
  by_cases h1 : a.size ≤ b.size
  · have h2 : ((b.extract 0 a.size).toList == a.toList) = false := by
      rw [beq_eq_false_iff_ne]; exact fun e => h ⟨h1, e⟩
    clear h
    go_enter Try.func18, Try.ntmps18
    go_wp2
    go_ret
    exact ⟨by simp, rfl⟩
  · clear h
    go_enter Try.func18, Try.ntmps18
    go_wp2
    go_ret
    exact ⟨by simp, rfl⟩

set_option maxHeartbeats 400000 in
theorem at_any (v : Value) (m i : Nat) (w : World) (hr : IntsIn w v m) (hi : i ≤ 1000) :
    Calls Try.prog 19 #[v, .int .i64 (i : Nat)] w fun e w' => (∃ x : Int, e = .returned (.int .i64 x) ∧ -9223372036854775808 ≤ x ∧ x ≤ 9223372036854775807) ∧ w' = w := by
  rcases hr with ⟨rfl, rfl⟩ | ⟨a, cap, rfl, hc⟩
  · go_enter Try.func19, Try.ntmps19
    go_wp2
    go_ret
    exact ⟨⟨7, rfl, by omega, by omega⟩, rfl⟩
  · rcases Nat.eq_zero_or_pos m with rfl | hm
    · go_enter Try.func19, Try.ntmps19
      go_wp2
      go_ret
      exact ⟨⟨7, rfl, by omega, by omega⟩, rfl⟩
    · have hlt := Nat.mod_lt i hm
      obtain ⟨x, c0, h1, h2⟩ := hc (i % m) hlt
      clear hc
      go_enter Try.func19, Try.ntmps19
      go_wp2
      go_ret
      exact ⟨⟨x, rfl, h1, h2⟩, rfl⟩

end Go.Proofs.Ytopihgmemnokkaa
