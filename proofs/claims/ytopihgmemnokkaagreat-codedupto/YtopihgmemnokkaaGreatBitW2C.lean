import Derived.Test.YtopihgmemnokkaaGreatBitW1C
import Derived.Test.YtopihgmemnokkaaGreatBitmC
import Derived.Deep.QuietTactic
namespace Go.Proofs.YtopihgmemnokkaaGreat
open Go.RowKit

theorem runSize : (Tryz.prog.info? 114).map (·.size) = some 2 := by kernel_rfl
theorem heap_alloc_new' (w : World) (o : Obj) {b : Nat} (h : w.heap.size = b) : (w.alloc o).heap[b]? = some o := by subst h; exact heap_alloc_new w o

/-- a run: how many bits, and which -/
def runV (n b : Nat) : Value := .agg #[.int .i64 (n : Nat), .int .u64 (b : Nat)]

set_option maxHeartbeats 1000000 in
theorem with_any (n b t : Nat) (w : World) (hn : n < 64) (hb : b < 2 ^ n) (ht : t ≤ 1) :
    Calls Tryz.prog 116 #[runV n b, .int .u64 (t : Nat)] w fun e w' => e = .returned (runV (n + 1) (2 * b + t)) ∧ Below w.heap.size w w' := by
  unfold runV
  go_enter Tryz.func116, Tryz.ntmps116
  go_wp2
  have h64 : b * 2 < 18446744073709551616 := by
    have : 2 ^ n ≤ 2 ^ 63 := Nat.pow_le_pow_right (by omega) (by omega)
    omega
  have e : bits BinOp.or IntKind.u64 (IntKind.u64.wrap (↑b * 2)) ↑t = ((2 * b + t : Nat) : Int) := by
    rw [IntKind.wrap_u64, show (b : Int) * 2 % 18446744073709551616 = ((2 * b : Nat) : Int) by omega, bits_or_u64_nat _ _ (by omega) (by omega), Bm.two_or _ _ ht]
  rw [e]
  refine bodyPost_ret (results_cell_row Tryz.results116 _ _ (w.heap.size + 1) 114 _ (0, 0) _ rfl (heap_alloc_new' _ _ (by simp)) Tryz.underlying114 rfl runSize) rfl ⟨rfl, ?_⟩
  exact ((Below.refl _ _).alloc (Nat.le_refl _) _).alloc (by simp) _

set_option maxHeartbeats 1000000 in
theorem bit_any (n b i : Nat) (w : World) (hn : n ≤ 64) (hi : i < n) (hb : b < 18446744073709551616) :
    Calls Tryz.prog 125 #[runV n b, .int .i64 (i : Nat)] w fun e w' => e = .returned (.int .u64 (b / 2 ^ (n - 1 - i) % 2 : Nat)) ∧ Below w.heap.size w w' := by
  unfold runV
  go_enter Tryz.func125, Tryz.ntmps125
  go_wp2
  go_ret
  refine ⟨ret_int ?_, (Below.refl _ _).alloc (Nat.le_refl _) _⟩
  have hlt : b / 2 ^ (n - 1 - i) < 18446744073709551616 := Nat.lt_of_le_of_lt (Nat.div_le_self _ _) hb
  rw [show ((b : Int) / 2 ^ (n - 1 - i)) = ((b / 2 ^ (n - 1 - i) : Nat) : Int) by rw [Int.natCast_ediv, Int.natCast_pow]; rfl, show (1 : Int) = ((1 : Nat) : Int) from rfl, bits_and_u64_nat _ _ hlt (by omega)]
  rw [Nat.and_one_is_mod]

end Go.Proofs.YtopihgmemnokkaaGreat

