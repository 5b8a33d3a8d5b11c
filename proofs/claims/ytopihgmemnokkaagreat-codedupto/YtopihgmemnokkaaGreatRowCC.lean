import Derived.Test.YtopihgmemnokkaaGreatRows
namespace Go.Proofs.YtopihgmemnokkaaGreat

/-- a row of m numbers -/
def rowC (m : Nat) (f : Nat → Nat) : Array Value := (Array.range m).map fun i => .int .i64 (f i : Nat)

end Go.Proofs.YtopihgmemnokkaaGreat

namespace Go.Proofs.YtopihgmemnokkaaGreat

theorem zero257 : (Tryz.prog.info? 234).map (·.zero) = some (some (.agg (rowC 257 fun _ => 0))) := by kernel_rfl
theorem zero771 : (Tryz.prog.info? 199).map (·.zero) = some (some (.agg (rowC 771 fun _ => 0))) := by kernel_rfl
theorem size257 : (Tryz.prog.info? 234).map (·.size) = some 257 := by kernel_rfl
theorem size771 : (Tryz.prog.info? 199).map (·.size) = some 771 := by kernel_rfl

end Go.Proofs.YtopihgmemnokkaaGreat

namespace Go.Proofs.YtopihgmemnokkaaGreat

theorem zero256 : (Tryz.prog.info? 120).map (·.zero) = some (some (.agg (rowC 256 fun _ => 0))) := by kernel_rfl
theorem size256 : (Tryz.prog.info? 120).map (·.size) = some 256 := by kernel_rfl

end Go.Proofs.YtopihgmemnokkaaGreat

namespace Go.Proofs.YtopihgmemnokkaaGreat

/-- a row of 256 runs -/
def rowR (g : Nat → Nat × Nat) : Array Value := (Array.range 512).map fun i => if i % 2 = 0 then .int .i64 ((g (i / 2)).1 : Nat) else .int .u64 ((g (i / 2)).2 : Nat)

end Go.Proofs.YtopihgmemnokkaaGreat

namespace Go.Proofs.YtopihgmemnokkaaGreat

theorem zero512 : (Tryz.prog.info? 115).map (·.zero) = some (some (.agg (rowR fun _ => (0, 0)))) := by kernel_rfl
theorem size512 : (Tryz.prog.info? 115).map (·.size) = some 512 := by kernel_rfl

end Go.Proofs.YtopihgmemnokkaaGreat

