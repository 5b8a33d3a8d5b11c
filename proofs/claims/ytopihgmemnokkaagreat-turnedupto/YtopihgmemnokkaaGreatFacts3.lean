import Derived.Test.YtopihgmemnokkaaGreatRowC
namespace Go.Proofs.YtopihgmemnokkaaGreat

theorem zero256 : (Tryz.prog.info? 120).map (·.zero) = some (some (.agg (rowC 256 fun _ => 0))) := by kernel_rfl
theorem size256 : (Tryz.prog.info? 120).map (·.size) = some 256 := by kernel_rfl

end Go.Proofs.YtopihgmemnokkaaGreat
