import Derived.Test.YtopihgmemnokkaaRowC
namespace Go.Proofs.Ytopihgmemnokkaa

theorem zero256 : (Try.prog.info? 32).map (·.zero) = some (some (.agg (rowC 256 fun _ => 0))) := by kernel_rfl
theorem size256 : (Try.prog.info? 32).map (·.size) = some 256 := by kernel_rfl

end Go.Proofs.Ytopihgmemnokkaa
