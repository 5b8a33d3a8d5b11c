import Derived.Test.YtopihgmemnokkaaRowC
namespace Go.Proofs.Ytopihgmemnokkaa

theorem zero257 : (Try.prog.info? 94).map (·.zero) = some (some (.agg (rowC 257 fun _ => 0))) := by kernel_rfl
theorem zero771 : (Try.prog.info? 71).map (·.zero) = some (some (.agg (rowC 771 fun _ => 0))) := by kernel_rfl
theorem size257 : (Try.prog.info? 94).map (·.size) = some 257 := by kernel_rfl
theorem size771 : (Try.prog.info? 71).map (·.size) = some 771 := by kernel_rfl

end Go.Proofs.Ytopihgmemnokkaa
