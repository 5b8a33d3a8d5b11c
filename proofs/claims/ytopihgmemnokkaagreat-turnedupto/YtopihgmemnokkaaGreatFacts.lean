import Derived.Test.YtopihgmemnokkaaGreatRowC
namespace Go.Proofs.YtopihgmemnokkaaGreat

theorem zero257 : (Tryz.prog.info? 234).map (·.zero) = some (some (.agg (rowC 257 fun _ => 0))) := by kernel_rfl
theorem zero771 : (Tryz.prog.info? 199).map (·.zero) = some (some (.agg (rowC 771 fun _ => 0))) := by kernel_rfl
theorem size257 : (Tryz.prog.info? 234).map (·.size) = some 257 := by kernel_rfl
theorem size771 : (Tryz.prog.info? 199).map (·.size) = some 771 := by kernel_rfl

end Go.Proofs.YtopihgmemnokkaaGreat
