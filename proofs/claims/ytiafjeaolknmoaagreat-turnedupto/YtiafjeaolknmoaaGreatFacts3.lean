import Derived.Test.YtiafjeaolknmoaaGreatRowC
namespace Go.Proofs.YtiafjeaolknmoaaGreat

theorem zero256 : (Tryz.prog.info? 113).map (·.zero) = some (some (.agg (rowC 256 fun _ => 0))) := by kernel_rfl
theorem size256 : (Tryz.prog.info? 113).map (·.size) = some 256 := by kernel_rfl

end Go.Proofs.YtiafjeaolknmoaaGreat
