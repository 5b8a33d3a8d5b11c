import Derived.Test.YtiafjeaolknmoaaGreatRowC
namespace Go.Proofs.YtiafjeaolknmoaaGreat

theorem zero257 : (Tryz.prog.info? 200).map (·.zero) = some (some (.agg (rowC 257 fun _ => 0))) := by kernel_rfl
theorem zero771 : (Tryz.prog.info? 158).map (·.zero) = some (some (.agg (rowC 771 fun _ => 0))) := by kernel_rfl
theorem size257 : (Tryz.prog.info? 200).map (·.size) = some 257 := by kernel_rfl
theorem size771 : (Tryz.prog.info? 158).map (·.size) = some 771 := by kernel_rfl

end Go.Proofs.YtiafjeaolknmoaaGreat
