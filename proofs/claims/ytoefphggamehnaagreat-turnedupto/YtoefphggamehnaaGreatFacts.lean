import Derived.Test.YtoefphggamehnaaGreatRowC
namespace Go.Proofs.YtoefphggamehnaaGreat

theorem zero257 : (Tryz.prog.info? 155).map (·.zero) = some (some (.agg (rowC 257 fun _ => 0))) := by kernel_rfl
theorem zero771 : (Tryz.prog.info? 126).map (·.zero) = some (some (.agg (rowC 771 fun _ => 0))) := by kernel_rfl
theorem size257 : (Tryz.prog.info? 155).map (·.size) = some 257 := by kernel_rfl
theorem size771 : (Tryz.prog.info? 126).map (·.size) = some 771 := by kernel_rfl

end Go.Proofs.YtoefphggamehnaaGreat
