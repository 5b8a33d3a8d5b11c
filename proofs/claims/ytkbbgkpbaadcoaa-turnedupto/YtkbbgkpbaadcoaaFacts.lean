import Derived.Test.YtkbbgkpbaadcoaaRowC
namespace Go.Proofs.Ytkbbgkpbaadcoaa

theorem zero257 : (Try.prog.info? 120).map (·.zero) = some (some (.agg (rowC 257 fun _ => 0))) := by kernel_rfl
theorem zero771 : (Try.prog.info? 102).map (·.zero) = some (some (.agg (rowC 771 fun _ => 0))) := by kernel_rfl
theorem size257 : (Try.prog.info? 120).map (·.size) = some 257 := by kernel_rfl
theorem size771 : (Try.prog.info? 102).map (·.size) = some 771 := by kernel_rfl

end Go.Proofs.Ytkbbgkpbaadcoaa
