import Derived.Test.YtkbbgkpbaadcoaaRowC
namespace Go.Proofs.Ytkbbgkpbaadcoaa

theorem zero256 : (Try.prog.info? 48).map (·.zero) = some (some (.agg (rowC 256 fun _ => 0))) := by kernel_rfl
theorem size256 : (Try.prog.info? 48).map (·.size) = some 256 := by kernel_rfl

end Go.Proofs.Ytkbbgkpbaadcoaa
