import Derived.Test.YtopihgmemnokkaaRowR
namespace Go.Proofs.Ytopihgmemnokkaa

theorem zero512 : (Try.prog.info? 89).map (·.zero) = some (some (.agg (rowR fun _ => (0, 0)))) := by kernel_rfl
theorem size512 : (Try.prog.info? 89).map (·.size) = some 512 := by kernel_rfl

end Go.Proofs.Ytopihgmemnokkaa
