import Derived.Test.YtopihgmemnokkaaRowC
namespace Go.Proofs.Ytopihgmemnokkaa

/-- a row of 256 truths -/
def rowT (f : Nat → Bool) : Array Value := (Array.range 256).map fun i => .bool (f i)
theorem zeroT256 : (Try.prog.info? 66).map (·.zero) = some (some (.agg (rowT fun _ => false))) := by kernel_rfl

end Go.Proofs.Ytopihgmemnokkaa
