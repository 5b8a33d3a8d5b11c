import Derived.Test.YtopihgmemnokkaaRowC
namespace Go.Proofs.Ytopihgmemnokkaa

/-- a row of 256 runs -/
def rowR (g : Nat → Nat × Nat) : Array Value := (Array.range 512).map fun i => if i % 2 = 0 then .int .i64 ((g (i / 2)).1 : Nat) else .int .u64 ((g (i / 2)).2 : Nat)

end Go.Proofs.Ytopihgmemnokkaa
