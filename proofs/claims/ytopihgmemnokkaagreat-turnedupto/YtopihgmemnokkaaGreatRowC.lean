import Derived.Test.YtopihgmemnokkaaGreatRows
namespace Go.Proofs.YtopihgmemnokkaaGreat

/-- a row of m numbers -/
def rowC (m : Nat) (f : Nat → Nat) : Array Value := (Array.range m).map fun i => .int .i64 (f i : Nat)

end Go.Proofs.YtopihgmemnokkaaGreat
