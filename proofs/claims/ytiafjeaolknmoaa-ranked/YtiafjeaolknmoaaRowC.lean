import Derived.Test.YtiafjeaolknmoaaRows
namespace Go.Proofs.Ytiafjeaolknmoaa

/-- a row of m numbers -/
def rowC (m : Nat) (f : Nat → Nat) : Array Value := (Array.range m).map fun i => .int .i64 (f i : Nat)

end Go.Proofs.Ytiafjeaolknmoaa
