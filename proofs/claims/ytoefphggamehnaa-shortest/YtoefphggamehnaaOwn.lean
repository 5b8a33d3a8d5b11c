import Derived.Test.YtoefphggamehnaaRows
import Derived.ProofKit
namespace Go.Proofs.Ytoefphggamehnaa

theorem Try.own : ownKnob Try.prog.godebug = none := by kernel_rfl

end Go.Proofs.Ytoefphggamehnaa
