import Derived.Test.YtoefphggamehnaaGreatRows
import Derived.ProofKit
namespace Go.Proofs.YtoefphggamehnaaGreat

theorem Tryz.own : ownKnob Tryz.prog.godebug = none := by kernel_rfl

end Go.Proofs.YtoefphggamehnaaGreat

