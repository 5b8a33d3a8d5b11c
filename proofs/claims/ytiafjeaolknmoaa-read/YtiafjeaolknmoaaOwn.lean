import Derived.Test.YtiafjeaolknmoaaRows
import Derived.ProofKit
namespace Go.Proofs.Ytiafjeaolknmoaa

theorem Try.own : ownKnob Try.prog.godebug = none := by kernel_rfl

end Go.Proofs.Ytiafjeaolknmoaa
