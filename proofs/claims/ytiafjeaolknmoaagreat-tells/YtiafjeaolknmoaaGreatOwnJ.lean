import Derived.Test.YtiafjeaolknmoaaGreatRows
import Derived.ProofKit
namespace Go.Proofs.YtiafjeaolknmoaaGreat

theorem Tryz.own : ownKnob Tryz.prog.godebug = none := by kernel_rfl

end Go.Proofs.YtiafjeaolknmoaaGreat

