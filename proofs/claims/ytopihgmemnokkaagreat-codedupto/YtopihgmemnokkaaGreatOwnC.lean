import Derived.Test.YtopihgmemnokkaaGreatRows
import Derived.ProofKit
namespace Go.Proofs.YtopihgmemnokkaaGreat

theorem Tryz.own : ownKnob Tryz.prog.godebug = none := by kernel_rfl

end Go.Proofs.YtopihgmemnokkaaGreat

