import Derived.Test.YtopihgmemnokkaaRows
import Derived.ProofKit
namespace Go.Proofs.Ytopihgmemnokkaa

theorem Try.own : ownKnob Try.prog.godebug = none := by kernel_rfl

end Go.Proofs.Ytopihgmemnokkaa
