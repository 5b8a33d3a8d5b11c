/-
  No cell of these rows narrows 'for every input' (looked for: loops, veiled, ifaces, maps, wideKeys, modest, calm, conditions, laid).
  DERIVED. THE GIVEN ROWS OF THIS SEAT. 7 by the template 'for every input the law returns true; each argument reads behind the call as it read before'; 0 by the template 'total and deterministic' (their statements: YtopihgmemnokkaaGreatTotals.lean).
  GIVEN WITH THE SEED: the statements are not yours to turn. If you find one false, say at which input.
  Laid BY PROGRAM, IN A SANDBOX (cutbox-rows.mjs): the forced cells as the released guide's own fill.sh prints them over the translation b4cb1d0f5e244671… (all of the seat's roots in one cut). By AI agents, Wed Nov 11 2026. No macro, syntax, notation, axiom, sorry.
-/
import Derived.Test.YtopihgmemnokkaaGreatChecked
import GoSem.Claim
import GoSem.ClaimJoined
import GoSem.ClaimMapViews
import Derived.JoinedTies
import Derived.KernelRfl
namespace Go.Proofs.YtopihgmemnokkaaGreat
/- THE CELL 'sum', in the pinned program and in every row, IS THE sha256 OF THE DUMP (.gsa) THAT YtopihgmemnokkaaGreatProg.lean LOADS. Nothing in Lean hashes anything: it is a label: what it is worth is what the hold of that sum in a sandbox is worth. -/
noncomputable def Tryz.pinned : Pinned := { name := "ytopihgmemnokkaagreat", sum := "b4cb1d0f5e244671bad5ecb9cad4be52a580d47e4313c0b4db4a4f0350eda46c", checked := Tryz.checked }
namespace Rows
def none {H : Type} : Left H := { results := [], args := [] }

/-- 'concordlaw.Turned': WHATEVER THE INPUT: true; the input reads as it did. -/
def turnedSpec : ChangeSpec := { name := "turned", fn := fun _ => fun
  | [d] => { results := [.lit (.bool true)], args := [d] }
  | _ => none }
def turnedRow : OpenClaim := { program := "ytopihgmemnokkaagreat", sum := "b4cb1d0f5e244671bad5ecb9cad4be52a580d47e4313c0b4db4a4f0350eda46c", func := "concord/concordlaw.Turned", spec := "turned", inPlace := ["internal/bytealg.abigen_runtime_cmpstring", "slices.overlaps[*concord/codes.tree]"], unfollowed := true, recurses := true, plainKeys := false, apart := false }
def TurnedSaid : Prop := turnedRow.holds Tryz.pinned (OpenSpec.ofChange turnedSpec)

/-- ITS FALSE NEIGHBOUR: 'it returns false'. Refute it at one input. -/
def turnedWrong : ChangeSpec := { name := "turned", fn := fun _ => fun
  | [d] => { results := [.lit (.bool false)], args := [d] }
  | _ => none }
def TurnedWrongFalsely : Prop := turnedRow.holds Tryz.pinned (OpenSpec.ofChange turnedWrong)

/-- 'concordlaw.Coded': WHATEVER THE INPUT: true; the input reads as it did. -/
def codedSpec : ChangeSpec := { name := "coded", fn := fun _ => fun
  | [d] => { results := [.lit (.bool true)], args := [d] }
  | _ => none }
def codedRow : OpenClaim := { program := "ytopihgmemnokkaagreat", sum := "b4cb1d0f5e244671bad5ecb9cad4be52a580d47e4313c0b4db4a4f0350eda46c", func := "concord/concordlaw.Coded", spec := "coded", inPlace := ["internal/bytealg.abigen_runtime_cmpstring", "slices.overlaps[*concord/codes.tree]"], unfollowed := true, recurses := true, plainKeys := false, apart := false }
def CodedSaid : Prop := codedRow.holds Tryz.pinned (OpenSpec.ofChange codedSpec)

/-- ITS FALSE NEIGHBOUR: 'it returns false'. Refute it at one input. -/
def codedWrong : ChangeSpec := { name := "coded", fn := fun _ => fun
  | [d] => { results := [.lit (.bool false)], args := [d] }
  | _ => none }
def CodedWrongFalsely : Prop := codedRow.holds Tryz.pinned (OpenSpec.ofChange codedWrong)

/-- 'concordlaw.Found': WHATEVER THE INPUT: true; the input reads as it did. -/
def foundSpec : ChangeSpec := { name := "found", fn := fun _ => fun
  | [d1, d2, d3] => { results := [.lit (.bool true)], args := [d1, d2, d3] }
  | _ => none }
def foundRow : OpenClaim := { program := "ytopihgmemnokkaagreat", sum := "b4cb1d0f5e244671bad5ecb9cad4be52a580d47e4313c0b4db4a4f0350eda46c", func := "concord/concordlaw.Found", spec := "found", inPlace := ["internal/bytealg.abigen_runtime_cmpstring", "slices.overlaps[*concord/codes.tree]"], unfollowed := true, recurses := true, plainKeys := false, apart := false }
def FoundSaid : Prop := foundRow.holds Tryz.pinned (OpenSpec.ofChange foundSpec)

/-- ITS FALSE NEIGHBOUR: 'it returns false'. Refute it at one input. -/
def foundWrong : ChangeSpec := { name := "found", fn := fun _ => fun
  | [d1, d2, d3] => { results := [.lit (.bool false)], args := [d1, d2, d3] }
  | _ => none }
def FoundWrongFalsely : Prop := foundRow.holds Tryz.pinned (OpenSpec.ofChange foundWrong)

/-- 'concordkeep.Tells': WHATEVER THE INPUT: true; the input reads as it did. -/
def tellsSpec : ChangeSpec := { name := "tells", fn := fun _ => fun
  | [d1, d2, d3, d4, d5] => { results := [.lit (.bool true)], args := [d1, d2, d3, d4, d5] }
  | _ => none }
def tellsRow : OpenClaim := { program := "ytopihgmemnokkaagreat", sum := "b4cb1d0f5e244671bad5ecb9cad4be52a580d47e4313c0b4db4a4f0350eda46c", func := "concord/concordkeep.Tells", spec := "tells", inPlace := ["internal/bytealg.abigen_runtime_cmpstring", "slices.overlaps[*concord/codes.tree]"], unfollowed := true, recurses := true, plainKeys := false, apart := false }
def TellsSaid : Prop := tellsRow.holds Tryz.pinned (OpenSpec.ofChange tellsSpec)

/-- ITS FALSE NEIGHBOUR: 'it returns false'. Refute it at one input. -/
def tellsWrong : ChangeSpec := { name := "tells", fn := fun _ => fun
  | [d1, d2, d3, d4, d5] => { results := [.lit (.bool false)], args := [d1, d2, d3, d4, d5] }
  | _ => none }
def TellsWrongFalsely : Prop := tellsRow.holds Tryz.pinned (OpenSpec.ofChange tellsWrong)

/-- 'concordkeep.Gives': WHATEVER THE INPUT: true; the input reads as it did. -/
def givesSpec : ChangeSpec := { name := "gives", fn := fun _ => fun
  | [d1, d2, d3] => { results := [.lit (.bool true)], args := [d1, d2, d3] }
  | _ => none }
def givesRow : OpenClaim := { program := "ytopihgmemnokkaagreat", sum := "b4cb1d0f5e244671bad5ecb9cad4be52a580d47e4313c0b4db4a4f0350eda46c", func := "concord/concordkeep.Gives", spec := "gives", inPlace := ["internal/bytealg.abigen_runtime_cmpstring", "slices.overlaps[*concord/codes.tree]"], unfollowed := true, recurses := true, plainKeys := false, apart := false }
def GivesSaid : Prop := givesRow.holds Tryz.pinned (OpenSpec.ofChange givesSpec)

/-- ITS FALSE NEIGHBOUR: 'it returns false'. Refute it at one input. -/
def givesWrong : ChangeSpec := { name := "gives", fn := fun _ => fun
  | [d1, d2, d3] => { results := [.lit (.bool false)], args := [d1, d2, d3] }
  | _ => none }
def GivesWrongFalsely : Prop := givesRow.holds Tryz.pinned (OpenSpec.ofChange givesWrong)

/-- 'concordkeep.Kept': WHATEVER THE INPUT: true; the input reads as it did. -/
def keptSpec : ChangeSpec := { name := "kept", fn := fun _ => fun
  | [d1, d2, d3, d4, d5, d6] => { results := [.lit (.bool true)], args := [d1, d2, d3, d4, d5, d6] }
  | _ => none }
def keptRow : OpenClaim := { program := "ytopihgmemnokkaagreat", sum := "b4cb1d0f5e244671bad5ecb9cad4be52a580d47e4313c0b4db4a4f0350eda46c", func := "concord/concordkeep.Kept", spec := "kept", inPlace := ["internal/bytealg.abigen_runtime_cmpstring", "slices.overlaps[*concord/codes.tree]"], unfollowed := true, recurses := true, plainKeys := false, apart := false }
def KeptSaid : Prop := keptRow.holds Tryz.pinned (OpenSpec.ofChange keptSpec)

/-- ITS FALSE NEIGHBOUR: 'it returns false'. Refute it at one input. -/
def keptWrong : ChangeSpec := { name := "kept", fn := fun _ => fun
  | [d1, d2, d3, d4, d5, d6] => { results := [.lit (.bool false)], args := [d1, d2, d3, d4, d5, d6] }
  | _ => none }
def KeptWrongFalsely : Prop := keptRow.holds Tryz.pinned (OpenSpec.ofChange keptWrong)

/-- 'concordlaw.All': WHATEVER THE INPUT: true; the input reads as it did. -/
def allSpec : ChangeSpec := { name := "all", fn := fun _ => fun
  | [d1, d2, d3] => { results := [.lit (.bool true)], args := [d1, d2, d3] }
  | _ => none }
def allRow : OpenClaim := { program := "ytopihgmemnokkaagreat", sum := "b4cb1d0f5e244671bad5ecb9cad4be52a580d47e4313c0b4db4a4f0350eda46c", func := "concord/concordlaw.All", spec := "all", inPlace := ["internal/bytealg.abigen_runtime_cmpstring", "slices.overlaps[*concord/codes.tree]"], unfollowed := true, recurses := true, plainKeys := false, apart := false }
def AllSaid : Prop := allRow.holds Tryz.pinned (OpenSpec.ofChange allSpec)

/-- ITS FALSE NEIGHBOUR: 'it returns false'. Refute it at one input. -/
def allWrong : ChangeSpec := { name := "all", fn := fun _ => fun
  | [d1, d2, d3] => { results := [.lit (.bool false)], args := [d1, d2, d3] }
  | _ => none }
def AllWrongFalsely : Prop := allRow.holds Tryz.pinned (OpenSpec.ofChange allWrong)

/- THE SECOND FORM. 'bulk': how many values and letters a reading holds, each counted each time it is reached (what is shared counts as often as it is met; a slice's spare places count too). A statement '..UptoSaid' is the law's where the arguments, and the package variables that the reading takes, are together of bulk at most 1048576: NARROWER than '..Said'. Prove '..Said' where nothing that the law and all that it calls make is longer than what came in: it says more and counts as full. Else prove '..UptoSaid'. A law counts once. -/
mutual
def uptoBulk {H : Type} : DataW H → Nat
  | .lit (.string bytes) => bytes.length + 1
  | .lit _ => 1
  | .nil => 1
  | .ptr d => uptoBulk d + 1
  | .slice elems spare => uptoBulkAll elems + uptoBulkAll spare + 1
  | .agg parts => uptoBulkAll parts + 1
  | .iface _ d => uptoBulk d + 1
  | .map entries => uptoBulkEntries entries + 1
  | .held _ => 1
def uptoBulkAll {H : Type} : List (DataW H) → Nat
  | [] => 0
  | d :: r => uptoBulk d + uptoBulkAll r
def uptoBulkEntries {H : Type} : List (Lit × DataW H) → Nat
  | [] => 0
  | x :: r => uptoBulkEntry x + uptoBulkEntries r
def uptoBulkEntry {H : Type} : Lit × DataW H → Nat
  | (.string bytes, d) => bytes.length + uptoBulk d + 1
  | (_, d) => uptoBulk d + 1
 end
def uptoSmall : (H : Type) → List (DataW H) → Bool := fun _ ds => decide (uptoBulkAll ds ≤ 1048576)
def OpenSpec.upto (s : _root_.Go.ChangeSpec) : _root_.Go.OpenSpec := { _root_.Go.OpenSpec.ofChange s with cond := some uptoSmall }

/-- 'concordlaw.Turned', WHERE WHAT IT READS IS OF BULK AT MOST 1048576: true; the input reads as it did. -/
def turnedUptoRow : OpenClaim := { program := "ytopihgmemnokkaagreat", sum := "b4cb1d0f5e244671bad5ecb9cad4be52a580d47e4313c0b4db4a4f0350eda46c", func := "concord/concordlaw.Turned", spec := "turned", inPlace := ["internal/bytealg.abigen_runtime_cmpstring", "slices.overlaps[*concord/codes.tree]"], unfollowed := true, recurses := true, plainKeys := false, apart := false, narrowed := true }
def TurnedUptoSaid : Prop := turnedUptoRow.holds Tryz.pinned (OpenSpec.upto turnedSpec)

/-- 'concordlaw.Coded', WHERE WHAT IT READS IS OF BULK AT MOST 1048576: true; the input reads as it did. -/
def codedUptoRow : OpenClaim := { program := "ytopihgmemnokkaagreat", sum := "b4cb1d0f5e244671bad5ecb9cad4be52a580d47e4313c0b4db4a4f0350eda46c", func := "concord/concordlaw.Coded", spec := "coded", inPlace := ["internal/bytealg.abigen_runtime_cmpstring", "slices.overlaps[*concord/codes.tree]"], unfollowed := true, recurses := true, plainKeys := false, apart := false, narrowed := true }
def CodedUptoSaid : Prop := codedUptoRow.holds Tryz.pinned (OpenSpec.upto codedSpec)

/-- 'concordlaw.Found', WHERE WHAT IT READS IS OF BULK AT MOST 1048576: true; the input reads as it did. -/
def foundUptoRow : OpenClaim := { program := "ytopihgmemnokkaagreat", sum := "b4cb1d0f5e244671bad5ecb9cad4be52a580d47e4313c0b4db4a4f0350eda46c", func := "concord/concordlaw.Found", spec := "found", inPlace := ["internal/bytealg.abigen_runtime_cmpstring", "slices.overlaps[*concord/codes.tree]"], unfollowed := true, recurses := true, plainKeys := false, apart := false, narrowed := true }
def FoundUptoSaid : Prop := foundUptoRow.holds Tryz.pinned (OpenSpec.upto foundSpec)

/-- 'concordkeep.Tells', WHERE WHAT IT READS IS OF BULK AT MOST 1048576: true; the input reads as it did. -/
def tellsUptoRow : OpenClaim := { program := "ytopihgmemnokkaagreat", sum := "b4cb1d0f5e244671bad5ecb9cad4be52a580d47e4313c0b4db4a4f0350eda46c", func := "concord/concordkeep.Tells", spec := "tells", inPlace := ["internal/bytealg.abigen_runtime_cmpstring", "slices.overlaps[*concord/codes.tree]"], unfollowed := true, recurses := true, plainKeys := false, apart := false, narrowed := true }
def TellsUptoSaid : Prop := tellsUptoRow.holds Tryz.pinned (OpenSpec.upto tellsSpec)

/-- 'concordkeep.Gives', WHERE WHAT IT READS IS OF BULK AT MOST 1048576: true; the input reads as it did. -/
def givesUptoRow : OpenClaim := { program := "ytopihgmemnokkaagreat", sum := "b4cb1d0f5e244671bad5ecb9cad4be52a580d47e4313c0b4db4a4f0350eda46c", func := "concord/concordkeep.Gives", spec := "gives", inPlace := ["internal/bytealg.abigen_runtime_cmpstring", "slices.overlaps[*concord/codes.tree]"], unfollowed := true, recurses := true, plainKeys := false, apart := false, narrowed := true }
def GivesUptoSaid : Prop := givesUptoRow.holds Tryz.pinned (OpenSpec.upto givesSpec)

/-- 'concordkeep.Kept', WHERE WHAT IT READS IS OF BULK AT MOST 1048576: true; the input reads as it did. -/
def keptUptoRow : OpenClaim := { program := "ytopihgmemnokkaagreat", sum := "b4cb1d0f5e244671bad5ecb9cad4be52a580d47e4313c0b4db4a4f0350eda46c", func := "concord/concordkeep.Kept", spec := "kept", inPlace := ["internal/bytealg.abigen_runtime_cmpstring", "slices.overlaps[*concord/codes.tree]"], unfollowed := true, recurses := true, plainKeys := false, apart := false, narrowed := true }
def KeptUptoSaid : Prop := keptUptoRow.holds Tryz.pinned (OpenSpec.upto keptSpec)

/-- 'concordlaw.All', WHERE WHAT IT READS IS OF BULK AT MOST 1048576: true; the input reads as it did. -/
def allUptoRow : OpenClaim := { program := "ytopihgmemnokkaagreat", sum := "b4cb1d0f5e244671bad5ecb9cad4be52a580d47e4313c0b4db4a4f0350eda46c", func := "concord/concordlaw.All", spec := "all", inPlace := ["internal/bytealg.abigen_runtime_cmpstring", "slices.overlaps[*concord/codes.tree]"], unfollowed := true, recurses := true, plainKeys := false, apart := false, narrowed := true }
def AllUptoSaid : Prop := allUptoRow.holds Tryz.pinned (OpenSpec.upto allSpec)

end Rows
end Go.Proofs.YtopihgmemnokkaaGreat
