/-
  No cell of these rows narrows 'for every input' (looked for: loops, veiled, ifaces, maps, wideKeys, modest, calm, conditions, laid).
  DERIVED. THE GIVEN ROWS OF THIS SEAT. 5 by the template 'for every input the law returns true; each argument reads behind the call as it read before'; 0 by the template 'total and deterministic' (their statements: YtopihgmemnokkaaTotals.lean).
  GIVEN WITH THE SEED: the statements are not yours to turn. If you find one false, say at which input.
  Laid BY PROGRAM, IN A SANDBOX (cutbox-rows.mjs): the forced cells as the released guide's own fill.sh prints them over the translation dba71516bbd5d81f… (all of the seat's roots in one cut). By AI agents, Wed Nov 11 2026. No macro, syntax, notation, axiom, sorry.
-/
import Derived.Test.YtopihgmemnokkaaChecked
import GoSem.Claim
import GoSem.ClaimJoined
import GoSem.ClaimMapViews
import Derived.JoinedTies
import Derived.KernelRfl
namespace Go.Proofs.Ytopihgmemnokkaa
/- THE CELL 'sum', in the pinned program and in every row, IS THE sha256 OF THE DUMP (.gsa) THAT YtopihgmemnokkaaProg.lean LOADS. Nothing in Lean hashes anything: it is a label: what it is worth is what the hold of that sum in a sandbox is worth. -/
noncomputable def Try.pinned : Pinned := { name := "ytopihgmemnokkaa", sum := "dba71516bbd5d81fc4c6a5bfe12c9f0a9792ffe45cf62068d68313f7cd67b0a5", checked := Try.checked }
namespace Rows
def none {H : Type} : Left H := { results := [], args := [] }

/-- 'concordkeep.Sorted': WHATEVER THE INPUT: true; the input reads as it did. -/
def sortedSpec : ChangeSpec := { name := "sorted", fn := fun _ => fun
  | [d] => { results := [.lit (.bool true)], args := [d] }
  | _ => none }
def sortedRow : OpenClaim := { program := "ytopihgmemnokkaa", sum := "dba71516bbd5d81fc4c6a5bfe12c9f0a9792ffe45cf62068d68313f7cd67b0a5", func := "concord/concordkeep.Sorted", spec := "sorted", inPlace := ["internal/bytealg.abigen_runtime_cmpstring"], unfollowed := true, recurses := true, apart := false }
def SortedSaid : Prop := sortedRow.holds Try.pinned (OpenSpec.ofChange sortedSpec)

/-- ITS FALSE NEIGHBOUR: 'it returns false'. Refute it at one input. -/
def sortedWrong : ChangeSpec := { name := "sorted", fn := fun _ => fun
  | [d] => { results := [.lit (.bool false)], args := [d] }
  | _ => none }
def SortedWrongFalsely : Prop := sortedRow.holds Try.pinned (OpenSpec.ofChange sortedWrong)

/-- 'concordkeep.Back': WHATEVER THE INPUT: true; the input reads as it did. -/
def backSpec : ChangeSpec := { name := "back", fn := fun _ => fun
  | [d1, d2, d3] => { results := [.lit (.bool true)], args := [d1, d2, d3] }
  | _ => none }
def backRow : OpenClaim := { program := "ytopihgmemnokkaa", sum := "dba71516bbd5d81fc4c6a5bfe12c9f0a9792ffe45cf62068d68313f7cd67b0a5", func := "concord/concordkeep.Back", spec := "back", inPlace := ["internal/bytealg.abigen_runtime_cmpstring"], unfollowed := true, recurses := true, apart := false }
def BackSaid : Prop := backRow.holds Try.pinned (OpenSpec.ofChange backSpec)

/-- ITS FALSE NEIGHBOUR: 'it returns false'. Refute it at one input. -/
def backWrong : ChangeSpec := { name := "back", fn := fun _ => fun
  | [d1, d2, d3] => { results := [.lit (.bool false)], args := [d1, d2, d3] }
  | _ => none }
def BackWrongFalsely : Prop := backRow.holds Try.pinned (OpenSpec.ofChange backWrong)

/-- 'concordkeep.Ranked': WHATEVER THE INPUT: true; the input reads as it did. -/
def rankedSpec : ChangeSpec := { name := "ranked", fn := fun _ => fun
  | [d1, d2] => { results := [.lit (.bool true)], args := [d1, d2] }
  | _ => none }
def rankedRow : OpenClaim := { program := "ytopihgmemnokkaa", sum := "dba71516bbd5d81fc4c6a5bfe12c9f0a9792ffe45cf62068d68313f7cd67b0a5", func := "concord/concordkeep.Ranked", spec := "ranked", unfollowed := true, recurses := true, apart := false }
def RankedSaid : Prop := rankedRow.holds Try.pinned (OpenSpec.ofChange rankedSpec)

/-- ITS FALSE NEIGHBOUR: 'it returns false'. Refute it at one input. -/
def rankedWrong : ChangeSpec := { name := "ranked", fn := fun _ => fun
  | [d1, d2] => { results := [.lit (.bool false)], args := [d1, d2] }
  | _ => none }
def RankedWrongFalsely : Prop := rankedRow.holds Try.pinned (OpenSpec.ofChange rankedWrong)

/-- 'concordkeep.Shortest': WHATEVER THE INPUT: true; the input reads as it did. -/
def shortestSpec : ChangeSpec := { name := "shortest", fn := fun _ => fun
  | [d1, d2] => { results := [.lit (.bool true)], args := [d1, d2] }
  | _ => none }
def shortestRow : OpenClaim := { program := "ytopihgmemnokkaa", sum := "dba71516bbd5d81fc4c6a5bfe12c9f0a9792ffe45cf62068d68313f7cd67b0a5", func := "concord/concordkeep.Shortest", spec := "shortest", inPlace := ["slices.overlaps[*concord/codes.tree]"], unfollowed := true, recurses := true, apart := false }
def ShortestSaid : Prop := shortestRow.holds Try.pinned (OpenSpec.ofChange shortestSpec)

/-- ITS FALSE NEIGHBOUR: 'it returns false'. Refute it at one input. -/
def shortestWrong : ChangeSpec := { name := "shortest", fn := fun _ => fun
  | [d1, d2] => { results := [.lit (.bool false)], args := [d1, d2] }
  | _ => none }
def ShortestWrongFalsely : Prop := shortestRow.holds Try.pinned (OpenSpec.ofChange shortestWrong)

/-- 'concordkeep.Read': WHATEVER THE INPUT: true; the input reads as it did. -/
def readSpec : ChangeSpec := { name := "read", fn := fun _ => fun
  | [d] => { results := [.lit (.bool true)], args := [d] }
  | _ => none }
def readRow : OpenClaim := { program := "ytopihgmemnokkaa", sum := "dba71516bbd5d81fc4c6a5bfe12c9f0a9792ffe45cf62068d68313f7cd67b0a5", func := "concord/concordkeep.Read", spec := "read", inPlace := ["slices.overlaps[*concord/codes.tree]"], unfollowed := true, recurses := true, apart := false }
def ReadSaid : Prop := readRow.holds Try.pinned (OpenSpec.ofChange readSpec)

/-- ITS FALSE NEIGHBOUR: 'it returns false'. Refute it at one input. -/
def readWrong : ChangeSpec := { name := "read", fn := fun _ => fun
  | [d] => { results := [.lit (.bool false)], args := [d] }
  | _ => none }
def ReadWrongFalsely : Prop := readRow.holds Try.pinned (OpenSpec.ofChange readWrong)

/- THE SECOND FORM. 'bulk': how many values and letters a reading holds, each counted each time it is reached (what is shared counts as often as it is met; a slice's spare places count too). A statement '..UptoSaid' is the law's where the arguments, and the package variables that the reading takes, are together of bulk at most 1048576: NARROWER than '..Said'. Prove '..Said' where nothing that the law and all that it calls make is longer than what came in: it says more and counts as full. Else prove '..UptoSaid'. A law counts once. -/
mutual
def uptoBulk {H : Type} : DataW H → Nat
  | .lit (.string bytes) => bytes.length + 1
  | .lit _ => 1
  | .nil => 1
  | .ptr d => uptoBulk d + 1
  | .slice elems spare => uptoBulkAll elems + uptoBulkAll spare + 1
  | .agg parts => uptoBulkAll parts + 1
  | .iface _ d => uptoBulk d + 1
  | .map entries => uptoBulkEntries entries + 1
  | .held _ => 1
def uptoBulkAll {H : Type} : List (DataW H) → Nat
  | [] => 0
  | d :: r => uptoBulk d + uptoBulkAll r
def uptoBulkEntries {H : Type} : List (Lit × DataW H) → Nat
  | [] => 0
  | x :: r => uptoBulkEntry x + uptoBulkEntries r
def uptoBulkEntry {H : Type} : Lit × DataW H → Nat
  | (.string bytes, d) => bytes.length + uptoBulk d + 1
  | (_, d) => uptoBulk d + 1
 end
def uptoSmall : (H : Type) → List (DataW H) → Bool := fun _ ds => decide (uptoBulkAll ds ≤ 1048576)
def OpenSpec.upto (s : _root_.Go.ChangeSpec) : _root_.Go.OpenSpec := { _root_.Go.OpenSpec.ofChange s with cond := some uptoSmall }

/-- 'concordkeep.Sorted', WHERE WHAT IT READS IS OF BULK AT MOST 1048576: true; the input reads as it did. -/
def sortedUptoRow : OpenClaim := { program := "ytopihgmemnokkaa", sum := "dba71516bbd5d81fc4c6a5bfe12c9f0a9792ffe45cf62068d68313f7cd67b0a5", func := "concord/concordkeep.Sorted", spec := "sorted", inPlace := ["internal/bytealg.abigen_runtime_cmpstring"], unfollowed := true, recurses := true, apart := false, narrowed := true }
def SortedUptoSaid : Prop := sortedUptoRow.holds Try.pinned (OpenSpec.upto sortedSpec)

/-- 'concordkeep.Back', WHERE WHAT IT READS IS OF BULK AT MOST 1048576: true; the input reads as it did. -/
def backUptoRow : OpenClaim := { program := "ytopihgmemnokkaa", sum := "dba71516bbd5d81fc4c6a5bfe12c9f0a9792ffe45cf62068d68313f7cd67b0a5", func := "concord/concordkeep.Back", spec := "back", inPlace := ["internal/bytealg.abigen_runtime_cmpstring"], unfollowed := true, recurses := true, apart := false, narrowed := true }
def BackUptoSaid : Prop := backUptoRow.holds Try.pinned (OpenSpec.upto backSpec)

/-- 'concordkeep.Ranked', WHERE WHAT IT READS IS OF BULK AT MOST 1048576: true; the input reads as it did. -/
def rankedUptoRow : OpenClaim := { program := "ytopihgmemnokkaa", sum := "dba71516bbd5d81fc4c6a5bfe12c9f0a9792ffe45cf62068d68313f7cd67b0a5", func := "concord/concordkeep.Ranked", spec := "ranked", unfollowed := true, recurses := true, apart := false, narrowed := true }
def RankedUptoSaid : Prop := rankedUptoRow.holds Try.pinned (OpenSpec.upto rankedSpec)

/-- 'concordkeep.Shortest', WHERE WHAT IT READS IS OF BULK AT MOST 1048576: true; the input reads as it did. -/
def shortestUptoRow : OpenClaim := { program := "ytopihgmemnokkaa", sum := "dba71516bbd5d81fc4c6a5bfe12c9f0a9792ffe45cf62068d68313f7cd67b0a5", func := "concord/concordkeep.Shortest", spec := "shortest", inPlace := ["slices.overlaps[*concord/codes.tree]"], unfollowed := true, recurses := true, apart := false, narrowed := true }
def ShortestUptoSaid : Prop := shortestUptoRow.holds Try.pinned (OpenSpec.upto shortestSpec)

/-- 'concordkeep.Read', WHERE WHAT IT READS IS OF BULK AT MOST 1048576: true; the input reads as it did. -/
def readUptoRow : OpenClaim := { program := "ytopihgmemnokkaa", sum := "dba71516bbd5d81fc4c6a5bfe12c9f0a9792ffe45cf62068d68313f7cd67b0a5", func := "concord/concordkeep.Read", spec := "read", inPlace := ["slices.overlaps[*concord/codes.tree]"], unfollowed := true, recurses := true, apart := false, narrowed := true }
def ReadUptoSaid : Prop := readUptoRow.holds Try.pinned (OpenSpec.upto readSpec)

end Rows
end Go.Proofs.Ytopihgmemnokkaa
