/-
  No cell of these rows narrows 'for every input' (looked for: loops, veiled, ifaces, maps, wideKeys, modest, calm, conditions, laid).
  DERIVED. THE GIVEN ROWS OF THIS SEAT. 8 by the template 'for every input the law returns true; each argument reads behind the call as it read before'; 0 by the template 'total and deterministic' (their statements: YtdjlflinepefbabGreatTotals.lean).
  GIVEN WITH THE SEED: the statements are not yours to turn. If you find one false, say at which input.
  Laid BY PROGRAM, IN A SANDBOX (cutbox-rows.mjs): the forced cells as the released guide's own fill.sh prints them over the translation 4ce048a582b1f6a5… (all of the seat's roots in one cut). By AI agents, Wed Nov 11 2026. No macro, syntax, notation, axiom, sorry.
-/
import Derived.Test.YtdjlflinepefbabGreatChecked
import GoSem.Claim
import GoSem.ClaimJoined
import GoSem.ClaimMapViews
import Derived.JoinedTies
import Derived.KernelRfl
namespace Go.Proofs.YtdjlflinepefbabGreat
/- THE CELL 'sum', in the pinned program and in every row, IS THE sha256 OF THE DUMP (.gsa) THAT YtdjlflinepefbabGreatProg.lean LOADS. Nothing in Lean hashes anything: it is a label: what it is worth is what the hold of that sum in a sandbox is worth. -/
noncomputable def Tryz.pinned : Pinned := { name := "ytdjlflinepefbabgreat", sum := "4ce048a582b1f6a5c6e7b697267404956c8b0105e25984576de1a5ebe38ce229", checked := Tryz.checked }
namespace Rows
def none {H : Type} : Left H := { results := [], args := [] }

/-- 'scorialaw10.TreeCow': WHATEVER THE INPUT: true; the input reads as it did. -/
def treeCowSpec : ChangeSpec := { name := "treeCow", fn := fun _ => fun
  | [d1, d2] => { results := [.lit (.bool true)], args := [d1, d2] }
  | _ => none }
def treeCowRow : OpenClaim := { program := "ytdjlflinepefbabgreat", sum := "4ce048a582b1f6a5c6e7b697267404956c8b0105e25984576de1a5ebe38ce229", func := "scoria/scorialaw10.TreeCow", spec := "treeCow", inPlace := ["slices.overlaps[scoria/tree.node]"], unfollowed := true, recurses := true, apart := false }
def TreeCowSaid : Prop := treeCowRow.holds Tryz.pinned (OpenSpec.ofChange treeCowSpec)

/-- ITS FALSE NEIGHBOUR: 'it returns false'. Refute it at one input. -/
def treeCowWrong : ChangeSpec := { name := "treeCow", fn := fun _ => fun
  | [d1, d2] => { results := [.lit (.bool false)], args := [d1, d2] }
  | _ => none }
def TreeCowWrongFalsely : Prop := treeCowRow.holds Tryz.pinned (OpenSpec.ofChange treeCowWrong)

/-- 'scorialaw10.TreeFew': WHATEVER THE INPUT: true; the input reads as it did. -/
def treeFewSpec : ChangeSpec := { name := "treeFew", fn := fun _ => fun
  | [d1, d2] => { results := [.lit (.bool true)], args := [d1, d2] }
  | _ => none }
def treeFewRow : OpenClaim := { program := "ytdjlflinepefbabgreat", sum := "4ce048a582b1f6a5c6e7b697267404956c8b0105e25984576de1a5ebe38ce229", func := "scoria/scorialaw10.TreeFew", spec := "treeFew", inPlace := ["slices.overlaps[scoria/tree.node]"], unfollowed := true, recurses := true, apart := false }
def TreeFewSaid : Prop := treeFewRow.holds Tryz.pinned (OpenSpec.ofChange treeFewSpec)

/-- ITS FALSE NEIGHBOUR: 'it returns false'. Refute it at one input. -/
def treeFewWrong : ChangeSpec := { name := "treeFew", fn := fun _ => fun
  | [d1, d2] => { results := [.lit (.bool false)], args := [d1, d2] }
  | _ => none }
def TreeFewWrongFalsely : Prop := treeFewRow.holds Tryz.pinned (OpenSpec.ofChange treeFewWrong)

/-- 'scorialaw10.TreeMoved': WHATEVER THE INPUT: true; the input reads as it did. -/
def treeMovedSpec : ChangeSpec := { name := "treeMoved", fn := fun _ => fun
  | [d1, d2, d3] => { results := [.lit (.bool true)], args := [d1, d2, d3] }
  | _ => none }
def treeMovedRow : OpenClaim := { program := "ytdjlflinepefbabgreat", sum := "4ce048a582b1f6a5c6e7b697267404956c8b0105e25984576de1a5ebe38ce229", func := "scoria/scorialaw10.TreeMoved", spec := "treeMoved", inPlace := ["slices.overlaps[scoria/tree.node]"], unfollowed := true, recurses := true, apart := false }
def TreeMovedSaid : Prop := treeMovedRow.holds Tryz.pinned (OpenSpec.ofChange treeMovedSpec)

/-- ITS FALSE NEIGHBOUR: 'it returns false'. Refute it at one input. -/
def treeMovedWrong : ChangeSpec := { name := "treeMoved", fn := fun _ => fun
  | [d1, d2, d3] => { results := [.lit (.bool false)], args := [d1, d2, d3] }
  | _ => none }
def TreeMovedWrongFalsely : Prop := treeMovedRow.holds Tryz.pinned (OpenSpec.ofChange treeMovedWrong)

/-- 'scorialaw10.TreeNil': WHATEVER THE INPUT: true; the input reads as it did. -/
def treeNilSpec : ChangeSpec := { name := "treeNil", fn := fun _ => fun
  | [d1, d2, d3] => { results := [.lit (.bool true)], args := [d1, d2, d3] }
  | _ => none }
def treeNilRow : OpenClaim := { program := "ytdjlflinepefbabgreat", sum := "4ce048a582b1f6a5c6e7b697267404956c8b0105e25984576de1a5ebe38ce229", func := "scoria/scorialaw10.TreeNil", spec := "treeNil", inPlace := ["slices.overlaps[scoria/tree.node]"], unfollowed := true, recurses := true, apart := false }
def TreeNilSaid : Prop := treeNilRow.holds Tryz.pinned (OpenSpec.ofChange treeNilSpec)

/-- ITS FALSE NEIGHBOUR: 'it returns false'. Refute it at one input. -/
def treeNilWrong : ChangeSpec := { name := "treeNil", fn := fun _ => fun
  | [d1, d2, d3] => { results := [.lit (.bool false)], args := [d1, d2, d3] }
  | _ => none }
def TreeNilWrongFalsely : Prop := treeNilRow.holds Tryz.pinned (OpenSpec.ofChange treeNilWrong)

/-- 'scorialaw10.TreeHigh': WHATEVER THE INPUT: true; the input reads as it did. -/
def treeHighSpec : ChangeSpec := { name := "treeHigh", fn := fun _ => fun
  | [d] => { results := [.lit (.bool true)], args := [d] }
  | _ => none }
def treeHighRow : OpenClaim := { program := "ytdjlflinepefbabgreat", sum := "4ce048a582b1f6a5c6e7b697267404956c8b0105e25984576de1a5ebe38ce229", func := "scoria/scorialaw10.TreeHigh", spec := "treeHigh", inPlace := ["slices.overlaps[scoria/tree.node]"], unfollowed := true, recurses := true, apart := false }
def TreeHighSaid : Prop := treeHighRow.holds Tryz.pinned (OpenSpec.ofChange treeHighSpec)

/-- ITS FALSE NEIGHBOUR: 'it returns false'. Refute it at one input. -/
def treeHighWrong : ChangeSpec := { name := "treeHigh", fn := fun _ => fun
  | [d] => { results := [.lit (.bool false)], args := [d] }
  | _ => none }
def TreeHighWrongFalsely : Prop := treeHighRow.holds Tryz.pinned (OpenSpec.ofChange treeHighWrong)

/-- 'scorialaw10.TreeEmpty': WHATEVER THE INPUT: true; the input reads as it did. -/
def treeEmptySpec : ChangeSpec := { name := "treeEmpty", fn := fun _ => fun
  | [d1, d2] => { results := [.lit (.bool true)], args := [d1, d2] }
  | _ => none }
def treeEmptyRow : OpenClaim := { program := "ytdjlflinepefbabgreat", sum := "4ce048a582b1f6a5c6e7b697267404956c8b0105e25984576de1a5ebe38ce229", func := "scoria/scorialaw10.TreeEmpty", spec := "treeEmpty", inPlace := ["slices.overlaps[scoria/tree.node]"], unfollowed := true, recurses := true, apart := false }
def TreeEmptySaid : Prop := treeEmptyRow.holds Tryz.pinned (OpenSpec.ofChange treeEmptySpec)

/-- ITS FALSE NEIGHBOUR: 'it returns false'. Refute it at one input. -/
def treeEmptyWrong : ChangeSpec := { name := "treeEmpty", fn := fun _ => fun
  | [d1, d2] => { results := [.lit (.bool false)], args := [d1, d2] }
  | _ => none }
def TreeEmptyWrongFalsely : Prop := treeEmptyRow.holds Tryz.pinned (OpenSpec.ofChange treeEmptyWrong)

/-- 'scoriatop.TopTree': WHATEVER THE INPUT: true; the input reads as it did. -/
def topTreeSpec : ChangeSpec := { name := "topTree", fn := fun _ => fun
  | [d1, d2] => { results := [.lit (.bool true)], args := [d1, d2] }
  | _ => none }
def topTreeRow : OpenClaim := { program := "ytdjlflinepefbabgreat", sum := "4ce048a582b1f6a5c6e7b697267404956c8b0105e25984576de1a5ebe38ce229", func := "scoria/scoriatop.TopTree", spec := "topTree", inPlace := ["internal/abi.NoEscape", "internal/reflectlite.TypeOf", "slices.overlaps[scoria/tree.node]"], unfollowed := true, recurses := true, apart := false }
def TopTreeSaid : Prop := topTreeRow.holds Tryz.pinned (OpenSpec.ofChange topTreeSpec)

/-- ITS FALSE NEIGHBOUR: 'it returns false'. Refute it at one input. -/
def topTreeWrong : ChangeSpec := { name := "topTree", fn := fun _ => fun
  | [d1, d2] => { results := [.lit (.bool false)], args := [d1, d2] }
  | _ => none }
def TopTreeWrongFalsely : Prop := topTreeRow.holds Tryz.pinned (OpenSpec.ofChange topTreeWrong)

/-- 'scoriatop.TopWays': WHATEVER THE INPUT: true; the input reads as it did. -/
def topWaysSpec : ChangeSpec := { name := "topWays", fn := fun _ => fun
  | [d] => { results := [.lit (.bool true)], args := [d] }
  | _ => none }
def topWaysRow : OpenClaim := { program := "ytdjlflinepefbabgreat", sum := "4ce048a582b1f6a5c6e7b697267404956c8b0105e25984576de1a5ebe38ce229", func := "scoria/scoriatop.TopWays", spec := "topWays", inPlace := ["internal/abi.NoEscape", "internal/reflectlite.TypeOf", "slices.overlaps[scoria/tree.node]"], unfollowed := true, recurses := true, apart := false }
def TopWaysSaid : Prop := topWaysRow.holds Tryz.pinned (OpenSpec.ofChange topWaysSpec)

/-- ITS FALSE NEIGHBOUR: 'it returns false'. Refute it at one input. -/
def topWaysWrong : ChangeSpec := { name := "topWays", fn := fun _ => fun
  | [d] => { results := [.lit (.bool false)], args := [d] }
  | _ => none }
def TopWaysWrongFalsely : Prop := topWaysRow.holds Tryz.pinned (OpenSpec.ofChange topWaysWrong)

/- THE SECOND FORM. 'bulk': how many values and letters a reading holds, each counted each time it is reached (what is shared counts as often as it is met; a slice's spare places count too). A statement '..UptoSaid' is the law's where the arguments, and the package variables that the reading takes, are together of bulk at most 1048576: NARROWER than '..Said'. Prove '..Said' where nothing that the law and all that it calls make is longer than what came in: it says more and counts as full. Else prove '..UptoSaid'. A law counts once. -/
mutual
def uptoBulk {H : Type} : DataW H → Nat
  | .lit (.string bytes) => bytes.length + 1
  | .lit _ => 1
  | .nil => 1
  | .ptr d => uptoBulk d + 1
  | .slice elems spare => uptoBulkAll elems + uptoBulkAll spare + 1
  | .agg parts => uptoBulkAll parts + 1
  | .iface _ d => uptoBulk d + 1
  | .map entries => uptoBulkEntries entries + 1
  | .held _ => 1
def uptoBulkAll {H : Type} : List (DataW H) → Nat
  | [] => 0
  | d :: r => uptoBulk d + uptoBulkAll r
def uptoBulkEntries {H : Type} : List (Lit × DataW H) → Nat
  | [] => 0
  | x :: r => uptoBulkEntry x + uptoBulkEntries r
def uptoBulkEntry {H : Type} : Lit × DataW H → Nat
  | (.string bytes, d) => bytes.length + uptoBulk d + 1
  | (_, d) => uptoBulk d + 1
 end
def uptoSmall : (H : Type) → List (DataW H) → Bool := fun _ ds => decide (uptoBulkAll ds ≤ 1048576)
def OpenSpec.upto (s : _root_.Go.ChangeSpec) : _root_.Go.OpenSpec := { _root_.Go.OpenSpec.ofChange s with cond := some uptoSmall }

/-- 'scorialaw10.TreeCow', WHERE WHAT IT READS IS OF BULK AT MOST 1048576: true; the input reads as it did. -/
def treeCowUptoRow : OpenClaim := { program := "ytdjlflinepefbabgreat", sum := "4ce048a582b1f6a5c6e7b697267404956c8b0105e25984576de1a5ebe38ce229", func := "scoria/scorialaw10.TreeCow", spec := "treeCow", inPlace := ["slices.overlaps[scoria/tree.node]"], unfollowed := true, recurses := true, apart := false, narrowed := true }
def TreeCowUptoSaid : Prop := treeCowUptoRow.holds Tryz.pinned (OpenSpec.upto treeCowSpec)

/-- 'scorialaw10.TreeFew', WHERE WHAT IT READS IS OF BULK AT MOST 1048576: true; the input reads as it did. -/
def treeFewUptoRow : OpenClaim := { program := "ytdjlflinepefbabgreat", sum := "4ce048a582b1f6a5c6e7b697267404956c8b0105e25984576de1a5ebe38ce229", func := "scoria/scorialaw10.TreeFew", spec := "treeFew", inPlace := ["slices.overlaps[scoria/tree.node]"], unfollowed := true, recurses := true, apart := false, narrowed := true }
def TreeFewUptoSaid : Prop := treeFewUptoRow.holds Tryz.pinned (OpenSpec.upto treeFewSpec)

/-- 'scorialaw10.TreeMoved', WHERE WHAT IT READS IS OF BULK AT MOST 1048576: true; the input reads as it did. -/
def treeMovedUptoRow : OpenClaim := { program := "ytdjlflinepefbabgreat", sum := "4ce048a582b1f6a5c6e7b697267404956c8b0105e25984576de1a5ebe38ce229", func := "scoria/scorialaw10.TreeMoved", spec := "treeMoved", inPlace := ["slices.overlaps[scoria/tree.node]"], unfollowed := true, recurses := true, apart := false, narrowed := true }
def TreeMovedUptoSaid : Prop := treeMovedUptoRow.holds Tryz.pinned (OpenSpec.upto treeMovedSpec)

/-- 'scorialaw10.TreeNil', WHERE WHAT IT READS IS OF BULK AT MOST 1048576: true; the input reads as it did. -/
def treeNilUptoRow : OpenClaim := { program := "ytdjlflinepefbabgreat", sum := "4ce048a582b1f6a5c6e7b697267404956c8b0105e25984576de1a5ebe38ce229", func := "scoria/scorialaw10.TreeNil", spec := "treeNil", inPlace := ["slices.overlaps[scoria/tree.node]"], unfollowed := true, recurses := true, apart := false, narrowed := true }
def TreeNilUptoSaid : Prop := treeNilUptoRow.holds Tryz.pinned (OpenSpec.upto treeNilSpec)

/-- 'scorialaw10.TreeHigh', WHERE WHAT IT READS IS OF BULK AT MOST 1048576: true; the input reads as it did. -/
def treeHighUptoRow : OpenClaim := { program := "ytdjlflinepefbabgreat", sum := "4ce048a582b1f6a5c6e7b697267404956c8b0105e25984576de1a5ebe38ce229", func := "scoria/scorialaw10.TreeHigh", spec := "treeHigh", inPlace := ["slices.overlaps[scoria/tree.node]"], unfollowed := true, recurses := true, apart := false, narrowed := true }
def TreeHighUptoSaid : Prop := treeHighUptoRow.holds Tryz.pinned (OpenSpec.upto treeHighSpec)

/-- 'scorialaw10.TreeEmpty', WHERE WHAT IT READS IS OF BULK AT MOST 1048576: true; the input reads as it did. -/
def treeEmptyUptoRow : OpenClaim := { program := "ytdjlflinepefbabgreat", sum := "4ce048a582b1f6a5c6e7b697267404956c8b0105e25984576de1a5ebe38ce229", func := "scoria/scorialaw10.TreeEmpty", spec := "treeEmpty", inPlace := ["slices.overlaps[scoria/tree.node]"], unfollowed := true, recurses := true, apart := false, narrowed := true }
def TreeEmptyUptoSaid : Prop := treeEmptyUptoRow.holds Tryz.pinned (OpenSpec.upto treeEmptySpec)

/-- 'scoriatop.TopTree', WHERE WHAT IT READS IS OF BULK AT MOST 1048576: true; the input reads as it did. -/
def topTreeUptoRow : OpenClaim := { program := "ytdjlflinepefbabgreat", sum := "4ce048a582b1f6a5c6e7b697267404956c8b0105e25984576de1a5ebe38ce229", func := "scoria/scoriatop.TopTree", spec := "topTree", inPlace := ["internal/abi.NoEscape", "internal/reflectlite.TypeOf", "slices.overlaps[scoria/tree.node]"], unfollowed := true, recurses := true, apart := false, narrowed := true }
def TopTreeUptoSaid : Prop := topTreeUptoRow.holds Tryz.pinned (OpenSpec.upto topTreeSpec)

/-- 'scoriatop.TopWays', WHERE WHAT IT READS IS OF BULK AT MOST 1048576: true; the input reads as it did. -/
def topWaysUptoRow : OpenClaim := { program := "ytdjlflinepefbabgreat", sum := "4ce048a582b1f6a5c6e7b697267404956c8b0105e25984576de1a5ebe38ce229", func := "scoria/scoriatop.TopWays", spec := "topWays", inPlace := ["internal/abi.NoEscape", "internal/reflectlite.TypeOf", "slices.overlaps[scoria/tree.node]"], unfollowed := true, recurses := true, apart := false, narrowed := true }
def TopWaysUptoSaid : Prop := topWaysUptoRow.holds Tryz.pinned (OpenSpec.upto topWaysSpec)

end Rows
end Go.Proofs.YtdjlflinepefbabGreat
