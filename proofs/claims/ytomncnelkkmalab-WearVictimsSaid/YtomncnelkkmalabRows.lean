/-
  No cell of these rows narrows 'for every input' (looked for: loops, veiled, ifaces, maps, wideKeys, modest, calm, conditions, laid).
  DERIVED. THE GIVEN ROWS OF THIS SEAT. 6 by the template 'for every input the law returns true; each argument reads behind the call as it read before'; 0 by the template 'total and deterministic' (their statements: YtomncnelkkmalabTotals.lean).
  GIVEN WITH THE SEED: the statements are not yours to turn. If you find one false, say at which input.
  Laid BY PROGRAM, IN A SANDBOX (cutbox-rows.mjs): the forced cells as the released guide's own fill.sh prints them over the translation c934abc8d3c3f972… (all of the seat's roots in one cut). By AI agents, Wed Nov 11 2026. No macro, syntax, notation, axiom, sorry.
-/
import Derived.Test.YtomncnelkkmalabChecked
import GoSem.Claim
import GoSem.ClaimJoined
import GoSem.ClaimMapViews
import Derived.JoinedTies
import Derived.KernelRfl
namespace Go.Proofs.Ytomncnelkkmalab
/- THE CELL 'sum', in the pinned program and in every row, IS THE sha256 OF THE DUMP (.gsa) THAT YtomncnelkkmalabProg.lean LOADS. Nothing in Lean hashes anything: it is a label: what it is worth is what the hold of that sum in a sandbox is worth. -/
noncomputable def Try.pinned : Pinned := { name := "ytomncnelkkmalab", sum := "c934abc8d3c3f9723c13236b4991379c5beb492329013a48dd4ec70ac1a17e78", checked := Try.checked }
namespace Rows
def none {H : Type} : Left H := { results := [], args := [] }

/-- 'scorialaw07.ExtOnce': WHATEVER THE INPUT: true; the input reads as it did. -/
def extOnceSpec : ChangeSpec := { name := "extOnce", fn := fun _ => fun
  | [d1, d2, d3] => { results := [.lit (.bool true)], args := [d1, d2, d3] }
  | _ => none }
def extOnceRow : OpenClaim := { program := "ytomncnelkkmalab", sum := "c934abc8d3c3f9723c13236b4991379c5beb492329013a48dd4ec70ac1a17e78", func := "scoria/scorialaw07.ExtOnce", spec := "extOnce", apart := false }
def ExtOnceSaid : Prop := extOnceRow.holds Try.pinned (OpenSpec.ofChange extOnceSpec)

/-- ITS FALSE NEIGHBOUR: 'it returns false'. Refute it at one input. -/
def extOnceWrong : ChangeSpec := { name := "extOnce", fn := fun _ => fun
  | [d1, d2, d3] => { results := [.lit (.bool false)], args := [d1, d2, d3] }
  | _ => none }
def ExtOnceWrongFalsely : Prop := extOnceRow.holds Try.pinned (OpenSpec.ofChange extOnceWrong)

/-- 'scorialaw07.ExtWhole': WHATEVER THE INPUT: true; the input reads as it did. -/
def extWholeSpec : ChangeSpec := { name := "extWhole", fn := fun _ => fun
  | [d1, d2, d3] => { results := [.lit (.bool true)], args := [d1, d2, d3] }
  | _ => none }
def extWholeRow : OpenClaim := { program := "ytomncnelkkmalab", sum := "c934abc8d3c3f9723c13236b4991379c5beb492329013a48dd4ec70ac1a17e78", func := "scoria/scorialaw07.ExtWhole", spec := "extWhole", apart := false }
def ExtWholeSaid : Prop := extWholeRow.holds Try.pinned (OpenSpec.ofChange extWholeSpec)

/-- ITS FALSE NEIGHBOUR: 'it returns false'. Refute it at one input. -/
def extWholeWrong : ChangeSpec := { name := "extWhole", fn := fun _ => fun
  | [d1, d2, d3] => { results := [.lit (.bool false)], args := [d1, d2, d3] }
  | _ => none }
def ExtWholeWrongFalsely : Prop := extWholeRow.holds Try.pinned (OpenSpec.ofChange extWholeWrong)

/-- 'scorialaw07.ExtMoves': WHATEVER THE INPUT: true; the input reads as it did. -/
def extMovesSpec : ChangeSpec := { name := "extMoves", fn := fun _ => fun
  | [d1, d2, d3] => { results := [.lit (.bool true)], args := [d1, d2, d3] }
  | _ => none }
def extMovesRow : OpenClaim := { program := "ytomncnelkkmalab", sum := "c934abc8d3c3f9723c13236b4991379c5beb492329013a48dd4ec70ac1a17e78", func := "scoria/scorialaw07.ExtMoves", spec := "extMoves", unfollowed := true, recurses := true, apart := false }
def ExtMovesSaid : Prop := extMovesRow.holds Try.pinned (OpenSpec.ofChange extMovesSpec)

/-- ITS FALSE NEIGHBOUR: 'it returns false'. Refute it at one input. -/
def extMovesWrong : ChangeSpec := { name := "extMoves", fn := fun _ => fun
  | [d1, d2, d3] => { results := [.lit (.bool false)], args := [d1, d2, d3] }
  | _ => none }
def ExtMovesWrongFalsely : Prop := extMovesRow.holds Try.pinned (OpenSpec.ofChange extMovesWrong)

/-- 'scorialaw07.ExtOrder': WHATEVER THE INPUT: true; the input reads as it did. -/
def extOrderSpec : ChangeSpec := { name := "extOrder", fn := fun _ => fun
  | [d1, d2, d3] => { results := [.lit (.bool true)], args := [d1, d2, d3] }
  | _ => none }
def extOrderRow : OpenClaim := { program := "ytomncnelkkmalab", sum := "c934abc8d3c3f9723c13236b4991379c5beb492329013a48dd4ec70ac1a17e78", func := "scoria/scorialaw07.ExtOrder", spec := "extOrder", apart := false }
def ExtOrderSaid : Prop := extOrderRow.holds Try.pinned (OpenSpec.ofChange extOrderSpec)

/-- ITS FALSE NEIGHBOUR: 'it returns false'. Refute it at one input. -/
def extOrderWrong : ChangeSpec := { name := "extOrder", fn := fun _ => fun
  | [d1, d2, d3] => { results := [.lit (.bool false)], args := [d1, d2, d3] }
  | _ => none }
def ExtOrderWrongFalsely : Prop := extOrderRow.holds Try.pinned (OpenSpec.ofChange extOrderWrong)

/-- 'scorialaw08.WearPicks': WHATEVER THE INPUT: true; the input reads as it did. -/
def wearPicksSpec : ChangeSpec := { name := "wearPicks", fn := fun _ => fun
  | [d1, d2] => { results := [.lit (.bool true)], args := [d1, d2] }
  | _ => none }
def wearPicksRow : OpenClaim := { program := "ytomncnelkkmalab", sum := "c934abc8d3c3f9723c13236b4991379c5beb492329013a48dd4ec70ac1a17e78", func := "scoria/scorialaw08.WearPicks", spec := "wearPicks", unfollowed := true, recurses := true, apart := false }
def WearPicksSaid : Prop := wearPicksRow.holds Try.pinned (OpenSpec.ofChange wearPicksSpec)

/-- ITS FALSE NEIGHBOUR: 'it returns false'. Refute it at one input. -/
def wearPicksWrong : ChangeSpec := { name := "wearPicks", fn := fun _ => fun
  | [d1, d2] => { results := [.lit (.bool false)], args := [d1, d2] }
  | _ => none }
def WearPicksWrongFalsely : Prop := wearPicksRow.holds Try.pinned (OpenSpec.ofChange wearPicksWrong)

/-- 'scorialaw08.WearVictims': WHATEVER THE INPUT: true; the input reads as it did. -/
def wearVictimsSpec : ChangeSpec := { name := "wearVictims", fn := fun _ => fun
  | [d] => { results := [.lit (.bool true)], args := [d] }
  | _ => none }
def wearVictimsRow : OpenClaim := { program := "ytomncnelkkmalab", sum := "c934abc8d3c3f9723c13236b4991379c5beb492329013a48dd4ec70ac1a17e78", func := "scoria/scorialaw08.WearVictims", spec := "wearVictims", unfollowed := true, recurses := true, apart := false }
def WearVictimsSaid : Prop := wearVictimsRow.holds Try.pinned (OpenSpec.ofChange wearVictimsSpec)

/-- ITS FALSE NEIGHBOUR: 'it returns false'. Refute it at one input. -/
def wearVictimsWrong : ChangeSpec := { name := "wearVictims", fn := fun _ => fun
  | [d] => { results := [.lit (.bool false)], args := [d] }
  | _ => none }
def WearVictimsWrongFalsely : Prop := wearVictimsRow.holds Try.pinned (OpenSpec.ofChange wearVictimsWrong)

/- THE SECOND FORM. 'bulk': how many values and letters a reading holds, each counted each time it is reached (what is shared counts as often as it is met; a slice's spare places count too). A statement '..UptoSaid' is the law's where the arguments, and the package variables that the reading takes, are together of bulk at most 1048576: NARROWER than '..Said'. Prove '..Said' where nothing that the law and all that it calls make is longer than what came in: it says more and counts as full. Else prove '..UptoSaid'. A law counts once. -/
mutual
def uptoBulk {H : Type} : DataW H → Nat
  | .lit (.string bytes) => bytes.length + 1
  | .lit _ => 1
  | .nil => 1
  | .ptr d => uptoBulk d + 1
  | .slice elems spare => uptoBulkAll elems + uptoBulkAll spare + 1
  | .agg parts => uptoBulkAll parts + 1
  | .iface _ d => uptoBulk d + 1
  | .map entries => uptoBulkEntries entries + 1
  | .held _ => 1
def uptoBulkAll {H : Type} : List (DataW H) → Nat
  | [] => 0
  | d :: r => uptoBulk d + uptoBulkAll r
def uptoBulkEntries {H : Type} : List (Lit × DataW H) → Nat
  | [] => 0
  | x :: r => uptoBulkEntry x + uptoBulkEntries r
def uptoBulkEntry {H : Type} : Lit × DataW H → Nat
  | (.string bytes, d) => bytes.length + uptoBulk d + 1
  | (_, d) => uptoBulk d + 1
 end
def uptoSmall : (H : Type) → List (DataW H) → Bool := fun _ ds => decide (uptoBulkAll ds ≤ 1048576)
def OpenSpec.upto (s : _root_.Go.ChangeSpec) : _root_.Go.OpenSpec := { _root_.Go.OpenSpec.ofChange s with cond := some uptoSmall }

/-- 'scorialaw07.ExtOnce', WHERE WHAT IT READS IS OF BULK AT MOST 1048576: true; the input reads as it did. -/
def extOnceUptoRow : OpenClaim := { program := "ytomncnelkkmalab", sum := "c934abc8d3c3f9723c13236b4991379c5beb492329013a48dd4ec70ac1a17e78", func := "scoria/scorialaw07.ExtOnce", spec := "extOnce", apart := false, narrowed := true }
def ExtOnceUptoSaid : Prop := extOnceUptoRow.holds Try.pinned (OpenSpec.upto extOnceSpec)

/-- 'scorialaw07.ExtWhole', WHERE WHAT IT READS IS OF BULK AT MOST 1048576: true; the input reads as it did. -/
def extWholeUptoRow : OpenClaim := { program := "ytomncnelkkmalab", sum := "c934abc8d3c3f9723c13236b4991379c5beb492329013a48dd4ec70ac1a17e78", func := "scoria/scorialaw07.ExtWhole", spec := "extWhole", apart := false, narrowed := true }
def ExtWholeUptoSaid : Prop := extWholeUptoRow.holds Try.pinned (OpenSpec.upto extWholeSpec)

/-- 'scorialaw07.ExtMoves', WHERE WHAT IT READS IS OF BULK AT MOST 1048576: true; the input reads as it did. -/
def extMovesUptoRow : OpenClaim := { program := "ytomncnelkkmalab", sum := "c934abc8d3c3f9723c13236b4991379c5beb492329013a48dd4ec70ac1a17e78", func := "scoria/scorialaw07.ExtMoves", spec := "extMoves", unfollowed := true, recurses := true, apart := false, narrowed := true }
def ExtMovesUptoSaid : Prop := extMovesUptoRow.holds Try.pinned (OpenSpec.upto extMovesSpec)

/-- 'scorialaw07.ExtOrder', WHERE WHAT IT READS IS OF BULK AT MOST 1048576: true; the input reads as it did. -/
def extOrderUptoRow : OpenClaim := { program := "ytomncnelkkmalab", sum := "c934abc8d3c3f9723c13236b4991379c5beb492329013a48dd4ec70ac1a17e78", func := "scoria/scorialaw07.ExtOrder", spec := "extOrder", apart := false, narrowed := true }
def ExtOrderUptoSaid : Prop := extOrderUptoRow.holds Try.pinned (OpenSpec.upto extOrderSpec)

/-- 'scorialaw08.WearPicks', WHERE WHAT IT READS IS OF BULK AT MOST 1048576: true; the input reads as it did. -/
def wearPicksUptoRow : OpenClaim := { program := "ytomncnelkkmalab", sum := "c934abc8d3c3f9723c13236b4991379c5beb492329013a48dd4ec70ac1a17e78", func := "scoria/scorialaw08.WearPicks", spec := "wearPicks", unfollowed := true, recurses := true, apart := false, narrowed := true }
def WearPicksUptoSaid : Prop := wearPicksUptoRow.holds Try.pinned (OpenSpec.upto wearPicksSpec)

/-- 'scorialaw08.WearVictims', WHERE WHAT IT READS IS OF BULK AT MOST 1048576: true; the input reads as it did. -/
def wearVictimsUptoRow : OpenClaim := { program := "ytomncnelkkmalab", sum := "c934abc8d3c3f9723c13236b4991379c5beb492329013a48dd4ec70ac1a17e78", func := "scoria/scorialaw08.WearVictims", spec := "wearVictims", unfollowed := true, recurses := true, apart := false, narrowed := true }
def WearVictimsUptoSaid : Prop := wearVictimsUptoRow.holds Try.pinned (OpenSpec.upto wearVictimsSpec)

end Rows
end Go.Proofs.Ytomncnelkkmalab
