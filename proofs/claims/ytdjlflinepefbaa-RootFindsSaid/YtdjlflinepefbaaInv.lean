/- A region that draws its order, whose operations read and whose calls keep a condition on the world (they may make memory): one walk in the order of the text serves every order, guards and all. No program. -/
import Derived.WalkKit
import Derived.BigQuiet
import Derived.Below
namespace Go.Proofs.Ytdjlflinepefbaa
namespace MM
open Go.RowKit
set_option linter.unusedVariables false

/-- A world that meets a condition. -/
structure Wd (I : World → Prop) where
  w : World
  ok : I w
theorem wp_region_inv {P : Program} {id : Nat} {Q : Exit → Act → World → Prop} {a : Act} {w : World} {l : List Oper} (I : World → Prop) (hm : P.follows .mixedOrders = true) (hB : Region.lexB .any l.toArray = true) (hI : I w.drew)
    (h : wpQuiet P l.toArray (fun w' => ∃ x : Wd I, w' = x.w) (fun a' => ∀ w', (∃ x : Wd I, w' = x.w) → Q .normal a' w') l a) : (Code.region id l.toArray true).wp P Q a w :=
  wp_region_quiet (C := fun w' => ∃ x : Wd I, w' = x.w) hm hB ⟨⟨_, hI⟩, rfl⟩ (by simpa using h)
/-- A call that makes memory keeps the condition. -/
theorem inv_call {P : Program} {f : FuncId} {args : Array Value} {I : World → Prop} {v : Value} (x : Wd I) (hk : ∀ w w', I w → Below w.heap.size w w' → I w')
    (h : Calls P f args x.w fun e w' => e = .returned v ∧ Below x.w.heap.size x.w w') : Calls P f args x.w fun e w' => e = .returned v ∧ ∃ y : Wd I, w' = y.w :=
  h.mono fun _ w' ⟨he, hb⟩ => ⟨he, ⟨w', hk _ _ x.ok hb⟩, rfl⟩
theorem inv_call_same {P : Program} {f : FuncId} {args : Array Value} {I : World → Prop} {v : Value} (x : Wd I)
    (h : Calls P f args x.w fun e w' => e = .returned v ∧ x.w = w') : Calls P f args x.w fun e w' => e = .returned v ∧ ∃ y : Wd I, w' = y.w :=
  h.mono fun _ w' ⟨he, hb⟩ => ⟨he, x, hb.symm⟩
end MM
end Go.Proofs.Ytdjlflinepefbaa
