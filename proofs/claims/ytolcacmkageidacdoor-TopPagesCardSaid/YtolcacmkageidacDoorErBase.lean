/- How an error lies in memory, as a tree; and what the model's own entries for internal/reflectlite answer at the two targets that package fault hands to errors.As. No condition but those that each theorem names. -/
import Derived.Test.YtolcacmkageidacDoorProg
import Derived.Test.YtolcacmkageidacDoorErMath
import Derived.WalkKit
import Derived.LaidEql
import Derived.LaidEqlPtr
import Derived.Stop.Asserts
import Derived.RowKitTokens
import Derived.Below
import Derived.Lib.Hide
import Derived.Deep.LoopGhost
namespace Go.Proofs.YtolcacmkageidacDoor
namespace ER
open Go.RowKit Go.Extern.Stop Go.Stop Go.Extern
set_option linter.unusedVariables false
set_option linter.unusedSimpArgs false

/-- The value v is the error E in the world w, all that it is made of in blocks that meet P. -/
def IsErrP (w : World) (P : Nat → Prop) : Er → Value → Prop
  | .num c, v => v = .iface 26 (.int .i64 c) ∧ (Lit.int .i64 c).wf = true
  | .str, _ => False
  | .fault op n e, v => ∃ b x, v = .iface 87 (.pointer (some ⟨b, 0, none⟩)) ∧ P b ∧ w.heap[b]? = some (.cells #[.string op, .int .i64 n, x] 91 (0, 0)) ∧ (Lit.int .i64 n).wf = true ∧ op.size ≤ maxLen ∧ IsErrP w P e x
  | .join _ _, _ => False
/-- .. in blocks below B. -/
def IsErr (w : World) (B : Nat) (E : Er) (v : Value) : Prop := IsErrP w (fun b => b < B) E v

theorem IsErrP.keep {w w' : World} {P : Nat → Prop} (hk : ∀ k, P k → w'.heap[k]? = w.heap[k]?) : ∀ {E : Er} {v : Value}, IsErrP w P E v → IsErrP w' P E v := by
  intro E
  induction E with
  | num c => intro v h; exact h
  | str => intro v h; exact h
  | fault op n e ih =>
    rintro v ⟨b, x, hv, hb, hh, hn, hs, he⟩
    exact ⟨b, x, hv, hb, by rw [hk b hb]; exact hh, hn, hs, ih he⟩
  | join n k ih =>
    intro v h; exact h
theorem IsErrP.more {w : World} {P P' : Nat → Prop} (hP : ∀ k, P k → P' k) : ∀ {E : Er} {v : Value}, IsErrP w P E v → IsErrP w P' E v := by
  intro E
  induction E with
  | num c => intro v h; exact h
  | str =>
    intro v h; exact h
  | fault op n e ih =>
    rintro v ⟨b, x, hv, hb, hh, hn, hs, he⟩
    exact ⟨b, x, hv, hP b hb, hh, hn, hs, ih he⟩
  | join n k ih =>
    intro v h; exact h
theorem IsErrP.iface {w : World} {P : Nat → Prop} {E : Er} {v : Value} (h : IsErrP w P E v) : ∃ t x, v = .iface t x := by
  cases E with
  | num c => exact ⟨_, _, h.1⟩
  | str =>
    exact h.elim
  | fault op n e => obtain ⟨b, x, hv, _⟩ := h; exact ⟨_, _, hv⟩
  | join n k =>
    exact h.elim
theorem IsErrP.isErr {w : World} {P : Nat → Prop} {B : Nat} {E : Er} {v : Value} (h : IsErrP w P E v) (hP : ∀ k, P k → k < B) : IsErr w B E v := h.more hP
theorem IsErrP.below {w w' : World} {B : Nat} {E : Er} {v : Value} (h : IsErrP w (fun b => b < B) E v) (hb : Below B w w') : IsErr w' B E v := IsErrP.keep hb.block h
theorem IsErr.keep {w w' : World} {B : Nat} (hk : ∀ k, k < B → w'.heap[k]? = w.heap[k]?) {E : Er} {v : Value} (h : IsErr w B E v) : IsErr w' B E v := IsErrP.keep hk h
theorem IsErr.below {w w' : World} {B : Nat} {E : Er} {v : Value} (h : IsErr w B E v) (hb : Below B w w') : IsErr w' B E v := h.keep hb.block
theorem IsErr.more {w : World} {B B' : Nat} (hB : B ≤ B') {E : Er} {v : Value} (h : IsErr w B E v) : IsErr w B' E v := IsErrP.more (fun k hk => Nat.lt_of_lt_of_le hk hB) h
theorem IsErr.drew {w : World} {B : Nat} {E : Er} {v : Value} (h : IsErr w B E v) : IsErr w.drew B E v := IsErr.keep (w := w) (w' := w.drew) (fun k _ => rfl) h
theorem IsErr.iface {w : World} {B : Nat} {E : Er} {v : Value} (h : IsErr w B E v) : ∃ t x, v = .iface t x := IsErrP.iface h

/-! ### The method sets: what the assertions of errors.as and errors.is find -/
theorem noAsN (v : Value) (xT : TypeId) (w : World) : (Instr.typeAssert (.iface 26 v) xT 129 true).run Tryd.prog w = .ok (.tuple #[.nilIface, .bool false]) w := run_typeAssert_lacksB Tryd.underlying129 (by kernel_rfl) (by kernel_rfl) v xT w
theorem noAsF (v : Value) (xT : TypeId) (w : World) : (Instr.typeAssert (.iface 87 v) xT 129 true).run Tryd.prog w = .ok (.tuple #[.nilIface, .bool false]) w := run_typeAssert_lacksB Tryd.underlying129 (by kernel_rfl) (by kernel_rfl) v xT w
theorem noUnN (v : Value) (xT : TypeId) (w : World) : (Instr.typeAssert (.iface 26 v) xT 132 true).run Tryd.prog w = .ok (.tuple #[.nilIface, .bool false]) w := run_typeAssert_lacksB Tryd.underlying132 (by kernel_rfl) (by kernel_rfl) v xT w
theorem noUnsN (v : Value) (xT : TypeId) (w : World) : (Instr.typeAssert (.iface 26 v) xT 133 true).run Tryd.prog w = .ok (.tuple #[.nilIface, .bool false]) w := run_typeAssert_lacksB Tryd.underlying133 (by kernel_rfl) (by kernel_rfl) v xT w
theorem hasUnF (v : Value) (xT : TypeId) (w : World) : (Instr.typeAssert (.iface 87 v) xT 132 true).run Tryd.prog w = .ok (.tuple #[.iface 87 v, .bool true]) w := run_typeAssert_hasB Tryd.underlying132 (by kernel_rfl) v xT w
theorem methodUnF (v : Value) (w : World) : (Go.method 274 87 v "Unwrap").run Tryd.prog w = .ok (94, v) w := by kernel_rfl

/-! ### internal/reflectlite's types: the methods of a type's handle -/
theorem rtKind (h : Value) (w : World) : (Go.method 274 124 (.agg #[h]) "Kind").run Tryd.prog w = .ok (88, h) w := by kernel_rfl
theorem rtElem (h : Value) (w : World) : (Go.method 274 124 (.agg #[h]) "Elem").run Tryd.prog w = .ok (101, .agg #[h]) w := by kernel_rfl
theorem rtImplements (h : Value) (w : World) : (Go.method 274 124 (.agg #[h]) "Implements").run Tryd.prog w = .ok (102, .agg #[h]) w := by kernel_rfl
theorem rtAssignableTo (h : Value) (w : World) : (Go.method 274 124 (.agg #[h]) "AssignableTo").run Tryd.prog w = .ok (99, .agg #[h]) w := by kernel_rfl
theorem rtComparable (h : Value) (w : World) : (Go.method 274 124 (.agg #[h]) "Comparable").run Tryd.prog w = .ok (100, .agg #[h]) w := by kernel_rfl
theorem typeOfN (v : Value) (w : World) : (ReflectliteType.typeOf #[.iface 26 v]).run Tryd.prog w = .ok (.iface 124 (.agg #[.pointer (some ⟨1, 26, none⟩)])) w := by kernel_rfl
theorem typeOfF (v : Value) (w : World) : (ReflectliteType.typeOf #[.iface 87 v]).run Tryd.prog w = .ok (.iface 124 (.agg #[.pointer (some ⟨1, 87, none⟩)])) w := by kernel_rfl
theorem comparableN (w : World) : ((ReflectliteType.method fun t => do Rtype.noPackHeld "Comparable" t; (fun a => Value.bool a.comparable) <$> typeInfo t) #[.agg #[.pointer (some ⟨1, 26, none⟩)]]).run Tryd.prog w = .ok (.bool true) w := by kernel_rfl

/-- The entries, by their numbers. -/
theorem entValueOf (args : Array Value) (w : World) : (callFunc 48 args).run Tryd.prog w = (Sem.run Tryd.prog ((fun args => ReflectliteValue.unpack (args.getD 0 (.tuple #[])) : Array Value → Sem Value) args) w).andThen fun v w' => .ok (.value v) w' :=
  run_callFunc_extern (e := (fun args => ReflectliteValue.unpack (args.getD 0 (.tuple #[])))) Tryd.func48 (by kernel_rfl) (by kernel_rfl) (by kernel_rfl) (by kernel_rfl) args w
theorem entType (args : Array Value) (w : World) : (callFunc 49 args).run Tryd.prog w = (Sem.run Tryd.prog ((ReflectliteValue.methodAny (ReflectliteValue.valueError "reflectlite.Value.Type" 0) (fun t _ _ _ => ReflectliteType.toType t) : Array Value → Sem Value) args) w).andThen fun v w' => .ok (.value v) w' :=
  run_callFunc_extern (e := (ReflectliteValue.methodAny (ReflectliteValue.valueError "reflectlite.Value.Type" 0) (fun t _ _ _ => ReflectliteType.toType t))) Tryd.func49 (by kernel_rfl) (by kernel_rfl) (by kernel_rfl) (by kernel_rfl) args w
theorem entIsNil (args : Array Value) (w : World) : (callFunc 50 args).run Tryd.prog w = (Sem.run Tryd.prog ((ReflectliteValue.method (ReflectliteValue.valueError "reflectlite.Value.IsNil" 0) ReflectliteValue.isNil : Array Value → Sem Value) args) w).andThen fun v w' => .ok (.value v) w' :=
  run_callFunc_extern (e := (ReflectliteValue.method (ReflectliteValue.valueError "reflectlite.Value.IsNil" 0) ReflectliteValue.isNil)) Tryd.func50 (by kernel_rfl) (by kernel_rfl) (by kernel_rfl) (by kernel_rfl) args w
theorem entKind (args : Array Value) (w : World) : (callFunc 88 args).run Tryd.prog w = (Sem.run Tryd.prog ((ReflectliteType.abiMethod fun t => do pure (.int .u8 (← Rtype.kind t)) : Array Value → Sem Value) args) w).andThen fun v w' => .ok (.value v) w' :=
  run_callFunc_extern (e := (ReflectliteType.abiMethod fun t => do pure (.int .u8 (← Rtype.kind t)))) Tryd.func88 (by kernel_rfl) (by kernel_rfl) (by kernel_rfl) (by kernel_rfl) args w
theorem entElemT (args : Array Value) (w : World) : (callFunc 101 args).run Tryd.prog w = (Sem.run Tryd.prog ((ReflectliteType.method ReflectliteType.elem : Array Value → Sem Value) args) w).andThen fun v w' => .ok (.value v) w' :=
  run_callFunc_extern (e := (ReflectliteType.method ReflectliteType.elem)) Tryd.func101 (by kernel_rfl) (by kernel_rfl) (by kernel_rfl) (by kernel_rfl) args w
theorem entImplements (args : Array Value) (w : World) : (callFunc 102 args).run Tryd.prog w = (Sem.run Tryd.prog ((ReflectliteType.relation "Implements" ReflectliteType.implements_ : Array Value → Sem Value) args) w).andThen fun v w' => .ok (.value v) w' :=
  run_callFunc_extern (e := (ReflectliteType.relation "Implements" ReflectliteType.implements_)) Tryd.func102 (by kernel_rfl) (by kernel_rfl) (by kernel_rfl) (by kernel_rfl) args w
theorem entTypeOf (args : Array Value) (w : World) : (callFunc 64 args).run Tryd.prog w = (Sem.run Tryd.prog ((ReflectliteType.typeOf : Array Value → Sem Value) args) w).andThen fun v w' => .ok (.value v) w' :=
  run_callFunc_extern (e := (ReflectliteType.typeOf)) Tryd.func64 (by kernel_rfl) (by kernel_rfl) (by kernel_rfl) (by kernel_rfl) args w
theorem entAssignableTo (args : Array Value) (w : World) : (callFunc 99 args).run Tryd.prog w = (Sem.run Tryd.prog ((ReflectliteType.relation "AssignableTo" ReflectliteType.assignableTo : Array Value → Sem Value) args) w).andThen fun v w' => .ok (.value v) w' :=
  run_callFunc_extern (e := (ReflectliteType.relation "AssignableTo" ReflectliteType.assignableTo)) Tryd.func99 (by kernel_rfl) (by kernel_rfl) (by kernel_rfl) (by kernel_rfl) args w
theorem entElem (args : Array Value) (w : World) : (callFunc 65 args).run Tryd.prog w = (Sem.run Tryd.prog ((ReflectliteValue.method (ReflectliteValue.valueError "reflectlite.Value.Elem" 0) ReflectliteValue.elem : Array Value → Sem Value) args) w).andThen fun v w' => .ok (.value v) w' :=
  run_callFunc_extern (e := (ReflectliteValue.method (ReflectliteValue.valueError "reflectlite.Value.Elem" 0) ReflectliteValue.elem)) Tryd.func65 (by kernel_rfl) (by kernel_rfl) (by kernel_rfl) (by kernel_rfl) args w
theorem entSet (args : Array Value) (w : World) : (callFunc 66 args).run Tryd.prog w = (Sem.run Tryd.prog ((ReflectliteValue.set : Array Value → Sem Value) args) w).andThen fun v w' => .ok (.value v) w' :=
  run_callFunc_extern (e := (ReflectliteValue.set)) Tryd.func66 (by kernel_rfl) (by kernel_rfl) (by kernel_rfl) (by kernel_rfl) args w
theorem entComparable (args : Array Value) (w : World) : (callFunc 100 args).run Tryd.prog w = (Sem.run Tryd.prog ((ReflectliteType.method fun t => do Rtype.noPackHeld "Comparable" t; pure (.bool (← typeInfo t).comparable) : Array Value → Sem Value) args) w).andThen fun v w' => .ok (.value v) w' :=
  run_callFunc_extern (e := (ReflectliteType.method fun t => do Rtype.noPackHeld "Comparable" t; pure (.bool (← typeInfo t).comparable))) Tryd.func100 (by kernel_rfl) (by kernel_rfl) (by kernel_rfl) (by kernel_rfl) args w

/-- The unfoldings of the entries that read or write memory. -/
theorem rlm (z : Sem Value) (f : TypeId → Addr → Nat → Nat → Sem Value) (v : Value) :
    ReflectliteValue.method z f #[v] = (do match ← ReflectliteValue.parts v with | none => z | some (t, a, fl) => f t a fl (fl % 32)) := rfl
theorem rls (v x : Value) : ReflectliteValue.set #[v, x] = (do
    let (some (dst, a, fl), some (src, b, _)) := (← ReflectliteValue.parts v, ← ReflectliteValue.parts x)
      | unsupported (.noEntry "extern/(internal/reflectlite.Value).Set.zeroValue")
    if fl / ReflectliteValue.flagAddr % 2 == 0 then unsupported (.noEntry "extern/(internal/reflectlite.Value).Set.unaddressable")
    let val ← loadVar src b
    if ← Rtype.directlyAssignable dst src then storeVar dst a val
    else if ← Rtype.implements dst src then
      if (← Rtype.kind src) == 20 then
        match val with
        | .nilIface => unsupported (.noEntry "extern/reflectlite: a nil value of one interface type handed on as a value of another")
        | _ => storeVar dst a val
      else storeVar dst a (.iface src val)
    else panicString ("reflectlite.Set: value of type " ++ (← Rtype.spelt src) ++ " is not assignable to type " ++ (← Rtype.spelt dst))
    pure (.tuple #[])) := rfl
end ER
end Go.Proofs.YtolcacmkageidacDoor
