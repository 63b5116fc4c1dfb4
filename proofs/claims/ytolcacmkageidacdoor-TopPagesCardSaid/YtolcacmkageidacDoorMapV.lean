/- A map keyed by an int, of whatever values, as a function of its keys. No program. -/
import Derived.Test.YtolcacmkageidacDoorMem
import Derived.Maps.OwnSet
namespace Go.Proofs.YtolcacmkageidacDoor
namespace MM
open Go.RowKit Go.Maps Go.MapKept
set_option linter.unusedVariables false

/-- An element read as itself. -/
def self (v : Value) : Option (DataW Value × List MemPlace) := some (.held v, [])
def heldOf : Option Value → DataW Value
  | none => .nil
  | some v => .held v
/-- The block b is a map of at most n entries; at the key a it holds g a. -/
def MapAt (P : Program) (k : TypeId) (w : World) (b n : Nat) (g : Int → Option Value) : Prop :=
  ∃ D : DataW Value, w.ownsMap P k self b n D ∧ ∀ a, (Lit.int .i64 a).wf = true → D.atKey (.int .i64 a) .nil = heldOf (g a)

section
variable {P : Program} {k t e : TypeId} {w : World} {b n : Nat} {g : Int → Option Value}
theorem MapAt.lt (h : MapAt P k w b n g) : b < w.heap.size := by obtain ⟨D, h, _⟩ := h; exact h.lt
theorem MapAt.made (P : Program) (k : TypeId) (w : World) : MapAt P k (w.alloc (.map #[] 0)) w.heap.size 0 fun _ => none :=
  ⟨_, World.ownsMap_made w P k self, fun a _ => rfl⟩
theorem MapAt.block {w' : World} (h : MapAt P k w b n g) (hb : w'.heap[b]? = w.heap[b]?) : MapAt P k w' b n g := by
  obtain ⟨D, ⟨es, clock, hh, r⟩, hg⟩ := h
  exact ⟨D, ⟨es, clock, hb.trans hh, r⟩, hg⟩
theorem MapAt.ne {cs : Array Value} {T : TypeId} {f : Nat × Nat} {q : Nat} (h : MapAt P k w b n g) (hq : w.heap[q]? = some (.cells cs T f)) : b ≠ q := by
  rintro rfl
  obtain ⟨D, ⟨es, clock, hh, r⟩, hg⟩ := h
  rw [hh] at hq
  cases hq
theorem MapAt.look (c : Bool) (h : MapAt P k w b n g) (hk : P.underlying k = some (.int .i64)) (ht : P.underlying t = some (.map k e)) {z : Value} (hz : (zeroValue e).run P w = .ok z w) {a : Int} (ha : (Lit.int .i64 a).wf = true) :
    (Instr.lookup t (.map (some b)) (.int .i64 a) c).run P w = .ok (if c then .tuple #[(g a).getD z, .bool (g a).isSome] else (g a).getD z) w := by
  obtain ⟨D, ⟨es, clock, hh, F, hs, rfl⟩, hg⟩ := h
  have hat := hg a ha
  rcases Maps.fit_look c (int_keyed hk) ht hz hh F (keyOf_int_mk hk ha) with ⟨hrun, _, h2⟩ | ⟨e0, y, _, _, hrun, hRv, h2, _⟩
  · rw [h2] at hat
    cases hga : g a with
    | none => rw [hrun]; rfl
    | some v => rw [hga] at hat; cases hat
  · rw [h2] at hat
    simp only [self, Option.some.injEq] at hRv
    rw [← hRv] at hat
    cases hga : g a with
    | none => rw [hga] at hat; cases hat
    | some v =>
      rw [hga] at hat
      injection hat with hat
      rw [hrun, hat]
      rfl
theorem MapAt.drop (h : MapAt P k w b n g) (hk : P.underlying k = some (.int .i64)) (ht : P.underlying t = some (.map k e)) {a : Int} (ha : (Lit.int .i64 a).wf = true) (ty : TypeId) :
    ∃ w', (Builtin.delete_ #[t, k] ty #[.map (some b), .int .i64 a]).run P w = .ok (.tuple #[]) w' ∧ MapAt P k w' b n (fun x => if x = a then none else g x) ∧ w.grownBy w' (some b) := by
  obtain ⟨D, hown, hg⟩ := h
  obtain ⟨w', hrun, ho, hm⟩ := hown.drop (int_keyed hk) ht (keyOf_int_mk hk ha) ty
  refine ⟨w', hrun, ⟨_, ho, fun x hx => ?_⟩, hm.grown⟩
  show _ = heldOf (if x = a then none else g x)
  by_cases hxa : x = a
  · subst hxa
    rw [if_pos rfl]
    exact atKey_del_same _
  · rw [if_neg hxa, atKey_del_other (fun e => hxa (by injection e))]
    exact hg x hx
theorem MapAt.store (h : MapAt P k w b n g) (hk : P.underlying k = some (.int .i64)) (ht : P.underlying t = some (.map k e)) (hn : n < maxLen) {a : Int} (ha : (Lit.int .i64 a).wf = true) (v : Value) :
    ∃ w', (Instr.mapUpdate t (.map (some b)) (.int .i64 a) v).run P w = .ok () w' ∧ MapAt P k w' b (n + 1) (fun x => if x = a then some v else g x) ∧ w.grownBy w' (some b) := by
  obtain ⟨D, hown, hg⟩ := h
  obtain ⟨w', hrun, ho, hm⟩ := hown.store (val := v) (d := .held v) (ps := []) (int_keyed hk) ht hn (keyOf_int_mk hk ha) rfl
  refine ⟨w', hrun, ⟨_, ho, fun x hx => ?_⟩, hm.grown⟩
  show _ = heldOf (if x = a then some v else g x)
  by_cases hxa : x = a
  · subst hxa
    rw [if_pos rfl]
    exact atKey_put_same hown.isMap ((int_keyed hk).key (keyOf_int_mk hk hx)) _ _
  · rw [if_neg hxa, atKey_put_other (fun e => hxa (by injection e))]
    exact hg x hx
end
/-- .. at a nil map. -/
theorem look_nil_at {P : Program} {k t e : TypeId} {w : World} (c : Bool) (hk : P.underlying k = some (.int .i64)) (ht : P.underlying t = some (.map k e)) {z : Value} (hz : (zeroValue e).run P w = .ok z w) {a : Int} (ha : (Lit.int .i64 a).wf = true) :
    (Instr.lookup t (.map none) (.int .i64 a) c).run P w = .ok (if c then .tuple #[z, .bool false] else z) w := Maps.look_nil c (int_keyed hk) ht hz (keyOf_int_mk hk ha)
theorem drop_nil_at {P : Program} {k t e : TypeId} {w : World} (hk : P.underlying k = some (.int .i64)) (ht : P.underlying t = some (.map k e)) {a : Int} (ha : (Lit.int .i64 a).wf = true) (ty : TypeId) :
    (Builtin.delete_ #[t, k] ty #[.map none, .int .i64 a]).run P w = .ok (.tuple #[]) w := Maps.drop_nil (int_keyed hk) ht (keyOf_int_mk hk ha) ty
end MM
end Go.Proofs.YtolcacmkageidacDoor
