/- How kids that came in are opened: a slice of them. No condition but those that each theorem names. -/
import Derived.Test.YtmndbdkodijlbaaOpen7
import Derived.Test.YtmndbdkodijlbaaKdS
namespace Go.Proofs.Ytmndbdkodijlbaa.OP
open Go.RowKit Go.ChangeShapes Go.WideShapes Go.Deep Go.Joins
open EX (I64)
open LF (Kid Kds Cells2)
set_option linter.unusedVariables false

def WfK (k : Kid) : Prop := I64 k.key ∧ I64 k.at_
set_option maxRecDepth 100000 in
theorem open_kids {H : Type} {enc : TypeId × Value → H} {w : World} {b0 : Nat} {r : Reach} {v : Value} {d : DataW H} {p : List MemPlace}
    (hv : Value.okWide Try.prog w r b0 32 v) (h : DataW.Trod enc Try.prog w 0 (fun _ => true) true 32 v d p) :
    ∃ a len cap L, v = .slice a len cap ∧ len = L.length ∧ len ≤ maxLen ∧ Kds w a L ∧ (∀ e ∈ L, WfK e) ∧ len ≤ cap := by
  obtain ⟨a, len, cap, rfl⟩ := okWide_slice Try.underlying32 hv
  obtain ⟨fuel, hf⟩ := h
  have e : (Value.slice a len cap).cells = #[Value.slice a len cap] := by simp [Value.cells]
  rw [e] at hf
  rcases open_slice_fields Try.underlying32 Try.underlying57 (by kernel_rfl) (by kernel_rfl) hf with ⟨hcs, _⟩ | ⟨x, len', cap', m, D, Pl, hcs, _, hl, hm, hmm, _, hi⟩
  · obtain ⟨rfl, rfl, rfl⟩ : a = none ∧ len = 0 ∧ cap = 0 := by simpa using hcs
    exact ⟨_, _, _, [], rfl, rfl, Nat.zero_le _, .inl rfl, fun _ h => (List.not_mem_nil h).elim, Nat.zero_le _⟩
  · obtain ⟨rfl, rfl, rfl⟩ : a = some x ∧ len = len' ∧ cap = cap' := by simpa using hcs
    have hlm : len ≤ m := by rw [hmm]; simpa using hl
    by_cases h0 : len = 0
    · exact ⟨_, _, _, [], rfl, h0, Nat.le_trans hl hm, .inl rfl, fun _ h => (List.not_mem_nil h).elim, hl⟩
    · obtain ⟨ys0, n0, _, _, _, hf0⟩ := hi 0 (by omega)
      obtain ⟨v0, y0, hc0, _⟩ := hf0 0 _ rfl
      obtain ⟨b, off, rfl, hb⟩ := addr_form (by simpa using hc0)
      have hall : ∀ i, ∃ q : Kid, i < len → Cells2 w b (off + i * 2) q ∧ WfK q := by
        intro i
        by_cases hil : i < len
        · obtain ⟨ys, n1, _, _, _, hfi⟩ := hi i (by omega)
          obtain ⟨u0, z0, g0, _, t0⟩ := hfi 0 _ rfl
          obtain ⟨u1, z1, g1, _, t1⟩ := hfi 1 _ rfl
          obtain ⟨k, e0, _, hk⟩ := DataW.trod_int Try.underlying3 t0
          obtain ⟨q, e1, _, hq⟩ := DataW.trod_int Try.underlying3 t1
          simp at e0 e1
          subst e0 e1
          rw [Addr.add_lit] at g0 g1
          exact ⟨⟨k, q⟩, fun _ => ⟨⟨g0, by simpa [Nat.add_assoc] using g1⟩, i64_of hk, i64_of hq⟩⟩
        · exact ⟨default, fun h => absurd h hil⟩
      refine ⟨_, _, _, (List.range len).map fun i => Classical.choose (hall i), rfl, by simp, Nat.le_trans hl hm, .inr ⟨b, off, rfl, hb, fun i e hie => ?_⟩, fun e he => ?_, hl⟩
      · rw [List.getElem?_map] at hie
        by_cases hil : i < len
        · rw [List.getElem?_range hil] at hie
          injection hie with h9
          rw [← h9]; exact (Classical.choose_spec (hall i) hil).1
        · rw [List.getElem?_eq_none (by simp; omega)] at hie; simp at hie
      · obtain ⟨i, hir, rfl⟩ := List.mem_map.1 he
        exact (Classical.choose_spec (hall i) (List.mem_range.1 hir)).2
set_option maxRecDepth 100000 in
/-- As open_exts, and that there is room for what it has. -/
theorem open_extsc {H : Type} {enc : TypeId × Value → H} {w : World} {b0 : Nat} {r : Reach} {v : Value} {d : DataW H} {p : List MemPlace}
    (hv : Value.okWide Try.prog w r b0 22 v) (h : DataW.Trod enc Try.prog w 0 (fun _ => true) true 22 v d p) :
    ∃ a len cap L, v = .slice a len cap ∧ len = L.length ∧ len ≤ maxLen ∧ EX.Exs w a L ∧ (∀ e ∈ L, EX.WfE e) ∧ len ≤ cap := by
  obtain ⟨a, len, cap, L, rfl, h1, h2, h3, h4⟩ := open_exts hv h
  refine ⟨a, len, cap, L, rfl, h1, h2, h3, h4, ?_⟩
  obtain ⟨fuel, hf⟩ := h
  have e : (Value.slice a len cap).cells = #[Value.slice a len cap] := by simp [Value.cells]
  rw [e] at hf
  rcases open_slice_fields Try.underlying22 Try.underlying55 (by kernel_rfl) (by kernel_rfl) hf with ⟨hcs, _⟩ | ⟨x, len', cap', m, D, Pl, hcs, _, hl, _⟩
  · obtain ⟨rfl, rfl, rfl⟩ : a = none ∧ len = 0 ∧ cap = 0 := by simpa using hcs
    exact Nat.zero_le _
  · obtain ⟨rfl, rfl, rfl⟩ : a = some x ∧ len = len' ∧ cap = cap' := by simpa using hcs
    exact hl
end Go.Proofs.Ytmndbdkodijlbaa.OP
