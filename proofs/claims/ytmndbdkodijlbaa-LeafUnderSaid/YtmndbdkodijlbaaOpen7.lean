/- How extents that came in are opened: a slice of them, one by value, two numbers by value. No condition but those that each theorem names. -/
import Derived.Test.YtmndbdkodijlbaaOpen3
import Derived.Test.YtmndbdkodijlbaaExA
import Derived.Test.YtmndbdkodijlbaaExS
namespace Go.Proofs.Ytmndbdkodijlbaa.OP
open Go.RowKit Go.ChangeShapes Go.WideShapes Go.Deep Go.Joins
open EX (Ext WfE I64 Exs Cells4)
set_option linter.unusedVariables false

theorem i64_of {x : Int} (h : (Lit.int .i64 x).wf = true) : I64 x := by
  have : -9223372036854775808 ≤ x ∧ x ≤ 9223372036854775807 := by simpa [Lit.wf, IntKind.min, IntKind.max, IntKind.signed, IntKind.bits] using h
  exact this
set_option maxRecDepth 100000 in
theorem open_exts {H : Type} {enc : TypeId × Value → H} {w : World} {b0 : Nat} {r : Reach} {v : Value} {d : DataW H} {p : List MemPlace}
    (hv : Value.okWide Try.prog w r b0 22 v) (h : DataW.Trod enc Try.prog w 0 (fun _ => true) true 22 v d p) :
    ∃ a len cap L, v = .slice a len cap ∧ len = L.length ∧ len ≤ maxLen ∧ Exs w a L ∧ ∀ e ∈ L, WfE e := by
  obtain ⟨a, len, cap, rfl⟩ := okWide_slice Try.underlying22 hv
  obtain ⟨fuel, hf⟩ := h
  have e : (Value.slice a len cap).cells = #[Value.slice a len cap] := by simp [Value.cells]
  rw [e] at hf
  rcases open_slice_fields Try.underlying22 Try.underlying55 (by kernel_rfl) (by kernel_rfl) hf with ⟨hcs, _⟩ | ⟨x, len', cap', m, D, Pl, hcs, _, hl, hm, hmm, _, hi⟩
  · obtain ⟨rfl, rfl, rfl⟩ : a = none ∧ len = 0 ∧ cap = 0 := by simpa using hcs
    exact ⟨_, _, _, [], rfl, rfl, Nat.zero_le _, .inl rfl, fun _ h => (List.not_mem_nil h).elim⟩
  · obtain ⟨rfl, rfl, rfl⟩ : a = some x ∧ len = len' ∧ cap = cap' := by simpa using hcs
    have hlm : len ≤ m := by rw [hmm]; simpa using hl
    by_cases h0 : len = 0
    · exact ⟨_, _, _, [], rfl, h0, Nat.le_trans hl hm, .inl rfl, fun _ h => (List.not_mem_nil h).elim⟩
    · obtain ⟨ys0, n0, _, _, _, hf0⟩ := hi 0 (by omega)
      obtain ⟨v0, y0, hc0, _⟩ := hf0 0 _ rfl
      obtain ⟨b, off, rfl, hb⟩ := addr_form (by simpa using hc0)
      have hall : ∀ i, ∃ q : Ext, i < len → Cells4 w b (off + i * 4) q ∧ WfE q := by
        intro i
        by_cases hil : i < len
        · obtain ⟨ys, n1, _, _, _, hfi⟩ := hi i (by omega)
          obtain ⟨u0, z0, g0, _, t0⟩ := hfi 0 _ rfl
          obtain ⟨u1, z1, g1, _, t1⟩ := hfi 1 _ rfl
          obtain ⟨u2, z2, g2, _, t2⟩ := hfi 2 _ rfl
          obtain ⟨u3, z3, g3, _, t3⟩ := hfi 3 _ rfl
          obtain ⟨k, e0, _, hk⟩ := DataW.trod_int Try.underlying3 t0
          obtain ⟨q, e1, _, hq⟩ := DataW.trod_int Try.underlying3 t1
          obtain ⟨n, e2, _, hn⟩ := DataW.trod_int Try.underlying3 t2
          obtain ⟨o, e3, _, ho⟩ := DataW.trod_int Try.underlying3 t3
          simp at e0 e1 e2 e3
          subst e0 e1 e2 e3
          rw [Addr.add_lit] at g0 g1 g2 g3
          exact ⟨⟨k, q, n, o⟩, fun _ => ⟨⟨g0, by simpa [Nat.add_assoc] using g1, by simpa [Nat.add_assoc] using g2, by simpa [Nat.add_assoc] using g3⟩, i64_of hk, i64_of hq, i64_of hn, i64_of ho⟩⟩
        · exact ⟨EX.Ext.zero, fun h => absurd h hil⟩
      refine ⟨_, _, _, (List.range len).map fun i => Classical.choose (hall i), rfl, by simp, Nat.le_trans hl hm, .inr ⟨b, off, rfl, hb, fun i e hie => ?_⟩, fun e he => ?_⟩
      · rw [List.getElem?_map] at hie
        by_cases hil : i < len
        · rw [List.getElem?_range hil] at hie
          injection hie with h9
          rw [← h9]; exact (Classical.choose_spec (hall i) hil).1
        · rw [List.getElem?_eq_none (by simp; omega)] at hie; simp at hie
      · obtain ⟨i, hir, rfl⟩ := List.mem_map.1 he
        exact (Classical.choose_spec (hall i) (List.mem_range.1 hir)).2
set_option maxRecDepth 100000 in
theorem open_ext {H : Type} {enc : TypeId × Value → H} {w : World} {b0 : Nat} {r : Reach} {v : Value} {d : DataW H} {p : List MemPlace}
    (hv : Value.okWide Try.prog w r b0 55 v) (h : DataW.Trod enc Try.prog w 0 (fun _ => true) true 55 v d p) :
    ∃ x : Ext, v = .agg #[.int .i64 x.from_, .int .i64 x.n, .int .i64 x.kind, .int .i64 x.at_] ∧ WfE x := by
  obtain ⟨c0, c1, c2, c3, y0, y1, y2, y3, m, rfl, _, _, t0, t1, t2, t3⟩ := open_agg4 Try.underlying55 (by kernel_rfl) (by kernel_rfl) hv h
  obtain ⟨a0, e0, _, h0⟩ := DataW.trod_int Try.underlying3 t0
  obtain ⟨a1, e1, _, h1⟩ := DataW.trod_int Try.underlying3 t1
  obtain ⟨a2, e2, _, h2⟩ := DataW.trod_int Try.underlying3 t2
  obtain ⟨a3, e3, _, h3⟩ := DataW.trod_int Try.underlying3 t3
  simp at e0 e1 e2 e3
  subst e0 e1 e2 e3
  exact ⟨⟨a0, a1, a2, a3⟩, rfl, i64_of h0, i64_of h1, i64_of h2, i64_of h3⟩
end Go.Proofs.Ytmndbdkodijlbaa.OP
