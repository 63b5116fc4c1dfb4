/- How namespaces that came in are opened: a slice of them; two numbers by value. No condition but those that each theorem names. -/
import Derived.Test.YtdjlflinepefbaaOpen3
import Derived.Test.YtdjlflinepefbaaExS
namespace Go.Proofs.Ytdjlflinepefbaa.OP
open Go.RowKit Go.ChangeShapes Go.WideShapes Go.Deep Go.Joins
open EX (Ext Exs Cells4)
set_option linter.unusedVariables false

/-- A number that fits. -/
def I64 (x : Int) : Prop := -9223372036854775808 ≤ x ∧ x ≤ 9223372036854775807
def WfS (e : Ext) : Prop := I64 e.from_ ∧ I64 e.n ∧ I64 e.kind ∧ I64 e.at_
theorem i64_of {x : Int} (h : (Lit.int .i64 x).wf = true) : I64 x := by
  have : -9223372036854775808 ≤ x ∧ x ≤ 9223372036854775807 := by simpa [Lit.wf, IntKind.min, IntKind.max, IntKind.signed, IntKind.bits] using h
  exact this
set_option maxRecDepth 100000 in
theorem open_spaces {H : Type} {enc : TypeId × Value → H} {w : World} {b0 : Nat} {r : Reach} {v : Value} {d : DataW H} {p : List MemPlace}
    (hv : Value.okWide Try.prog w r b0 22 v) (h : DataW.Trod enc Try.prog w 0 (fun _ => true) true 22 v d p) :
    ∃ a len cap L, v = .slice a len cap ∧ len = L.length ∧ len ≤ maxLen ∧ Exs w a L ∧ ∀ e ∈ L, WfS e := by
  obtain ⟨a, len, cap, rfl⟩ := okWide_slice Try.underlying22 hv
  obtain ⟨fuel, hf⟩ := h
  have e : (Value.slice a len cap).cells = #[Value.slice a len cap] := by simp [Value.cells]
  rw [e] at hf
  rcases open_slice_fields Try.underlying22 Try.underlying54 (by kernel_rfl) (by kernel_rfl) hf with ⟨hcs, _⟩ | ⟨x, len', cap', m, D, Pl, hcs, _, hl, hm, hmm, _, hi⟩
  · obtain ⟨rfl, rfl, rfl⟩ : a = none ∧ len = 0 ∧ cap = 0 := by simpa using hcs
    exact ⟨_, _, _, [], rfl, rfl, Nat.zero_le _, .inl rfl, fun _ h => (List.not_mem_nil h).elim⟩
  · obtain ⟨rfl, rfl, rfl⟩ : a = some x ∧ len = len' ∧ cap = cap' := by simpa using hcs
    have hlm : len ≤ m := by rw [hmm]; simpa using hl
    by_cases h0 : len = 0
    · exact ⟨_, _, _, [], rfl, h0, Nat.le_trans hl hm, .inl rfl, fun _ h => (List.not_mem_nil h).elim⟩
    · obtain ⟨ys0, n0, _, _, _, hf0⟩ := hi 0 (by omega)
      obtain ⟨v0, y0, hc0, _⟩ := hf0 0 _ rfl
      obtain ⟨b, off, rfl, hb⟩ := addr_form (by simpa using hc0)
      have hall : ∀ i, ∃ q : Ext, i < len → Cells4 w b (off + i * 4) q ∧ WfS q := by
        intro i
        by_cases hil : i < len
        · obtain ⟨ys, n1, _, _, _, hfi⟩ := hi i (by omega)
          obtain ⟨u0, z0, g0, _, t0⟩ := hfi 0 _ rfl
          obtain ⟨u1, z1, g1, _, t1⟩ := hfi 1 _ rfl
          obtain ⟨u2, z2, g2, _, t2⟩ := hfi 2 _ rfl
          obtain ⟨u3, z3, g3, _, t3⟩ := hfi 3 _ rfl
          obtain ⟨k, e0, _, hk⟩ := DataW.trod_int Try.underlying3 t0
          obtain ⟨q, e1, _, hq⟩ := DataW.trod_int Try.underlying3 t1
          obtain ⟨n, e2, _, hn⟩ := DataW.trod_int Try.underlying3 t2
          obtain ⟨o, e3, _, ho⟩ := DataW.trod_int Try.underlying3 t3
          simp at e0 e1 e2 e3
          subst e0 e1 e2 e3
          rw [Addr.add_lit] at g0 g1 g2 g3
          exact ⟨⟨k, q, n, o⟩, fun _ => ⟨⟨g0, by simpa [Nat.add_assoc] using g1, by simpa [Nat.add_assoc] using g2, by simpa [Nat.add_assoc] using g3⟩, i64_of hk, i64_of hq, i64_of hn, i64_of ho⟩⟩
        · exact ⟨EX.Ext.zero, fun h => absurd h hil⟩
      refine ⟨_, _, _, (List.range len).map fun i => Classical.choose (hall i), rfl, by simp, Nat.le_trans hl hm, .inr ⟨b, off, rfl, hb, fun i e hie => ?_⟩, fun e he => ?_⟩
      · rw [List.getElem?_map] at hie
        by_cases hil : i < len
        · rw [List.getElem?_range hil] at hie
          injection hie with h9
          rw [← h9]; exact (Classical.choose_spec (hall i) hil).1
        · rw [List.getElem?_eq_none (by simp; omega)] at hie; simp at hie
      · obtain ⟨i, hir, rfl⟩ := List.mem_map.1 he
        exact (Classical.choose_spec (hall i) (List.mem_range.1 hir)).2
set_option maxRecDepth 100000 in
theorem open_ints2 {H : Type} {enc : TypeId × Value → H} {w : World} {b0 : Nat} {r : Reach} {v : Value} {d : DataW H} {p : List MemPlace}
    (hv : Value.okWide Try.prog w r b0 58 v) (h : DataW.Trod enc Try.prog w 0 (fun _ => true) true 58 v d p) :
    ∃ a b : Int, v = .agg #[.int .i64 a, .int .i64 b] ∧ I64 a ∧ I64 b := by
  have hc : Try.prog.cellsOf 58 = 2 := by kernel_rfl
  have hce : Try.prog.cellsOf 3 = 1 := by kernel_rfl
  simp only [Value.okWide, Try.underlying58] at hv
  obtain ⟨cs, rfl, hsz, _⟩ := hv
  rw [hc] at hsz
  obtain ⟨c0, c1, rfl⟩ : ∃ c0 c1, cs = #[c0, c1] := by
    rcases cs with ⟨_ | ⟨c0, _ | ⟨c1, _ | _⟩⟩⟩ <;> simp at hsz
    exact ⟨c0, c1, rfl⟩
  obtain ⟨fuel, hf⟩ := h
  obtain ⟨xs, m, rfl, hx, hl, hxn, hget⟩ := DataW.trod_array Try.underlying58 hf
  have g0 := hget 0 (by decide)
  have g1 := hget 1 (by decide)
  rw [hce] at g0 g1
  simp [Value.cells] at g0 g1
  have l0 : (0 : Nat) < xs.length := by omega
  have l1 : (1 : Nat) < xs.length := by omega
  rw [List.getElem?_eq_getElem l0] at g0
  rw [List.getElem?_eq_getElem l1] at g1
  obtain ⟨a, ha, _, wa⟩ := DataW.trod_int Try.underlying3 g0
  obtain ⟨b, hb, _, wb⟩ := DataW.trod_int Try.underlying3 g1
  simp at ha hb
  subst ha hb
  exact ⟨a, b, rfl, i64_of wa, i64_of wb⟩
end Go.Proofs.Ytdjlflinepefbaa.OP
