/- How the arguments of layer 4's laws are opened: mishaps, acts, texts. No condition but those that each theorem names. -/
import Derived.Test.YtolcacmkageidacDoorOpen3
import Derived.Test.YtolcacmkageidacDoorNdMath
import Derived.SliceStrings
namespace Go.Proofs.YtolcacmkageidacDoor.OP
open Go.RowKit Go.ChangeShapes Go.WideShapes Go.Deep
open ND (Mis)
set_option linter.unusedVariables false

/-- A mishap's four cells. -/
def MisP (c : Nat → Option Value) : Prop := ∃ m : Mis, c 0 = some (.int .i64 m.at_) ∧ c 1 = some (.int .i64 m.kind) ∧ c 2 = some (.int .i64 m.keep) ∧ c 3 = some (.string m.junk) ∧ m.junk.size ≤ maxLen ∧ (Lit.int .i64 m.at_).wf = true ∧ (Lit.int .i64 m.kind).wf = true ∧ (Lit.int .i64 m.keep).wf = true
set_option maxRecDepth 100000 in
theorem open_mis_trod {H : Type} {enc : TypeId × Value → H} {w : World} {n : Nat} {v : Value} {y : DataW H × List MemPlace}
    (hf : DataW.trod enc Tryd.prog w 0 (fun _ => true) true n 40 [v] = some y) : ∃ a len cap, v = .slice a len cap ∧ len ≤ maxLen ∧ Rows w a len 4 MisP := by
  rcases open_slice_fields Tryd.underlying40 Tryd.underlying25 (by kernel_rfl) (by kernel_rfl) hf with ⟨hcs, _⟩ | ⟨x, len, cap, m, D, Pl, hcs, _, hl, hm, hmm, _, hi⟩
  · obtain rfl : v = .slice none 0 0 := by simpa using hcs
    exact ⟨_, _, _, rfl, Nat.zero_le _, .inl rfl⟩
  · obtain rfl : v = .slice (some x) len cap := by simpa using hcs
    have hlm : len ≤ m := by rw [hmm]; simpa using hl
    refine ⟨_, _, _, rfl, Nat.le_trans hl hm, ?_⟩
    by_cases h0 : len = 0
    · exact .inl h0
    · obtain ⟨ys0, n0, _, _, _, hf0⟩ := hi 0 (by omega)
      obtain ⟨v0, y0, hc0, _⟩ := hf0 0 _ rfl
      obtain ⟨b, off, rfl, hb⟩ := addr_form (by simpa using hc0)
      refine .inr ⟨b, off, rfl, hb, fun i hil => ?_⟩
      obtain ⟨ys, n1, _, _, _, hfi⟩ := hi i (by omega)
      obtain ⟨u0, z0, g0, _, t0⟩ := hfi 0 _ rfl
      obtain ⟨u1, z1, g1, _, t1⟩ := hfi 1 _ rfl
      obtain ⟨u2, z2, g2, _, t2⟩ := hfi 2 _ rfl
      obtain ⟨u3, z3, g3, _, t3⟩ := hfi 3 _ rfl
      obtain ⟨k, e0, _, hk⟩ := DataW.trod_int Tryd.underlying3 t0
      obtain ⟨q, e1, _, hq⟩ := DataW.trod_int Tryd.underlying3 t1
      obtain ⟨n, e2, _, hn⟩ := DataW.trod_int Tryd.underlying3 t2
      obtain ⟨s, e3, _, hs⟩ := DataW.trod_string Tryd.underlying9 t3
      simp at e0 e1 e2 e3
      subst e0 e1 e2 e3
      rw [Addr.add_lit] at g0 g1 g2 g3
      exact ⟨⟨k, q, n, s⟩, g0, g1, g2, g3, hs, hk, hq, hn⟩
set_option maxRecDepth 100000 in
theorem open_mishaps {H : Type} {enc : TypeId × Value → H} {w : World} {b0 : Nat} {r : Reach} {v : Value} {d : DataW H} {p : List MemPlace}
    (hv : Value.okWide Tryd.prog w r b0 40 v) (h : DataW.Trod enc Tryd.prog w 0 (fun _ => true) true 40 v d p) :
    ∃ a len cap, v = .slice a len cap ∧ len ≤ maxLen ∧ Rows w a len 4 MisP := by
  obtain ⟨a, len, cap, rfl⟩ := okWide_slice Tryd.underlying40 hv
  obtain ⟨fuel, hf⟩ := h
  have e : (Value.slice a len cap).cells = #[Value.slice a len cap] := by simp [Value.cells]
  rw [e] at hf
  obtain ⟨a', len', cap', e', h⟩ := open_mis_trod hf
  cases e'
  exact ⟨_, _, _, rfl, h⟩
set_option maxRecDepth 100000 in
theorem open_mishap {H : Type} {enc : TypeId × Value → H} {w : World} {b0 : Nat} {r : Reach} {v : Value} {d : DataW H} {p : List MemPlace}
    (hv : Value.okWide Tryd.prog w r b0 25 v) (h : DataW.Trod enc Tryd.prog w 0 (fun _ => true) true 25 v d p) :
    ∃ m : Mis, v = .agg #[.int .i64 m.at_, .int .i64 m.kind, .int .i64 m.keep, .string m.junk] ∧ m.junk.size ≤ maxLen ∧ (Lit.int .i64 m.at_).wf = true ∧ (Lit.int .i64 m.kind).wf = true ∧ (Lit.int .i64 m.keep).wf = true := by
  obtain ⟨c0, c1, c2, c3, y0, y1, y2, y3, m, rfl, _, _, t0, t1, t2, t3⟩ := Go.Joins.open_agg4 Tryd.underlying25 (by kernel_rfl) (by kernel_rfl) hv h
  obtain ⟨k, e0, _, hk⟩ := DataW.trod_int Tryd.underlying3 t0
  obtain ⟨q, e1, _, hq⟩ := DataW.trod_int Tryd.underlying3 t1
  obtain ⟨n, e2, _, hn⟩ := DataW.trod_int Tryd.underlying3 t2
  obtain ⟨s, e3, _, hs⟩ := DataW.trod_string Tryd.underlying9 t3
  simp at e0 e1 e2 e3
  subst e0 e1 e2 e3
  exact ⟨⟨k, q, n, s⟩, rfl, hs, hk, hq, hn⟩
/-- A slice of texts that came in, as a function of their places. -/
def Strs (w : World) (a : Option Addr) (len : Nat) (C : Nat → ByteArray) : Prop :=
  len = 0 ∨ ∃ b off, a = some ⟨b, off, none⟩ ∧ b < w.heap.size ∧ ∀ i, i < len → w.cell? ⟨b, off + i, none⟩ = some (.string (C i)) ∧ (C i).size ≤ maxLen
theorem Strs.kept {w w' : World} {a : Option Addr} {len B : Nat} {C : Nat → ByteArray} (h : Strs w a len C) (hb : Below B w w') (hB : w.heap.size ≤ B) : Strs w' a len C := by
  rcases h with h | ⟨b, off, rfl, hlt, hc⟩
  · exact .inl h
  · exact .inr ⟨b, off, rfl, Nat.lt_of_lt_of_le hlt hb.size, fun i hi => by rw [hb.cell (p := ⟨b, off + i, none⟩) (Nat.lt_of_lt_of_le hlt hB)]; exact hc i hi⟩
set_option maxRecDepth 100000 in
theorem open_strs {H : Type} {enc : TypeId × Value → H} {w : World} {b0 : Nat} {r : Reach} {v : Value} {d : DataW H} {p : List MemPlace}
    (hv : Value.okWide Tryd.prog w r b0 60 v) (h : DataW.Trod enc Tryd.prog w 0 (fun _ => true) true 60 v d p) :
    ∃ a len cap C, v = .slice a len cap ∧ len ≤ maxLen ∧ Strs w a len C := by
  obtain ⟨a, len, cap, rfl⟩ := okWide_slice Tryd.underlying60 hv
  obtain ⟨fuel, hf⟩ := h
  rcases open_strings Tryd.underlying60 Tryd.underlying9 (by kernel_rfl) hf with ⟨hcs, _⟩ | ⟨x, l, c, zs, hcs, _, hl, hm, hz, _, hcell, hwz⟩
  · simp [Value.cells] at hcs
    obtain ⟨rfl, rfl, rfl⟩ := hcs
    exact ⟨_, _, _, fun _ => ByteArray.empty, rfl, Nat.zero_le _, .inl rfl⟩
  · simp [Value.cells] at hcs
    obtain ⟨rfl, rfl, rfl⟩ := hcs
    have hz' : zs.length = cap := by simpa using hz
    refine ⟨_, _, _, fun i => zs.getD i ByteArray.empty, rfl, Nat.le_trans hl hm, ?_⟩
    by_cases h0 : len = 0
    · exact .inl h0
    · have hc0 := hcell 0 (by omega)
      obtain ⟨b, off, rfl, hb⟩ := addr_form hc0
      refine .inr ⟨b, off, rfl, hb, fun i hi => ?_⟩
      have := hcell i (by omega)
      rw [Addr.add_lit] at this
      have hi' : i < zs.length := by omega
      refine ⟨this, ?_⟩
      have := hwz zs[i] (List.getElem_mem hi')
      simpa [List.getD, hi'] using this
end Go.Proofs.YtolcacmkageidacDoor.OP
