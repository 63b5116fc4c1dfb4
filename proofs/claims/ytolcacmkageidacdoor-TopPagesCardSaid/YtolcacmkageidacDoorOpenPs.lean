/- How a slice of pages that came in is opened. No condition but those that each theorem names. -/
import Derived.Test.YtolcacmkageidacDoorOpen3
import Derived.Test.YtolcacmkageidacDoorPgMath
namespace Go.Proofs.YtolcacmkageidacDoor.OP
open Go.RowKit Go.ChangeShapes Go.WideShapes Go.Deep
open PG (Pg)
set_option linter.unusedVariables false

/-- A page's five cells, from a place on. -/
def Cells5 (w : World) (b o : Nat) (p : Pg) : Prop := w.cell? ⟨b, o, none⟩ = some (.int .i64 p.kind) ∧ w.cell? ⟨b, o + 1, none⟩ = some (.int .i64 p.space) ∧ w.cell? ⟨b, o + 2, none⟩ = some (.int .i64 p.key) ∧ w.cell? ⟨b, o + 3, none⟩ = some (.int .i64 p.seq) ∧ w.cell? ⟨b, o + 4, none⟩ = some (.string p.body)
def Pgs (w : World) (a : Option Addr) (len : Nat) (Q : Nat → Pg) : Prop := len = 0 ∨ ∃ b off, a = some ⟨b, off, none⟩ ∧ b < w.heap.size ∧ ∀ i, i < len → Cells5 w b (off + i * 5) (Q i)
theorem Cells5.kept {w w' : World} {b o B : Nat} {p : Pg} (h : Cells5 w b o p) (hb : Below B w w') (hB : b < B) : Cells5 w' b o p := by
  obtain ⟨h0, h1, h2, h3, h4⟩ := h
  exact ⟨(hb.cell (p := ⟨b, o, none⟩) hB).trans h0, (hb.cell (p := ⟨b, o + 1, none⟩) hB).trans h1, (hb.cell (p := ⟨b, o + 2, none⟩) hB).trans h2, (hb.cell (p := ⟨b, o + 3, none⟩) hB).trans h3, (hb.cell (p := ⟨b, o + 4, none⟩) hB).trans h4⟩
set_option maxRecDepth 100000 in
theorem open_pages {H : Type} {enc : TypeId × Value → H} {w : World} {b0 : Nat} {r : Reach} {v : Value} {d : DataW H} {p : List MemPlace}
    (hv : Value.okWide Tryd.prog w r b0 47 v) (h : DataW.Trod enc Tryd.prog w 0 (fun _ => true) true 47 v d p) :
    ∃ a len cap Q, v = .slice a len cap ∧ len ≤ maxLen ∧ Pgs w a len Q := by
  obtain ⟨a, len, cap, rfl⟩ := okWide_slice Tryd.underlying47 hv
  obtain ⟨fuel, hf⟩ := h
  have e : (Value.slice a len cap).cells = #[Value.slice a len cap] := by simp [Value.cells]
  rw [e] at hf
  rcases open_slice_fields Tryd.underlying47 Tryd.underlying23 (by kernel_rfl) (by kernel_rfl) hf with ⟨hcs, _⟩ | ⟨x, len', cap', m, D, Pl, hcs, _, hl, hm, hmm, _, hi⟩
  · obtain ⟨rfl, rfl, rfl⟩ : a = none ∧ len = 0 ∧ cap = 0 := by simpa using hcs
    exact ⟨_, _, _, fun _ => PG.Pg.zero, rfl, Nat.zero_le _, .inl rfl⟩
  · obtain ⟨rfl, rfl, rfl⟩ : a = some x ∧ len = len' ∧ cap = cap' := by simpa using hcs
    have hlm : len ≤ m := by rw [hmm]; simpa using hl
    by_cases h0 : len = 0
    · exact ⟨_, _, _, fun _ => PG.Pg.zero, rfl, Nat.le_trans hl hm, .inl h0⟩
    · obtain ⟨ys0, n0, _, _, _, hf0⟩ := hi 0 (by omega)
      obtain ⟨v0, y0, hc0, _⟩ := hf0 0 _ rfl
      obtain ⟨b, off, rfl, hb⟩ := addr_form (by simpa using hc0)
      have hall : ∀ i, ∃ q : Pg, i < len → Cells5 w b (off + i * 5) q := by
        intro i
        by_cases hil : i < len
        · obtain ⟨ys, n1, _, _, _, hfi⟩ := hi i (by omega)
          obtain ⟨u0, z0, g0, _, t0⟩ := hfi 0 _ rfl
          obtain ⟨u1, z1, g1, _, t1⟩ := hfi 1 _ rfl
          obtain ⟨u2, z2, g2, _, t2⟩ := hfi 2 _ rfl
          obtain ⟨u3, z3, g3, _, t3⟩ := hfi 3 _ rfl
          obtain ⟨u4, z4, g4, _, t4⟩ := hfi 4 _ rfl
          obtain ⟨k, e0, _, hk⟩ := DataW.trod_int Tryd.underlying3 t0
          obtain ⟨q, e1, _, hq⟩ := DataW.trod_int Tryd.underlying3 t1
          obtain ⟨n, e2, _, hn⟩ := DataW.trod_int Tryd.underlying3 t2
          obtain ⟨o, e3, _, ho⟩ := DataW.trod_int Tryd.underlying3 t3
          obtain ⟨s, e4, _, hs⟩ := DataW.trod_string Tryd.underlying9 t4
          simp at e0 e1 e2 e3 e4
          subst e0 e1 e2 e3 e4
          rw [Addr.add_lit] at g0 g1 g2 g3 g4
          exact ⟨⟨k, q, n, o, s⟩, fun _ => ⟨g0, by simpa [Nat.add_assoc] using g1, by simpa [Nat.add_assoc] using g2, by simpa [Nat.add_assoc] using g3, by simpa [Nat.add_assoc] using g4⟩⟩
        · exact ⟨PG.Pg.zero, fun h => absurd h hil⟩
      refine ⟨_, _, _, fun i => Classical.choose (hall i), rfl, Nat.le_trans hl hm, .inr ⟨b, off, rfl, hb, fun i hil => Classical.choose_spec (hall i) hil⟩⟩
end Go.Proofs.YtolcacmkageidacDoor.OP
