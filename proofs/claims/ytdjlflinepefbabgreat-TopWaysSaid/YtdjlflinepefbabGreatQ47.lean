/- How lays that came in are opened: a slice of them (an extent, and whether it is cut). No condition but those that each theorem names. -/
import Derived.Test.YtdjlflinepefbabGreatQ46
import Derived.Test.YtdjlflinepefbabGreatQ05

namespace Go.Proofs.YtdjlflinepefbabGreat.OP
open Go.RowKit Go.ChangeShapes Go.WideShapes Go.Deep Go.Joins
open EX (Ext Exs Cells4)
set_option linter.unusedVariables false

/-- An extent that is laid over, or its range cut. -/
structure Lay where
  e : Ext
  cut : Bool
def LCells (w : World) (b o : Nat) (x : Lay) : Prop := Cells4 w b o x.e ∧ w.cell? ⟨b, o + 4, none⟩ = some (.bool x.cut)
def Lays (w : World) (a : Option Addr) (l : List Lay) : Prop := l = [] ∨ ∃ b off, a = some ⟨b, off, none⟩ ∧ b < w.heap.size ∧ ∀ (i : Nat) (x : Lay), l[i]? = some x → LCells w b (off + i * 5) x
theorem LCells.kept {w w' : World} {b o B : Nat} {x : Lay} (h : LCells w b o x) (hb : Below B w w') (hB : b < B) : LCells w' b o x := ⟨h.1.kept hb hB, (hb.cell (p := ⟨b, o + 4, none⟩) hB).trans h.2⟩
theorem Lays.kept {w w' : World} {a : Option Addr} {l : List Lay} {B : Nat} (h : Lays w a l) (hb : Below B w w') (hB : w.heap.size ≤ B) : Lays w' a l := by
  rcases h with h | ⟨b, off, rfl, hlt, hc⟩
  · exact .inl h
  · exact .inr ⟨b, off, rfl, Nat.lt_of_lt_of_le hlt hb.size, fun i e hi => (hc i e hi).kept hb (Nat.lt_of_lt_of_le hlt hB)⟩
theorem Lays.get {w : World} {a : Option Addr} {l : List Lay} {k : Nat} {x : Lay} (h : Lays w a l) (hk : l[k]? = some x) : ∃ b off, a = some ⟨b, off, none⟩ ∧ b < w.heap.size ∧ LCells w b (off + k * 5) x := by
  rcases h with rfl | ⟨b, off, rfl, hlt, hc⟩
  · simp at hk
  · exact ⟨b, off, rfl, hlt, hc k x hk⟩
theorem wfe_of {a b c d : Int} (ha : (Lit.int .i64 a).wf = true) (hb : (Lit.int .i64 b).wf = true) (hc : (Lit.int .i64 c).wf = true) (hd : (Lit.int .i64 d).wf = true) : EX.WfE ⟨a, b, c, d⟩ := by
  have f : ∀ {x : Int}, (Lit.int .i64 x).wf = true → EX.I64 x := fun {x} h => by
    have : -9223372036854775808 ≤ x ∧ x ≤ 9223372036854775807 := by simpa [Lit.wf, IntKind.min, IntKind.max, IntKind.signed, IntKind.bits] using h
    exact this
  exact ⟨f ha, f hb, f hc, f hd⟩
set_option maxRecDepth 100000 in
theorem open_lays {H : Type} {enc : TypeId × Value → H} {w : World} {b0 : Nat} {r : Reach} {v : Value} {d : DataW H} {p : List MemPlace}
    (hv : Value.okWide Tryz.prog w r b0 67 v) (h : DataW.Trod enc Tryz.prog w 0 (fun _ => true) true 67 v d p) :
    ∃ a len cap L, v = .slice a len cap ∧ len = L.length ∧ len ≤ maxLen ∧ Lays w a L ∧ ∀ x ∈ L, EX.WfE x.e := by
  obtain ⟨a, len, cap, rfl⟩ := okWide_slice Tryz.underlying67 hv
  obtain ⟨fuel, hf⟩ := h
  have e : (Value.slice a len cap).cells = #[Value.slice a len cap] := by simp [Value.cells]
  have c5 : Tryz.prog.cellsOf 70 = 5 := by kernel_rfl
  have c4 : Tryz.prog.cellsOf 41 = 4 := by kernel_rfl
  have ci : Tryz.prog.cellsOf 3 = 1 := by kernel_rfl
  have cb : Tryz.prog.cellsOf 4 = 1 := by kernel_rfl
  rw [e] at hf
  rcases open_slice Tryz.underlying67 hf with ⟨hcs, _⟩ | ⟨x, len', cap', m, n, D, Pl, hcs, _, hl, hm, hmm, _, hi⟩
  · obtain ⟨rfl, rfl, rfl⟩ : a = none ∧ len = 0 ∧ cap = 0 := by simpa using hcs
    exact ⟨_, _, _, [], rfl, rfl, Nat.zero_le _, .inl rfl, fun _ h => (List.not_mem_nil h).elim⟩
  · obtain ⟨rfl, rfl, rfl⟩ : a = some x ∧ len = len' ∧ cap = cap' := by simpa using hcs
    have hlm : len ≤ m := by rw [hmm]; simpa using hl
    by_cases h0 : len = 0
    · exact ⟨_, _, _, [], rfl, h0, Nat.le_trans hl hm, .inl rfl, fun _ h => (List.not_mem_nil h).elim⟩
    · have one : ∀ i, i < m → ∃ q : Lay, EX.WfE q.e ∧ w.cell? (x.add (i * 5)) = some (.int .i64 q.e.from_) ∧ w.cell? (x.add (i * 5 + 1)) = some (.int .i64 q.e.n) ∧ w.cell? (x.add (i * 5 + 2)) = some (.int .i64 q.e.kind) ∧ w.cell? (x.add (i * 5 + 3)) = some (.int .i64 q.e.at_) ∧ w.cell? (x.add (i * 5 + 4)) = some (.bool q.cut) := by
        intro i him
        obtain ⟨cs', hc, ht'⟩ := hi i him
        rw [c5] at hc
        obtain ⟨_, hcl, hat⟩ := World.cells?_some hc
        obtain ⟨ys, n1, _, _, _, hyl, hfs⟩ := DataW.trod_struct Tryz.underlying70 ht'
        obtain ⟨v0, v1, v2, v3, v4, rfl⟩ : ∃ v0 v1 v2 v3 v4, cs' = [v0, v1, v2, v3, v4] := by
          rcases cs' with _ | ⟨v0, _ | ⟨v1, _ | ⟨v2, _ | ⟨v3, _ | ⟨v4, _ | _⟩⟩⟩⟩⟩ <;> simp at hcl
          exact ⟨_, _, _, _, _, rfl⟩
        have f0 := hfs 0 _ rfl
        have f1 := hfs 1 _ rfl
        have l0 : 0 < ys.length := by rw [hyl]; decide
        have l1 : 1 < ys.length := by rw [hyl]; decide
        rw [List.getElem?_eq_getElem l0] at f0
        rw [List.getElem?_eq_getElem l1] at f1
        change DataW.trod _ _ _ _ _ _ _ 41 (List.take (Tryz.prog.cellsOf 41) _) = _ at f0
        change DataW.trod _ _ _ _ _ _ _ 4 (List.take (Tryz.prog.cellsOf 4) _) = _ at f1
        rw [c4] at f0
        rw [cb] at f1
        change DataW.trod _ _ _ _ _ _ _ 41 [v0, v1, v2, v3] = _ at f0
        change DataW.trod _ _ _ _ _ _ _ 4 [v4] = _ at f1
        obtain ⟨zs, n2, _, _, _, hzl, hgs⟩ := DataW.trod_struct Tryz.underlying41 f0
        have g0 := hgs 0 _ rfl
        have g1 := hgs 1 _ rfl
        have g2 := hgs 2 _ rfl
        have g3 := hgs 3 _ rfl
        have m0 : 0 < zs.length := by rw [hzl]; decide
        have m1 : 1 < zs.length := by rw [hzl]; decide
        have m2 : 2 < zs.length := by rw [hzl]; decide
        have m3 : 3 < zs.length := by rw [hzl]; decide
        rw [List.getElem?_eq_getElem m0] at g0
        rw [List.getElem?_eq_getElem m1] at g1
        rw [List.getElem?_eq_getElem m2] at g2
        rw [List.getElem?_eq_getElem m3] at g3
        change DataW.trod _ _ _ _ _ _ _ 3 (List.take (Tryz.prog.cellsOf 3) _) = _ at g0
        change DataW.trod _ _ _ _ _ _ _ 3 (List.take (Tryz.prog.cellsOf 3) _) = _ at g1
        change DataW.trod _ _ _ _ _ _ _ 3 (List.take (Tryz.prog.cellsOf 3) _) = _ at g2
        change DataW.trod _ _ _ _ _ _ _ 3 (List.take (Tryz.prog.cellsOf 3) _) = _ at g3
        rw [ci] at g0 g1 g2 g3
        change DataW.trod _ _ _ _ _ _ _ 3 [v0] = _ at g0
        change DataW.trod _ _ _ _ _ _ _ 3 [v1] = _ at g1
        change DataW.trod _ _ _ _ _ _ _ 3 [v2] = _ at g2
        change DataW.trod _ _ _ _ _ _ _ 3 [v3] = _ at g3
        obtain ⟨k0, e0, _, w0⟩ := DataW.trod_int Tryz.underlying3 g0
        obtain ⟨k1, e1, _, w1⟩ := DataW.trod_int Tryz.underlying3 g1
        obtain ⟨k2, e2, _, w2⟩ := DataW.trod_int Tryz.underlying3 g2
        obtain ⟨k3, e3, _, w3⟩ := DataW.trod_int Tryz.underlying3 g3
        obtain ⟨k4, e4, _⟩ := DataW.trod_bool Tryz.underlying4 f1
        simp at e0 e1 e2 e3 e4
        subst e0 e1 e2 e3 e4
        have a0 := hat 0 (by omega)
        have a1 := hat 1 (by omega)
        have a2 := hat 2 (by omega)
        have a3 := hat 3 (by omega)
        have a4 := hat 4 (by omega)
        rw [Go.Deep.add_add] at a0 a1 a2 a3 a4
        exact ⟨⟨⟨k0, k1, k2, k3⟩, k4⟩, wfe_of w0 w1 w2 w3, by simpa using a0, by simpa using a1, by simpa using a2, by simpa using a3, by simpa using a4⟩
      obtain ⟨q0, _, hc0, _⟩ := one 0 (by omega)
      obtain ⟨b, off, rfl, hb⟩ := addr_form (by simpa using hc0)
      have hall : ∀ i, ∃ q : Lay, i < len → LCells w b (off + i * 5) q ∧ EX.WfE q.e := by
        intro i
        by_cases hil : i < len
        · obtain ⟨q, hw, g0, g1, g2, g3, g4⟩ := one i (by omega)
          rw [Addr.add_lit] at g0 g1 g2 g3 g4
          exact ⟨q, fun _ => ⟨⟨⟨g0, by simpa [Nat.add_assoc] using g1, by simpa [Nat.add_assoc] using g2, by simpa [Nat.add_assoc] using g3⟩, by simpa [Nat.add_assoc] using g4⟩, hw⟩⟩
        · exact ⟨⟨EX.Ext.zero, false⟩, fun h => absurd h hil⟩
      refine ⟨_, _, _, (List.range len).map fun i => Classical.choose (hall i), rfl, by simp, Nat.le_trans hl hm, .inr ⟨b, off, rfl, hb, fun i e hie => ?_⟩, fun e he => ?_⟩
      · rw [List.getElem?_map] at hie
        by_cases hil : i < len
        · rw [List.getElem?_range hil] at hie
          injection hie with h9
          rw [← h9]; exact (Classical.choose_spec (hall i) hil).1
        · rw [List.getElem?_eq_none (by simp; omega)] at hie; simp at hie
      · obtain ⟨i, hir, rfl⟩ := List.mem_map.1 he
        exact (Classical.choose_spec (hall i) (List.mem_range.1 hir)).2
end Go.Proofs.YtdjlflinepefbabGreat.OP
