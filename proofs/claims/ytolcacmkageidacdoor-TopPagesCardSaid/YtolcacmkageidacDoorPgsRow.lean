/- A row of pages of a law's own, beside an array: neither touches the other. -/
import Derived.Test.YtolcacmkageidacDoorFine
import Derived.Test.YtolcacmkageidacDoorPgsMath
namespace Go.Proofs.YtolcacmkageidacDoor
namespace TP
open Go.RowKit MM ND PG
set_option linter.unusedVariables false
set_option linter.unusedSimpArgs false

def pgCells (l : List Pg) : List Value := l.flatMap fun p => [.int .i64 p.kind, .int .i64 p.space, .int .i64 p.key, .int .i64 p.seq, .string p.body]
theorem pgCells_snoc (l : List Pg) (p : Pg) : pgCells l ++ [.int .i64 p.kind, .int .i64 p.space, .int .i64 p.key, .int .i64 p.seq, .string p.body] = pgCells (l ++ [p]) := by
  simp [pgCells, List.flatMap_append]
theorem pgCells_get : ∀ (l : List Pg) (j : Nat) (p : Pg), l[j]? = some p → (pgCells l)[j * 5]? = some (.int .i64 p.kind) ∧ (pgCells l)[j * 5 + 1]? = some (.int .i64 p.space) ∧ (pgCells l)[j * 5 + 2]? = some (.int .i64 p.key) ∧ (pgCells l)[j * 5 + 3]? = some (.int .i64 p.seq) ∧ (pgCells l)[j * 5 + 4]? = some (.string p.body) := by
  intro l
  induction l with
  | nil => intro j p h; simp at h
  | cons a l ih =>
    intro j p h
    have e : pgCells (a :: l) = .int .i64 a.kind :: .int .i64 a.space :: .int .i64 a.key :: .int .i64 a.seq :: .string a.body :: pgCells l := by simp [pgCells]
    cases j with
    | zero => simp at h; subst h; rw [e]; exact ⟨rfl, rfl, rfl, rfl, rfl⟩
    | succ j =>
      rw [List.getElem?_cons_succ] at h
      have := ih j p h
      rw [e, show (j + 1) * 5 = j * 5 + 1 + 1 + 1 + 1 + 1 from by omega]
      simpa using this
theorem info_page : (Tryd.prog.info? 23).map (fun i => (i.zero, i.size, i.bytes)) = some (some (.agg #[.int .i64 0, .int .i64 0, .int .i64 0, .int .i64 0, .string ⟨#[]⟩]), 5, 48) := by kernel_rfl

/-- The row. -/
def OwnP (w0 w : World) (v : Value) (l : List Pg) : Prop := w.ownsRow w0.heap.size 23 5 v l.length (pgCells l)
theorem OwnP.errs {w0 w w' : World} {v : Value} {l : List Pg} (h : OwnP w0 w v l) (k : Errs w w') : OwnP w0 w' v l := by
  obtain ⟨h1, h2⟩ := h
  refine ⟨h1, ?_⟩
  rcases h2 with h2 | ⟨g, cap, cur, rfl, hg, hh, r⟩
  · exact .inl h2
  · exact .inr ⟨g, cap, cur, rfl, hg, k _ _ _ rfl hh, r⟩
theorem St.row {w0 w w' : World} {g : Nat} {d : Nd} {v : Value} {l : List Pg} (h : St w0 w g d) (ho : OwnP w0 w v l) (hg : w.grownBy w' v.ownBlock) : St w0 w' g d := by
  obtain ⟨r, hr, h⟩ := h
  refine ⟨r, hr, h.at_.kept fun k hk => hg.block k (h.at_.lt hk) fun e => ?_, h.ok, h.low, h.bel.grown hg h.bel.size fun k hk => (ho.lt k hk).1⟩
  rcases ho.2 with ⟨rfl, _⟩ | ⟨gb, cap, cur, rfl, hb, hh, _⟩
  · simp [Value.ownBlock] at e
  · have : k = gb := by simpa [Value.ownBlock] using e
    subst this
    exact h.at_.noOther (T := 23) rfl hh hk
/-- The row is read. -/
theorem OwnP.get {w0 w : World} {v : Value} {l : List Pg} (h : OwnP w0 w v l) (i : Nat) (p : Pg) (hi : l[i]? = some p) :
    ∃ g c, v = .slice (some ⟨g, 0, none⟩) l.length c ∧ w.cell? ⟨g, i * 5, none⟩ = some (.int .i64 p.kind) ∧ w.cell? ⟨g, i * 5 + 1, none⟩ = some (.int .i64 p.space) ∧ w.cell? ⟨g, i * 5 + 2, none⟩ = some (.int .i64 p.key) ∧ w.cell? ⟨g, i * 5 + 3, none⟩ = some (.int .i64 p.seq) ∧ w.cell? ⟨g, i * 5 + 4, none⟩ = some (.string p.body) := by
  have hlt : i < l.length := (List.getElem?_eq_some_iff.1 hi).1
  obtain ⟨g, c, rfl, _, _⟩ := own_form h (by omega)
  obtain ⟨e0, e1, e2, e3, e4⟩ := pgCells_get l i p hi
  have cell : ∀ j u, (pgCells l)[j]? = some u → w.cell? ⟨g, j, none⟩ = some u := by
    intro j u hu
    have := h.cells (g := g) rfl j u hu
    rwa [show (⟨g, 0, none⟩ : Addr).add j = ⟨g, j, none⟩ from by unfold Addr.add; split <;> simp_all] at this
  exact ⟨g, c, rfl, cell _ _ e0, cell _ _ e1, cell _ _ e2, cell _ _ e3, cell _ _ e4⟩
def byt (p : Pg) : ByteArray := FM.str (PG.bytes p)
theorem block_of (a : Int) : ∃ f : Nat, (wrap64 (a.tmod 16 + 16)).tmod 16 = (f : Int) ∧ f < 16 := by
  have h1 := Int.tmod_lt_of_pos a (show (0 : Int) < 16 by decide)
  have h2 := Int.lt_tmod_of_pos a (show (0 : Int) < 16 by decide)
  generalize a.tmod 16 = q at h1 h2 ⊢
  rw [IntWalk.wrap64_in _ ⟨by omega, by omega⟩, Int.tmod_eq_emod_of_nonneg (by omega)]
  have h3 := Int.emod_nonneg (q + 16) (by decide : (16 : Int) ≠ 0)
  have h4 := Int.emod_lt_of_pos (q + 16) (show (0 : Int) < 16 by decide)
  refine ⟨((q + 16) % 16).toNat, ?_, ?_⟩ <;> omega
theorem mul8 (B : Nat) (h : B < 16) : IntKind.i64.wrap (8 * (B : Int)) = ((8 * B : Nat) : Int) := by
  rw [IntWalk.i64_in _ (by omega)]; rfl
theorem add8 (B n : Nat) (h : B < 16) (hn : n ≤ 8) : IntKind.i64.wrap (((8 * B : Nat) : Int) + (n : Int)) = ((8 * B + n : Nat) : Int) := by
  rw [IntWalk.i64_in _ (by omega)]; rfl
theorem addB (B n : Nat) (h : B < 16) (hn : n ≤ 8) : IntKind.i64.wrap ((B : Int) + (n : Int)) = ((B + n : Nat) : Int) := by
  rw [IntWalk.i64_in _ (by omega)]; rfl
def rootP : Pg := ⟨4, 0, 0, 0, ⟨#[]⟩⟩
theorem root_may : May rootP := by unfold May rootP; decide
end TP
end Go.Proofs.YtolcacmkageidacDoor
