/- Rows of extents in memory: one that is read, one of the call's own. No program. -/
import Derived.Test.YtdjlflinepefbaaExMath2
import Derived.Test.YtdjlflinepefbaaMem
namespace Go.Proofs.Ytdjlflinepefbaa
open Go.RowKit
namespace EX
open MM
set_option linter.unusedVariables false
set_option linter.unusedSimpArgs false

/-- An extent's four cells, from a place on. -/
def Cells4 (w : World) (b o : Nat) (e : Ext) : Prop := w.cell? ⟨b, o, none⟩ = some (.int .i64 e.from_) ∧ w.cell? ⟨b, o + 1, none⟩ = some (.int .i64 e.n) ∧ w.cell? ⟨b, o + 2, none⟩ = some (.int .i64 e.kind) ∧ w.cell? ⟨b, o + 3, none⟩ = some (.int .i64 e.at_)
/-- A slice that reads as a list; nothing is said of an empty one's address. -/
def Exs (w : World) (a : Option Addr) (l : List Ext) : Prop := l = [] ∨ ∃ b off, a = some ⟨b, off, none⟩ ∧ b < w.heap.size ∧ ∀ (i : Nat) (e : Ext), l[i]? = some e → Cells4 w b (off + i * 4) e
theorem Cells4.kept {w w' : World} {b o B : Nat} {e : Ext} (h : Cells4 w b o e) (hb : Below B w w') (hB : b < B) : Cells4 w' b o e := by
  obtain ⟨h0, h1, h2, h3⟩ := h
  exact ⟨(hb.cell (p := ⟨b, o, none⟩) hB).trans h0, (hb.cell (p := ⟨b, o + 1, none⟩) hB).trans h1, (hb.cell (p := ⟨b, o + 2, none⟩) hB).trans h2, (hb.cell (p := ⟨b, o + 3, none⟩) hB).trans h3⟩
theorem Exs.kept {w w' : World} {a : Option Addr} {l : List Ext} {B : Nat} (h : Exs w a l) (hb : Below B w w') (hB : w.heap.size ≤ B) : Exs w' a l := by
  rcases h with h | ⟨b, off, rfl, hlt, hc⟩
  · exact .inl h
  · exact .inr ⟨b, off, rfl, Nat.lt_of_lt_of_le hlt hb.size, fun i e hi => (hc i e hi).kept hb (Nat.lt_of_lt_of_le hlt hB)⟩
theorem Exs.below {w w' : World} {a : Option Addr} {l : List Ext} (h : Exs w a l) (hb : Below w.heap.size w w') : Exs w' a l := h.kept hb (Nat.le_refl _)

def exCells (l : List Ext) : List Value := l.flatMap fun e => [.int .i64 e.from_, .int .i64 e.n, .int .i64 e.kind, .int .i64 e.at_]
theorem exCells_snoc (l : List Ext) (e : Ext) : exCells l ++ [.int .i64 e.from_, .int .i64 e.n, .int .i64 e.kind, .int .i64 e.at_] = exCells (l ++ [e]) := by
  simp [exCells, List.flatMap_append]
theorem exCells_len (l : List Ext) : (exCells l).length = l.length * 4 := by
  induction l with
  | nil => rfl
  | cons a l ih =>
    have e : exCells (a :: l) = .int .i64 a.from_ :: .int .i64 a.n :: .int .i64 a.kind :: .int .i64 a.at_ :: exCells l := by simp [exCells]
    rw [e]; simp only [List.length_cons]; omega
theorem exCells_get : ∀ (l : List Ext) (j : Nat) (e : Ext), l[j]? = some e → (exCells l)[j * 4]? = some (.int .i64 e.from_) ∧ (exCells l)[j * 4 + 1]? = some (.int .i64 e.n) ∧ (exCells l)[j * 4 + 2]? = some (.int .i64 e.kind) ∧ (exCells l)[j * 4 + 3]? = some (.int .i64 e.at_) := by
  intro l
  induction l with
  | nil => intro j p h; simp at h
  | cons a l ih =>
    intro j p h
    have e : exCells (a :: l) = .int .i64 a.from_ :: .int .i64 a.n :: .int .i64 a.kind :: .int .i64 a.at_ :: exCells l := by simp [exCells]
    cases j with
    | zero => simp at h; subst h; rw [e]; exact ⟨rfl, rfl, rfl, rfl⟩
    | succ j =>
      rw [List.getElem?_cons_succ] at h
      have := ih j p h
      rw [e, show (j + 1) * 4 = j * 4 + 1 + 1 + 1 + 1 from by omega]
      simpa using this
/-- A row of the call's own reads as its list. -/
theorem own_exs {w : World} {base : Nat} {e : TypeId} {v : Value} {l : List Ext} (h : w.ownsRow base e 4 v l.length (exCells l)) :
    ∃ A c, v = .slice A l.length c ∧ Exs w A l := by
  rcases h.2 with ⟨hv, h0⟩ | ⟨g, cap, cur, hv, hg, hh, r⟩
  · refine ⟨none, 0, by rw [hv, h0], .inl (List.eq_nil_of_length_eq_zero h0)⟩
  · refine ⟨_, _, hv, .inr ⟨g, 0, rfl, (Array.getElem?_eq_some_iff.1 hh).1, fun i x hi => ?_⟩⟩
    have cell : ∀ j u, (exCells l)[j]? = some u → w.cell? ⟨g, j, none⟩ = some u := by
      intro j u hu
      have := h.cells (g := g) (by rw [hv]; rfl) j u hu
      rwa [show (⟨g, 0, none⟩ : Addr).add j = ⟨g, j, none⟩ from by unfold Addr.add; split <;> simp_all] at this
    obtain ⟨e0, e1, e2, e3⟩ := exCells_get l i x hi
    rw [Nat.zero_add]
    exact ⟨cell _ _ e0, cell _ _ e1, cell _ _ e2, cell _ _ e3⟩
end EX
end Go.Proofs.Ytdjlflinepefbaa
