/- Rows of blocks in memory: one that is read, one of the call's own. No program. -/
import Derived.Test.YtomncnelkkmalacWrMath
import Derived.Test.YtomncnelkkmalacMem
namespace Go.Proofs.Ytomncnelkkmalac
open Go.RowKit
namespace WR
open MM
set_option linter.unusedVariables false
set_option linter.unusedSimpArgs false

/-- A block's three cells, from a place on. -/
def Cells3 (w : World) (b o : Nat) (e : Bk) : Prop := w.cell? ⟨b, o, none⟩ = some (.int .i64 e.st) ∧ w.cell? ⟨b, o + 1, none⟩ = some (.int .i64 e.va) ∧ w.cell? ⟨b, o + 2, none⟩ = some (.int .i64 e.wo)
/-- A slice that reads as a table; nothing is said of an empty one's address. -/
def Bks (w : World) (a : Option Addr) (l : List Bk) : Prop := l = [] ∨ ∃ b off, a = some ⟨b, off, none⟩ ∧ b < w.heap.size ∧ ∀ (i : Nat) (e : Bk), l[i]? = some e → Cells3 w b (off + i * 3) e
theorem Cells3.kept {w w' : World} {b o B : Nat} {e : Bk} (h : Cells3 w b o e) (hb : Below B w w') (hB : b < B) : Cells3 w' b o e := by
  obtain ⟨h0, h1, h2⟩ := h
  exact ⟨(hb.cell (p := ⟨b, o, none⟩) hB).trans h0, (hb.cell (p := ⟨b, o + 1, none⟩) hB).trans h1, (hb.cell (p := ⟨b, o + 2, none⟩) hB).trans h2⟩
theorem Bks.below {w w' : World} {a : Option Addr} {l : List Bk} (h : Bks w a l) (hb : Below w.heap.size w w') : Bks w' a l := by
  rcases h with h | ⟨b, off, rfl, hlt, hc⟩
  · exact .inl h
  · exact .inr ⟨b, off, rfl, Nat.lt_of_lt_of_le hlt hb.size, fun i e hi => (hc i e hi).kept hb hlt⟩
theorem Bks.get {w : World} {A : Option Addr} {l : List Bk} (h : Bks w A l) {k : Nat} {x : Bk} (hx : l[k]? = some x) : ∃ b off, A = some ⟨b, off, none⟩ ∧ b < w.heap.size ∧ ∀ (i : Nat) (e : Bk), l[i]? = some e → Cells3 w b (off + i * 3) e := by
  rcases h with h | h
  · rw [h] at hx; simp at hx
  · exact h

def bkCells (l : List Bk) : List Value := l.flatMap fun e => [.int .i64 e.st, .int .i64 e.va, .int .i64 e.wo]
theorem bkCells_snoc (l : List Bk) (e : Bk) : bkCells l ++ [.int .i64 e.st, .int .i64 e.va, .int .i64 e.wo] = bkCells (l ++ [e]) := by
  simp [bkCells, List.flatMap_append]
theorem bkCells_get : ∀ (l : List Bk) (j : Nat) (e : Bk), l[j]? = some e → (bkCells l)[j * 3]? = some (.int .i64 e.st) ∧ (bkCells l)[j * 3 + 1]? = some (.int .i64 e.va) ∧ (bkCells l)[j * 3 + 2]? = some (.int .i64 e.wo) := by
  intro l
  induction l with
  | nil => intro j p h; simp at h
  | cons a l ih =>
    intro j p h
    have e : bkCells (a :: l) = .int .i64 a.st :: .int .i64 a.va :: .int .i64 a.wo :: bkCells l := by simp [bkCells]
    cases j with
    | zero => simp at h; subst h; rw [e]; exact ⟨rfl, rfl, rfl⟩
    | succ j =>
      rw [List.getElem?_cons_succ] at h
      have := ih j p h
      rw [e, show (j + 1) * 3 = j * 3 + 1 + 1 + 1 from by omega]
      simpa using this
theorem own_bks {w : World} {base : Nat} {e : TypeId} {v : Value} {l : List Bk} (h : w.ownsRow base e 3 v l.length (bkCells l)) :
    ∃ A c, v = .slice A l.length c ∧ Bks w A l := by
  rcases h.2 with ⟨hv, h0⟩ | ⟨g, cap, cur, hv, hg, hh, r⟩
  · refine ⟨none, 0, by rw [hv, h0], .inl (List.eq_nil_of_length_eq_zero h0)⟩
  · refine ⟨_, _, hv, .inr ⟨g, 0, rfl, (Array.getElem?_eq_some_iff.1 hh).1, fun i x hi => ?_⟩⟩
    have cell : ∀ j u, (bkCells l)[j]? = some u → w.cell? ⟨g, j, none⟩ = some u := by
      intro j u hu
      have := h.cells (g := g) (by rw [hv]; rfl) j u hu
      rwa [show (⟨g, 0, none⟩ : Addr).add j = ⟨g, j, none⟩ from by unfold Addr.add; split <;> simp_all] at this
    obtain ⟨e0, e1, e2⟩ := bkCells_get l i x hi
    rw [Nat.zero_add]
    exact ⟨cell _ _ e0, cell _ _ e1, cell _ _ e2⟩
theorem wtake_snoc {l : List Bk} {k : Nat} {e : Bk} (h : l[k]? = some e) : l.take (k + 1) = l.take k ++ [e] := by
  rw [List.take_add_one, h]; rfl
end WR
end Go.Proofs.Ytomncnelkkmalac
