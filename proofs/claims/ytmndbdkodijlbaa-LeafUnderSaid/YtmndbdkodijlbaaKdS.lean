/- Rows of kids in memory: one that is read, one of the call's own. No program. -/
import Derived.Test.YtmndbdkodijlbaaLfMath
import Derived.Test.YtmndbdkodijlbaaMem
namespace Go.Proofs.Ytmndbdkodijlbaa
open Go.RowKit
namespace LF
open MM
set_option linter.unusedVariables false
set_option linter.unusedSimpArgs false

/-- A kid's two cells, from a place on. -/
def Cells2 (w : World) (b o : Nat) (e : Kid) : Prop := w.cell? ⟨b, o, none⟩ = some (.int .i64 e.key) ∧ w.cell? ⟨b, o + 1, none⟩ = some (.int .i64 e.at_)
/-- A slice that reads as a list; nothing is said of an empty one's address. -/
def Kds (w : World) (a : Option Addr) (l : List Kid) : Prop := l = [] ∨ ∃ b off, a = some ⟨b, off, none⟩ ∧ b < w.heap.size ∧ ∀ (i : Nat) (e : Kid), l[i]? = some e → Cells2 w b (off + i * 2) e
theorem Cells2.kept {w w' : World} {b o B : Nat} {e : Kid} (h : Cells2 w b o e) (hb : Below B w w') (hB : b < B) : Cells2 w' b o e := by
  obtain ⟨h0, h1⟩ := h
  exact ⟨(hb.cell (p := ⟨b, o, none⟩) hB).trans h0, (hb.cell (p := ⟨b, o + 1, none⟩) hB).trans h1⟩
theorem Kds.kept {w w' : World} {a : Option Addr} {l : List Kid} {B : Nat} (h : Kds w a l) (hb : Below B w w') (hB : w.heap.size ≤ B) : Kds w' a l := by
  rcases h with h | ⟨b, off, rfl, hlt, hc⟩
  · exact .inl h
  · exact .inr ⟨b, off, rfl, Nat.lt_of_lt_of_le hlt hb.size, fun i e hi => (hc i e hi).kept hb (Nat.lt_of_lt_of_le hlt hB)⟩
theorem Kds.below {w w' : World} {a : Option Addr} {l : List Kid} (h : Kds w a l) (hb : Below w.heap.size w w') : Kds w' a l := h.kept hb (Nat.le_refl _)

def kdCells (l : List Kid) : List Value := l.flatMap fun e => [.int .i64 e.key, .int .i64 e.at_]
theorem kdCells_snoc (l : List Kid) (e : Kid) : kdCells l ++ [.int .i64 e.key, .int .i64 e.at_] = kdCells (l ++ [e]) := by
  simp [kdCells, List.flatMap_append]
theorem kdCells_len (l : List Kid) : (kdCells l).length = l.length * 2 := by
  induction l with
  | nil => rfl
  | cons a l ih =>
    have e : kdCells (a :: l) = .int .i64 a.key :: .int .i64 a.at_ :: kdCells l := by simp [kdCells]
    rw [e]; simp only [List.length_cons]; omega
theorem kdCells_get : ∀ (l : List Kid) (j : Nat) (e : Kid), l[j]? = some e → (kdCells l)[j * 2]? = some (.int .i64 e.key) ∧ (kdCells l)[j * 2 + 1]? = some (.int .i64 e.at_) := by
  intro l
  induction l with
  | nil => intro j p h; simp at h
  | cons a l ih =>
    intro j p h
    have e : kdCells (a :: l) = .int .i64 a.key :: .int .i64 a.at_ :: kdCells l := by simp [kdCells]
    cases j with
    | zero => simp at h; subst h; rw [e]; exact ⟨rfl, rfl⟩
    | succ j =>
      rw [List.getElem?_cons_succ] at h
      have := ih j p h
      rw [e, show (j + 1) * 2 = j * 2 + 1 + 1 from by omega]
      simpa using this
/-- A row of the call's own reads as its list. -/
theorem own_kds {w : World} {base : Nat} {e : TypeId} {v : Value} {l : List Kid} (h : w.ownsRow base e 2 v l.length (kdCells l)) :
    ∃ A c, v = .slice A l.length c ∧ Kds w A l := by
  rcases h.2 with ⟨hv, h0⟩ | ⟨g, cap, cur, hv, hg, hh, r⟩
  · refine ⟨none, 0, by rw [hv, h0], .inl (List.eq_nil_of_length_eq_zero h0)⟩
  · refine ⟨_, _, hv, .inr ⟨g, 0, rfl, (Array.getElem?_eq_some_iff.1 hh).1, fun i x hi => ?_⟩⟩
    have cell : ∀ j u, (kdCells l)[j]? = some u → w.cell? ⟨g, j, none⟩ = some u := by
      intro j u hu
      have := h.cells (g := g) (by rw [hv]; rfl) j u hu
      rwa [show (⟨g, 0, none⟩ : Addr).add j = ⟨g, j, none⟩ from by unfold Addr.add; split <;> simp_all] at this
    obtain ⟨e0, e1⟩ := kdCells_get l i x hi
    rw [Nat.zero_add]
    exact ⟨cell _ _ e0, cell _ _ e1⟩
theorem kds_get {w : World} {A : Option Addr} {l : List Kid} (h : Kds w A l) {k : Nat} {x : Kid} (hx : l[k]? = some x) : ∃ b off, A = some ⟨b, off, none⟩ ∧ b < w.heap.size ∧ ∀ (i : Nat) (x : Kid), l[i]? = some x → Cells2 w b (off + i * 2) x := by
  rcases h with rfl | ⟨b, off, hA, hb, hc⟩
  · simp at hx
  · exact ⟨b, off, hA, hb, hc⟩
end LF
end Go.Proofs.Ytmndbdkodijlbaa
