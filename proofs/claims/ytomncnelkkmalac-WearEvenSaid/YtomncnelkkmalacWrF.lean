/- A table of blocks that is a block of memory known whole: how it is made, read and written. No program. -/
import Derived.Test.YtomncnelkkmalacWrS
import Derived.Laws.MakeOwn
namespace Go.Proofs.Ytomncnelkkmalac
open Go.RowKit
namespace WR
open MM
set_option linter.unusedVariables false
set_option linter.unusedSimpArgs false

/-- The cells of a table, as a block's. -/
def tab (L : List Bk) : Array Value := (bkCells L).toArray
theorem bkCells_cons (a : Bk) (L : List Bk) : bkCells (a :: L) = .int .i64 a.st :: .int .i64 a.va :: .int .i64 a.wo :: bkCells L := by simp [bkCells]
theorem bkCells_len : ∀ (L : List Bk), (bkCells L).length = L.length * 3
  | [] => rfl
  | a :: L => by rw [bkCells_cons]; simp only [List.length_cons, bkCells_len L]; omega
theorem tab_size (L : List Bk) : (tab L).size = L.length * 3 := by unfold tab; rw [List.size_toArray, bkCells_len]
theorem tab_get {L : List Bk} {k : Nat} {e : Bk} (h : L[k]? = some e) : (tab L)[k * 3]? = some (.int .i64 e.st) ∧ (tab L)[k * 3 + 1]? = some (.int .i64 e.va) ∧ (tab L)[k * 3 + 2]? = some (.int .i64 e.wo) := by
  unfold tab
  simp only [List.getElem?_toArray]
  exact bkCells_get L k e h
theorem tab_bks {w : World} {g : Nat} {t : TypeId} {L : List Bk} (h : Blk w g t (tab L)) : Bks w (some ⟨g, 0, none⟩) L := by
  refine .inr ⟨g, 0, rfl, h.lt, fun i e hi => ?_⟩
  obtain ⟨h0, h1, h2⟩ := tab_get hi
  rw [Nat.zero_add]
  exact ⟨by rw [h.cell]; exact h0, by rw [h.cell]; exact h1, by rw [h.cell]; exact h2⟩
theorem bk_set0 (s : Int) : ∀ (L : List Bk) (k : Nat) (e : Bk), L[k]? = some e → (bkCells L).set (k * 3) (.int .i64 s) = bkCells (L.set k ⟨s, e.va, e.wo⟩)
  | [], k, e, h => by simp at h
  | a :: L, 0, e, h => by simp at h; subst h; rw [List.set_cons_zero, bkCells_cons, bkCells_cons]; rfl
  | a :: L, k + 1, e, h => by
    rw [List.getElem?_cons_succ] at h
    rw [List.set_cons_succ, bkCells_cons, bkCells_cons, show (k + 1) * 3 = k * 3 + 1 + 1 + 1 from by omega, List.set_cons_succ, List.set_cons_succ, List.set_cons_succ, bk_set0 s L k e h]
theorem bk_set1 (s : Int) : ∀ (L : List Bk) (k : Nat) (e : Bk), L[k]? = some e → (bkCells L).set (k * 3 + 1) (.int .i64 s) = bkCells (L.set k ⟨e.st, s, e.wo⟩)
  | [], k, e, h => by simp at h
  | a :: L, 0, e, h => by simp at h; subst h; rw [List.set_cons_zero, bkCells_cons, bkCells_cons]; rfl
  | a :: L, k + 1, e, h => by
    rw [List.getElem?_cons_succ] at h
    rw [List.set_cons_succ, bkCells_cons, bkCells_cons, show (k + 1) * 3 + 1 = k * 3 + 1 + 1 + 1 + 1 from by omega, List.set_cons_succ, List.set_cons_succ, List.set_cons_succ, bk_set1 s L k e h]
theorem bk_set2 (s : Int) : ∀ (L : List Bk) (k : Nat) (e : Bk), L[k]? = some e → (bkCells L).set (k * 3 + 2) (.int .i64 s) = bkCells (L.set k ⟨e.st, e.va, s⟩)
  | [], k, e, h => by simp at h
  | a :: L, 0, e, h => by simp at h; subst h; rw [List.set_cons_zero, bkCells_cons, bkCells_cons]; rfl
  | a :: L, k + 1, e, h => by
    rw [List.getElem?_cons_succ] at h
    rw [List.set_cons_succ, bkCells_cons, bkCells_cons, show (k + 1) * 3 + 2 = k * 3 + 2 + 1 + 1 + 1 from by omega, List.set_cons_succ, List.set_cons_succ, List.set_cons_succ, bk_set2 s L k e h]
theorem tab_set {w : World} {g : Nat} {t : TypeId} {L : List Bk} {k : Nat} {e : Bk} (h : Blk w g t (tab L)) (he : L[k]? = some e) (s : Int) : Blk (w.setCell ⟨g, k * 3, none⟩ (.int .i64 s)) g t (tab (L.set k ⟨s, e.va, e.wo⟩)) := by
  have h1 := h.set_ (k * 3) (.int .i64 s)
  unfold tab at h1 ⊢
  rw [List.setIfInBounds_toArray, bk_set0 s L k e he] at h1
  exact h1
theorem tab_set3 {w : World} {g : Nat} {t : TypeId} {L : List Bk} {k : Nat} {e : Bk} (h : Blk w g t (tab L)) (he : L[k]? = some e) (s v u : Int) :
    Blk (((w.setCell ⟨g, k * 3, none⟩ (.int .i64 s)).setCell ⟨g, k * 3 + 1, none⟩ (.int .i64 v)).setCell ⟨g, k * 3 + 2, none⟩ (.int .i64 u)) g t (tab (L.set k ⟨s, v, u⟩)) := by
  have hk : k < L.length := (List.getElem?_eq_some_iff.1 he).1
  have h1 := ((h.set_ (k * 3) (.int .i64 s)).set_ (k * 3 + 1) (.int .i64 v)).set_ (k * 3 + 2) (.int .i64 u)
  unfold tab at h1 ⊢
  have e0 : ((((bkCells L).toArray.setIfInBounds (k * 3) (Value.int .i64 s)).setIfInBounds (k * 3 + 1) (Value.int .i64 v)).setIfInBounds (k * 3 + 2) (Value.int .i64 u)) = (bkCells (L.set k ⟨s, v, u⟩)).toArray := by
    have a0 : (bkCells L).toArray.setIfInBounds (k * 3) (Value.int .i64 s) = (bkCells (L.set k ⟨s, e.va, e.wo⟩)).toArray := by rw [List.setIfInBounds_toArray, bk_set0 s L k e he]
    have a1 : (bkCells (L.set k ⟨s, e.va, e.wo⟩)).toArray.setIfInBounds (k * 3 + 1) (Value.int .i64 v) = (bkCells ((L.set k ⟨s, e.va, e.wo⟩).set k ⟨s, v, e.wo⟩)).toArray := by rw [List.setIfInBounds_toArray, bk_set1 v _ k ⟨s, e.va, e.wo⟩ (by simp [hk])]
    have a2 : (bkCells ((L.set k ⟨s, e.va, e.wo⟩).set k ⟨s, v, e.wo⟩)).toArray.setIfInBounds (k * 3 + 2) (Value.int .i64 u) = (bkCells (((L.set k ⟨s, e.va, e.wo⟩).set k ⟨s, v, e.wo⟩).set k ⟨s, v, u⟩)).toArray := by rw [List.setIfInBounds_toArray, bk_set2 u _ k ⟨s, v, e.wo⟩ (by simp [hk])]
    rw [a0, a1, a2, List.set_set, List.set_set]
  rw [e0] at h1
  exact h1
theorem made_tab (B : Nat) : madeCells #[.int .i64 0, .int .i64 0, .int .i64 0] (B * 3) = tab (List.replicate B Bk.zero) := by
  have hlen : (tab (List.replicate B Bk.zero)).size = B * 3 := by rw [tab_size]; simp
  apply Array.ext
  · rw [size_madeCells, hlen]
  · intro i h1 h2
    rw [size_madeCells] at h1
    have hv : (madeCells #[.int .i64 0, .int .i64 0, .int .i64 0] (B * 3))[i]? = some (Value.int .i64 0) := by
      simp only [madeCells, Array.getElem?_map]
      rw [Array.getElem?_range, if_pos h1]
      have : i % 3 = 0 ∨ i % 3 = 1 ∨ i % 3 = 2 := by omega
      rcases this with h | h | h <;> simp [h]
    have hw : (tab (List.replicate B Bk.zero))[i]? = some (Value.int .i64 0) := by
      obtain ⟨g0, g1, g2⟩ := tab_get (L := List.replicate B Bk.zero) (k := i / 3) (e := Bk.zero) (by rw [List.getElem?_replicate, if_pos (by omega)])
      have : i = i / 3 * 3 ∨ i = i / 3 * 3 + 1 ∨ i = i / 3 * 3 + 2 := by omega
      rcases this with h | h | h <;> rw [h]
      · exact g0
      · exact g1
      · exact g2
    rw [Array.getElem?_eq_getElem (by rw [size_madeCells]; exact h1)] at hv
    rw [Array.getElem?_eq_getElem h2] at hw
    exact (Option.some.inj hv).trans (Option.some.inj hw).symm
end WR
end Go.Proofs.Ytomncnelkkmalac
