/- Plain facts on how unlike blocks are worn. No program. -/
import Derived.Test.YtomncnelkkmalacWrMath
namespace Go.Proofs.Ytomncnelkkmalac
namespace WR
set_option linter.unusedVariables false
set_option linter.unusedSimpArgs false

/-- The greatest of those in use, and a first one. -/
def Mx (L : List Bk) (k : Nat) (m0 m : Int) : Prop := m0 ≤ m ∧ (∀ (i : Nat) (x : Bk), i < k → L[i]? = some x → inUse x → wn x ≤ m) ∧ (m = m0 ∨ ∃ (i : Nat) (x : Bk), i < k ∧ L[i]? = some x ∧ inUse x ∧ wn x = m)
theorem mx_zero (L : List Bk) (m : Int) : Mx L 0 m m := ⟨Int.le_refl _, fun i x hi => by omega, .inl rfl⟩
theorem mx_skip {L : List Bk} {k : Nat} {m0 m : Int} {e : Bk} (h : Mx L k m0 m) (he : L[k]? = some e) (hp : inUse e → wn e ≤ m) : Mx L (k + 1) m0 m := by
  obtain ⟨h1, h2, h3⟩ := h
  refine ⟨h1, fun i x hi hx hu => ?_, ?_⟩
  · rcases at_last he hi hx with c | rfl
    · exact h2 i x c hx hu
    · exact hp hu
  · rcases h3 with h3 | ⟨i, x, a, b⟩
    · exact .inl h3
    · exact .inr ⟨i, x, by omega, b⟩
theorem mx_up {L : List Bk} {k : Nat} {m0 m : Int} {e : Bk} (h : Mx L k m0 m) (he : L[k]? = some e) (hp : inUse e) (hl : m < wn e) : Mx L (k + 1) m0 (wn e) := by
  obtain ⟨h1, h2, h3⟩ := h
  refine ⟨by omega, fun i x hi hx hu => ?_, .inr ⟨k, e, by omega, he, hp, rfl⟩⟩
  rcases at_last he hi hx with c | rfl
  · have := h2 i x c hx hu; omega
  · exact Int.le_refl _
theorem mx_bound {L : List Bk} {k : Nat} {m0 m : Int} (h : Mx L k m0 m) (hw : ∀ e ∈ L, WfB e) (h0 : m0 ≤ 9223372036854775807) : m ≤ 9223372036854775807 := by
  rcases h.2.2 with h3 | ⟨i, x, a, b, c, d⟩
  · omega
  · have := wn_le (hw x (List.mem_of_getElem? b)); omega
/-- The greatest of those in use. -/
def MaxU (L : List Bk) (k : Nat) (m : Int) : Prop := (∀ (i : Nat) (x : Bk), i < k → L[i]? = some x → inUse x → wn x ≤ m) ∧ ∃ (i : Nat) (x : Bk), i < k ∧ L[i]? = some x ∧ inUse x ∧ wn x = m
theorem maxu_uniq {L : List Bk} {k : Nat} {m n : Int} (h : MaxU L k m) (h' : MaxU L k n) : m = n := by
  obtain ⟨h1, i, x, h2, h3, h4, h5⟩ := h
  obtain ⟨g1, j, y, g2, g3, g4, g5⟩ := h'
  have a := h1 j y g2 g3 g4
  have b := g1 i x h2 h3 h4
  omega
theorem mx_max {L : List Bk} {k j : Nat} {m : Int} {y : Bk} (h : Mx L k (wn y) m) (hj : j < k) (hy : L[j]? = some y) (hu : inUse y) : MaxU L k m := by
  obtain ⟨h1, h2, h3⟩ := h
  refine ⟨h2, ?_⟩
  rcases h3 with h3 | h3
  · exact ⟨j, y, hj, hy, hu, h3.symm⟩
  · exact h3
def MinU (L : List Bk) (k : Nat) (m : Int) : Prop := (∀ (i : Nat) (x : Bk), i < k → L[i]? = some x → inUse x → m ≤ wn x) ∧ ∃ (i : Nat) (x : Bk), i < k ∧ L[i]? = some x ∧ inUse x ∧ wn x = m
theorem minu_uniq {L : List Bk} {k : Nat} {m n : Int} (h : MinU L k m) (h' : MinU L k n) : m = n := by
  obtain ⟨h1, i, x, h2, h3, h4, h5⟩ := h
  obtain ⟨g1, j, y, g2, g3, g4, g5⟩ := h'
  have a := h1 j y g2 g3 g4
  have b := g1 i x h2 h3 h4
  omega
def NoU (L : List Bk) (k : Nat) : Prop := ∀ (i : Nat) (x : Bk), i < k → L[i]? = some x → ¬ inUse x
/-- The least and the greatest of those in use. -/
def Bo (L : List Bk) (k : Nat) (lo hi : Int) (so : Bool) : Prop := (so = false ∧ lo = 0 ∧ hi = 0 ∧ NoU L k) ∨ (so = true ∧ MinU L k lo ∧ MaxU L k hi)
theorem bo_skip {L : List Bk} {k : Nat} {lo hi : Int} {so : Bool} {e : Bk} (h : Bo L k lo hi so) (he : L[k]? = some e) (hp : ¬ inUse e) : Bo L (k + 1) lo hi so := by
  have key : ∀ (i : Nat) (x : Bk), i < k + 1 → L[i]? = some x → inUse x → i < k := by
    intro i x hi hx hu
    rcases at_last he hi hx with c | rfl
    · exact c
    · exact absurd hu hp
  rcases h with ⟨h1, h2, h3, h4⟩ | ⟨h1, ⟨h2, i, x, h3, h4⟩, h5, j, y, h6, h7⟩
  · exact .inl ⟨h1, h2, h3, fun i x hi hx hu => h4 i x (key i x hi hx hu) hx hu⟩
  · exact .inr ⟨h1, ⟨fun i x hi hx hu => h2 i x (key i x hi hx hu) hx hu, i, x, by omega, h4⟩, fun i x hi hx hu => h5 i x (key i x hi hx hu) hx hu, j, y, by omega, h7⟩
theorem bo_first {L : List Bk} {k : Nat} {lo hi : Int} {e : Bk} (h : Bo L k lo hi false) (he : L[k]? = some e) (hp : inUse e) : Bo L (k + 1) (wn e) (wn e) true := by
  rcases h with ⟨h1, h2, h3, h4⟩ | ⟨h1, _⟩
  · have key : ∀ (i : Nat) (x : Bk), i < k + 1 → L[i]? = some x → inUse x → x = e := by
      intro i x hi hx hu
      rcases at_last he hi hx with c | rfl
      · exact absurd hu (h4 i x c hx)
      · rfl
    exact .inr ⟨rfl, ⟨fun i x hi hx hu => by rw [key i x hi hx hu]; exact Int.le_refl _, k, e, by omega, he, hp, rfl⟩, fun i x hi hx hu => by rw [key i x hi hx hu]; exact Int.le_refl _, k, e, by omega, he, hp, rfl⟩
  · cases h1
theorem bo_next {L : List Bk} {k : Nat} {lo hi lo2 hi2 : Int} {e : Bk} (h : Bo L k lo hi true) (he : L[k]? = some e) (hp : inUse e) (hl : (wn e < lo ∧ lo2 = wn e) ∨ (¬ wn e < lo ∧ lo2 = lo)) (hh : (hi < wn e ∧ hi2 = wn e) ∨ (¬ hi < wn e ∧ hi2 = hi)) : Bo L (k + 1) lo2 hi2 true := by
  rcases h with ⟨h1, _⟩ | ⟨h1, ⟨h2, i, x, h3, h4, h4a, h4b⟩, h5, j, y, h6, h7, h7a, h7b⟩
  · cases h1
  · refine .inr ⟨rfl, ⟨fun i x hi hx hu => ?_, ?_⟩, fun i x hi hx hu => ?_, ?_⟩
    · rcases at_last he hi hx with c | rfl
      · have := h2 i x c hx hu; omega
      · omega
    · rcases hl with ⟨a, rfl⟩ | ⟨a, rfl⟩
      · exact ⟨k, e, by omega, he, hp, rfl⟩
      · exact ⟨i, x, by omega, h4, h4a, h4b⟩
    · rcases at_last he hi hx with c | rfl
      · have := h5 i x c hx hu; omega
      · omega
    · rcases hh with ⟨a, rfl⟩ | ⟨a, rfl⟩
      · exact ⟨k, e, by omega, he, hp, rfl⟩
      · exact ⟨j, y, by omega, h7, h7a, h7b⟩
theorem minu_least {L : List Bk} {k j : Nat} {y : Bk} (h : Least inUse LtW L k (j : Int)) (hy : L[j]? = some y) : MinU L k (wn y) := by
  rcases h with ⟨h1, _⟩ | ⟨j', y', h1, h2, h3, h4, h5, h6⟩
  · omega
  · obtain rfl : j' = j := by omega
    rw [hy] at h3; injection h3 with h3; subst h3
    exact ⟨fun i x hi hx hu => by have := h5 i x hi hx hu; unfold LtW at this; omega, j', y, h2, hy, h4, rfl⟩
def Gp (L : List Bk) (k : Nat) (g : Int) : Prop := (g = 0 ∧ NoU L k) ∨ ∃ lo hi, MinU L k lo ∧ MaxU L k hi ∧ g = hi - lo
theorem gp_uniq {L : List Bk} {k : Nat} {g g' : Int} (h : Gp L k g) (h' : Gp L k g') : g = g' := by
  rcases h with ⟨h1, h2⟩ | ⟨lo, hi, h1, h2, h3⟩
  · rcases h' with ⟨g1, g2⟩ | ⟨lo', hi', g1, g2, g3⟩
    · rw [h1, g1]
    · obtain ⟨_, i, x, a, b, c, _⟩ := g1; exact absurd c (h2 i x a b)
  · rcases h' with ⟨g1, g2⟩ | ⟨lo', hi', g1, g2, g3⟩
    · obtain ⟨_, i, x, a, b, c, _⟩ := h1; exact absurd c (g2 i x a b)
    · rw [h3, g3, minu_uniq h1 g1, maxu_uniq h2 g2]
theorem bo_gap {L : List Bk} {k : Nat} {lo hi : Int} {so : Bool} (h : Bo L k lo hi so) : Gp L k (hi - lo) := by
  rcases h with ⟨_, h2, h3, h4⟩ | ⟨_, h2, h3⟩
  · exact .inl ⟨by omega, h4⟩
  · exact .inr ⟨lo, hi, h2, h3, rfl⟩
theorem maxu_wf {L : List Bk} {k : Nat} {m : Int} (h : MaxU L k m) (hw : ∀ e ∈ L, WfB e) : 0 ≤ m ∧ m ≤ 9223372036854775807 := by
  obtain ⟨_, i, x, a, b, c, d⟩ := h
  have := wn_le (hw x (List.mem_of_getElem? b)); have := wn_nonneg x; omega
theorem minu_wf {L : List Bk} {k : Nat} {m : Int} (h : MinU L k m) (hw : ∀ e ∈ L, WfB e) : 0 ≤ m ∧ m ≤ 9223372036854775807 := by
  obtain ⟨_, i, x, a, b, c, d⟩ := h
  have := wn_le (hw x (List.mem_of_getElem? b)); have := wn_nonneg x; omega
theorem bo_wf {L : List Bk} {k : Nat} {lo hi : Int} {so : Bool} (h : Bo L k lo hi so) (hw : ∀ e ∈ L, WfB e) : 0 ≤ lo ∧ lo ≤ 9223372036854775807 ∧ 0 ≤ hi ∧ hi ≤ 9223372036854775807 := by
  rcases h with ⟨_, h2, h3, _⟩ | ⟨_, h2, h3⟩
  · omega
  · have := minu_wf h2 hw; have := maxu_wf h3 hw; omega
/-- What was left behind (-1: nothing). -/
def Cd (L : List Bk) (k : Nat) (gap r : Int) : Prop := ∃ q, Least isFull LtW L k q ∧ (q = -1 → r = -1) ∧ ∀ (j : Nat) (y : Bk), q = (j : Int) → L[j]? = some y → ∃ hi, MaxU L k hi ∧ (hi - wn y ≤ wn ⟨0, 0, gap⟩ → r = -1) ∧ (¬ hi - wn y ≤ wn ⟨0, 0, gap⟩ → r = q)
theorem cd_uniq {L : List Bk} {k : Nat} {gap r s : Int} (h : Cd L k gap r) (h' : Cd L k gap s) : r = s := by
  obtain ⟨q, h1, h2, h3⟩ := h
  obtain ⟨p, g1, g2, g3⟩ := h'
  obtain rfl := least_uniq h1 g1
  rcases least_lt h1 with c | ⟨j, y, c1, c2, c3, c4⟩
  · rw [h2 c, g2 c]
  · obtain ⟨m, a1, a2, a3⟩ := h3 j y c1 c3
    obtain ⟨n, b1, b2, b3⟩ := g3 j y c1 c3
    obtain rfl := maxu_uniq a1 b1
    by_cases d : m - wn y ≤ wn ⟨0, 0, gap⟩
    · rw [a2 d, b2 d]
    · rw [a3 d, b3 d]
end WR
end Go.Proofs.Ytomncnelkkmalac
