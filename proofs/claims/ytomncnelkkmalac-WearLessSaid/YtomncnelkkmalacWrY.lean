/- Plain facts on what is picked, what is to be emptied, what was left behind. No program. -/
import Derived.Test.YtomncnelkkmalacWrR
import Derived.Test.YtomncnelkkmalacWrT
namespace Go.Proofs.Ytomncnelkkmalac
namespace WR
set_option linter.unusedVariables false

theorem least_in {p : Bk → Prop} {lt : Bk → Bk → Prop} {L : List Bk} {k : Nat} {r : Int} (h : Least p lt L k r) : -1 ≤ r ∧ r < k := by
  rcases least_lt h with c | ⟨j, y, h1, h2, _⟩ <;> omega
theorem vic_in {L : List Bk} {k : Nat} {r : Int} (h : Vic L k r) : -1 ≤ r ∧ r < k := by
  obtain ⟨q, h1, h2, h3⟩ := h
  by_cases c : q = -1
  · exact least_in (h3 c)
  · rw [h2 c]
    rcases h1 with ⟨h4, _⟩ | ⟨j, y, h4, h5, _⟩
    · exact absurd h4 c
    · omega
theorem cd_q {L : List Bk} {k : Nat} {gap r : Int} (h : Cd L k gap r) : r = -1 ∨ Least isFull LtW L k r := by
  obtain ⟨q, h1, h2, h3⟩ := h
  rcases least_lt h1 with c | ⟨j, y, c1, c2, c3, c4⟩
  · exact .inl (h2 c)
  · obtain ⟨m, a1, a2, a3⟩ := h3 j y c1 c3
    by_cases d : m - wn y ≤ wn ⟨0, 0, gap⟩
    · exact .inl (a2 d)
    · rw [a3 d]; exact .inr h1
theorem cd_in {L : List Bk} {k : Nat} {gap r : Int} (h : Cd L k gap r) : -1 ≤ r ∧ r < k := by
  rcases cd_q h with c | c
  · omega
  · exact least_in c
/-- What is found: nothing and nothing is asked for; or a place of what is asked for, and none is less. -/
theorem least_or {p : Bk → Prop} {lt : Bk → Bk → Prop} {L : List Bk} {k : Nat} {r : Int} (h : Least p lt L k r) : (r = -1 ∧ ∀ (i : Nat) (x : Bk), i < k → L[i]? = some x → ¬ p x) ∨ ∃ (j : Nat) (y : Bk), r = (j : Int) ∧ j < k ∧ L[j]? = some y ∧ p y ∧ ∀ (i : Nat) (x : Bk), i < k → L[i]? = some x → p x → ¬ lt x y := by
  rcases h with h | ⟨j, y, h1, h2, h3, h4, h5, _⟩
  · exact .inl h
  · exact .inr ⟨j, y, h1, h2, h3, h4, h5⟩
/-- The victim: none, and none is full, nor does a bad one have something; or a bad one that has something; or a full one, no bad one has something, none that is full has less. -/
theorem vic_or {L : List Bk} {k : Nat} {r : Int} (h : Vic L k r) : (r = -1 ∧ (∀ (i : Nat) (x : Bk), i < k → L[i]? = some x → ¬ isFull x) ∧ ∀ (i : Nat) (x : Bk), i < k → L[i]? = some x → ¬ strands x) ∨ ∃ (j : Nat) (y : Bk), r = (j : Int) ∧ j < k ∧ L[j]? = some y ∧ (strands y ∨ (isFull y ∧ (∀ (i : Nat) (x : Bk), i < k → L[i]? = some x → ¬ strands x) ∧ ∀ (i : Nat) (x : Bk), i < k → L[i]? = some x → isFull x → y.va ≤ x.va)) := by
  obtain ⟨q, h1, h2, h3⟩ := h
  rcases h1 with ⟨c, h4⟩ | ⟨j, y, c, h5, h6, h7, _⟩
  · rcases least_or (h3 c) with ⟨a, b⟩ | ⟨j, y, a, b, d, e, f⟩
    · exact .inl ⟨a, b, h4⟩
    · exact .inr ⟨j, y, a, b, d, .inr ⟨e, h4, fun i x hi hx hf => by have := f i x hi hx hf; unfold LtV at this; omega⟩⟩
  · exact .inr ⟨j, y, by rw [h2 (by omega)]; exact c, h5, h6, .inl h7⟩
/-- Whether one of the first k strands pages. -/
def Bad (L : List Bk) (k : Nat) (bd : Bool) : Prop := bd = true ↔ ∃ (i : Nat) (x : Bk), i < k ∧ L[i]? = some x ∧ strands x
theorem bad_zero {L : List Bk} : Bad L 0 false := ⟨fun h => (by cases h), fun ⟨i, x, h, _⟩ => (by omega)⟩
theorem bad_skip {L : List Bk} {k : Nat} {bd : Bool} {e : Bk} (h : Bad L k bd) (he : L[k]? = some e) (hp : ¬ strands e) : Bad L (k + 1) bd := by
  refine ⟨fun hb => ?_, fun ⟨i, x, hi, hx, hs⟩ => ?_⟩
  · obtain ⟨i, x, a, b⟩ := h.1 hb; exact ⟨i, x, by omega, b⟩
  · rcases at_last he hi hx with c | rfl
    · exact h.2 ⟨i, x, c, hx, hs⟩
    · exact absurd hs hp
theorem bad_up {L : List Bk} {k : Nat} {bd : Bool} {e : Bk} (h : Bad L k bd) (he : L[k]? = some e) (hp : strands e) : Bad L (k + 1) true := ⟨fun _ => ⟨k, e, by omega, he, hp⟩, fun _ => rfl⟩
end WR
end Go.Proofs.Ytomncnelkkmalac
