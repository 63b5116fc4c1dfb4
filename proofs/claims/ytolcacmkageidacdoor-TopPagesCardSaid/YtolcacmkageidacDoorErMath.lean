/- Errors as plain trees: the first number inside, whether a number is inside, the trail. Plain mathematics, no program. -/
namespace Go.Proofs.YtolcacmkageidacDoor
namespace ER
set_option linter.unusedVariables false

/-- An error: a number, a stranger, one wrapped by a step, several joined. -/
inductive Er where
  | num (c : Int)
  | str
  | fault (op : ByteArray) (n : Int) (e : Er)
  | join (n : Nat) (k : Nat → Er)

def Er.dep : Er → Nat
  | .num _ => 0
  | .str => 0
  | .fault _ _ e => e.dep + 1
  | .join n k => (List.range n).foldr (fun i m => max ((k i).dep) m) 0 + 1
/-- The first number inside. -/
def Er.code : Er → Option Int
  | .num c => some c
  | .str => none
  | .fault _ _ e => e.code
  | .join n k => (List.range n).findSome? fun i => (k i).code
def Er.has (x : Int) : Er → Bool
  | .num c => c == x
  | .str => false
  | .fault _ _ e => e.has x
  | .join n k => (List.range n).any fun i => (k i).has x
/-- The first step inside, and what it wraps. -/
def Er.first : Er → Option (ByteArray × Int × Er)
  | .num _ => none
  | .str => none
  | .fault op n e => some (op, n, e)
  | .join n k => (List.range n).findSome? fun i => (k i).first
def Er.trail : Er → List (ByteArray × Int)
  | .num _ => []
  | .str => []
  | .fault op n e => (op, n) :: e.trail
  | .join n k => ((List.range n).find? fun i => !((k i).trail).isEmpty).elim [] fun i => (k i).trail

theorem foldr_max (f : Nat → Nat) (l : List Nat) (i : Nat) (h : i ∈ l) : f i ≤ l.foldr (fun i m => max (f i) m) 0 := by
  induction l with
  | nil => cases h
  | cons a l ih =>
    rcases List.mem_cons.1 h with rfl | h
    · exact Nat.le_max_left _ _
    · exact Nat.le_trans (ih h) (Nat.le_max_right _ _)
theorem dep_kid {n : Nat} {k : Nat → Er} {i : Nat} (h : i < n) : (k i).dep < (Er.join n k).dep := by
  have := foldr_max (fun i => (k i).dep) (List.range n) i (List.mem_range.2 h)
  show _ < _ + 1
  exact Nat.lt_succ_of_le this

theorem findSome_none {α : Type} (f : Nat → Option α) : ∀ n, (∀ i, i < n → f i = none) → (List.range n).findSome? f = none := by
  intro n h
  exact List.findSome?_eq_none_iff.2 fun x hx => h x (List.mem_range.1 hx)
theorem findSome_at {α : Type} (f : Nat → Option α) {n i : Nat} {x : α} (hi : i < n) (h : ∀ j, j < i → f j = none) (hx : f i = some x) : (List.range n).findSome? f = some x := by
  have e : n = i + (n - i) := by omega
  rw [e, List.range_add, List.findSome?_append, findSome_none f i h]
  obtain ⟨m, hm⟩ : ∃ m, n - i = m + 1 := ⟨n - i - 1, by omega⟩
  rw [hm, List.range_succ_eq_map]
  simp [hx]
theorem find_none (p : Nat → Bool) : ∀ n, (∀ i, i < n → p i = false) → (List.range n).find? p = none := by
  intro n h
  exact List.find?_eq_none.2 fun x hx => by simp [h x (List.mem_range.1 hx)]
theorem find_at (p : Nat → Bool) {n i : Nat} (hi : i < n) (h : ∀ j, j < i → p j = false) (hx : p i = true) : (List.range n).find? p = some i := by
  have e : n = i + (n - i) := by omega
  rw [e, List.range_add, List.find?_append, find_none p i h]
  obtain ⟨m, hm⟩ : ∃ m, n - i = m + 1 := ⟨n - i - 1, by omega⟩
  rw [hm, List.range_succ_eq_map]
  simp [hx]
theorem any_false (p : Nat → Bool) (n : Nat) (h : ∀ i, i < n → p i = false) : (List.range n).any p = false := by
  rw [List.any_eq_false]
  intro x hx
  simp [h x (List.mem_range.1 hx)]
theorem any_true (p : Nat → Bool) {n i : Nat} (hi : i < n) (hx : p i = true) : (List.range n).any p = true :=
  List.any_eq_true.2 ⟨i, List.mem_range.2 hi, hx⟩

/-- A trail is empty just if there is no step inside. -/
theorem trail_first : ∀ E : Er, E.trail = (match E.first with | none => [] | some (op, n, e) => (op, n) :: e.trail) := by
  intro E
  induction E with
  | num c => rfl
  | str => rfl
  | fault op n e ih => rfl
  | join n k ih =>
    by_cases h : ∃ i, i < n ∧ (k i).first ≠ none
    · obtain ⟨i, hi, hx, hlt⟩ : ∃ i, i < n ∧ (k i).first ≠ none ∧ ∀ j, j < i → (k j).first = none := by
        obtain ⟨i, hi, hx⟩ := h
        induction i using Nat.strongRecOn with
        | _ i hrec =>
          by_cases hj : ∃ j, j < i ∧ (k j).first ≠ none
          · obtain ⟨j, hj, hjx⟩ := hj
            exact hrec j hj (by omega) hjx
          · exact ⟨i, hi, hx, fun j hji => Decidable.byContradiction fun hne => hj ⟨j, hji, hne⟩⟩
      obtain ⟨⟨op, m, e⟩, hf⟩ := Option.ne_none_iff_exists'.1 hx
      have h1 : (Er.join n k).first = some (op, m, e) := findSome_at (fun i => (k i).first) hi hlt hf
      have ht : (k i).trail = (op, m) :: e.trail := by rw [ih i, hf]
      have h2 : (List.range n).find? (fun i => !((k i).trail).isEmpty) = some i := by
        refine find_at _ hi (fun j hj => ?_) (by rw [ht]; rfl)
        rw [ih j, hlt j hj]; rfl
      rw [h1]
      show ((List.range n).find? fun i => !((k i).trail).isEmpty).elim [] (fun i => (k i).trail) = _
      rw [h2]
      exact ht
    · have hn : ∀ i, i < n → (k i).first = none := fun i hi => Decidable.byContradiction fun hne => h ⟨i, hi, hne⟩
      have h1 : (Er.join n k).first = none := findSome_none (fun i => (k i).first) n hn
      have h2 : (List.range n).find? (fun i => !((k i).trail).isEmpty) = none := by
        refine find_none _ n (fun i hi => ?_)
        rw [ih i, hn i hi]; rfl
      rw [h1]
      show ((List.range n).find? fun i => !((k i).trail).isEmpty).elim [] (fun i => (k i).trail) = _
      rw [h2]; rfl
/-- What a step wraps lies deeper. -/
theorem first_dep : ∀ (E : Er) {op : ByteArray} {n : Int} {e : Er}, E.first = some (op, n, e) → e.dep < E.dep := by
  intro E
  induction E with
  | num c => intro op n e h; cases h
  | str => intro op n e h; cases h
  | fault op n e ih => intro op' n' e' h; cases h; exact Nat.lt_succ_self _
  | join n k ih =>
    intro op m e h
    obtain ⟨i, hi, hx⟩ := List.exists_of_findSome?_eq_some h
    exact Nat.lt_trans (ih i hx) (dep_kid (List.mem_range.1 hi))
end ER
end Go.Proofs.YtolcacmkageidacDoor
