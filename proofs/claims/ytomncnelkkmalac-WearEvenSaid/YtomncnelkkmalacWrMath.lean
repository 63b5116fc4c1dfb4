/- Plain facts on tables of blocks: which is the least of those that are asked for, the first of several. No program. -/
namespace Go.Proofs.Ytomncnelkkmalac.WR
set_option linter.unusedVariables false

/-- A block: its state, how many of its pages are needed, how often it was erased. -/
structure Bk where
  st : Int
  va : Int
  wo : Int
deriving DecidableEq
def Bk.zero : Bk := ⟨0, 0, 0⟩
instance : Inhabited Bk := ⟨Bk.zero⟩
def I64 (x : Int) : Prop := -9223372036854775808 ≤ x ∧ x ≤ 9223372036854775807
def WfB (b : Bk) : Prop := I64 b.st ∧ I64 b.va ∧ I64 b.wo
/-- How often a block was erased; below 0 as 0. -/
def wn (b : Bk) : Int := if b.wo < 0 then 0 else b.wo
theorem wn_nonneg (b : Bk) : 0 ≤ wn b := by unfold wn; split <;> omega
theorem wn_le {b : Bk} (h : WfB b) : wn b ≤ 9223372036854775807 := by unfold wn; have := h.2.2.2; split <;> omega
/-- The order of three numbers, as a comparison tells it. -/
def cmp (a b : Int) : Int := if a < b then -1 else if b < a then 1 else 0
theorem cmp_neg {a b : Int} : cmp a b < 0 ↔ a < b := by unfold cmp; split <;> (try split) <;> omega
def cmpW (a b : Bk) : Int := cmp (wn a) (wn b)
def cmpV (a b : Bk) : Int := if cmp a.va b.va = 0 then cmpW a b else cmp a.va b.va
def LtW (a b : Bk) : Prop := wn a < wn b
def LtV (a b : Bk) : Prop := a.va < b.va ∨ (a.va = b.va ∧ wn a < wn b)
theorem cmpW_neg {a b : Bk} : cmpW a b < 0 ↔ LtW a b := cmp_neg
theorem cmpV_neg {a b : Bk} : cmpV a b < 0 ↔ LtV a b := by
  unfold cmpV LtV cmpW cmp
  split <;> (repeat' split) <;> omega

/-- What is least among what is asked for, of the first k, the first of several (-1: none). -/
def Least (p : Bk → Prop) (lt : Bk → Bk → Prop) (l : List Bk) (k : Nat) (r : Int) : Prop :=
  (r = -1 ∧ ∀ (i : Nat) (x : Bk), i < k → l[i]? = some x → ¬ p x) ∨
  ∃ (j : Nat) (y : Bk), r = (j : Int) ∧ j < k ∧ l[j]? = some y ∧ p y ∧ (∀ (i : Nat) (x : Bk), i < k → l[i]? = some x → p x → ¬ lt x y) ∧ ∀ (i : Nat) (x : Bk), i < j → l[i]? = some x → p x → lt y x
structure Ord (lt : Bk → Bk → Prop) : Prop where
  asym : ∀ a b, lt a b → ¬ lt b a
  co : ∀ a b c, lt a c → lt a b ∨ lt b c
theorem Ord.irr {lt : Bk → Bk → Prop} (h : Ord lt) (a : Bk) : ¬ lt a a := fun h1 => h.asym a a h1 h1
theorem ordW : Ord LtW := ⟨fun a b => by unfold LtW; omega, fun a b c => by unfold LtW; omega⟩
theorem ordV : Ord LtV := ⟨fun a b => by unfold LtV; omega, fun a b c => by unfold LtV; omega⟩
theorem least_zero (p : Bk → Prop) (lt : Bk → Bk → Prop) (l : List Bk) : Least p lt l 0 (-1) := .inl ⟨rfl, fun i x hi => by omega⟩
theorem least_skip {p : Bk → Prop} {lt : Bk → Bk → Prop} {l : List Bk} {k : Nat} {r : Int} {e : Bk} (h : Least p lt l k r) (he : l[k]? = some e) (hp : ¬ p e) : Least p lt l (k + 1) r := by
  have key : ∀ (i : Nat) (x : Bk), i < k + 1 → l[i]? = some x → p x → i < k := by
    intro i x hi hx hpx
    by_cases c : i = k
    · subst c; rw [he] at hx; injection hx with hx; subst hx; exact absurd hpx hp
    · omega
  rcases h with ⟨h1, h2⟩ | ⟨j, y, h1, h2, h3, h4, h5, h6⟩
  · exact .inl ⟨h1, fun i x hi hx hpx => h2 i x (key i x hi hx hpx) hx hpx⟩
  · exact .inr ⟨j, y, h1, by omega, h3, h4, fun i x hi hx hpx => h5 i x (key i x hi hx hpx) hx hpx, h6⟩
theorem least_first {p : Bk → Prop} {lt : Bk → Bk → Prop} (ho : Ord lt) {l : List Bk} {k : Nat} {e : Bk} (h : Least p lt l k (-1)) (he : l[k]? = some e) (hp : p e) : Least p lt l (k + 1) (k : Int) := by
  rcases h with ⟨_, h2⟩ | ⟨j, y, h1, _⟩
  · refine .inr ⟨k, e, rfl, by omega, he, hp, fun i x hi hx hpx => ?_, fun i x hi hx hpx => absurd hpx (h2 i x hi hx)⟩
    by_cases c : i = k
    · subst c; rw [he] at hx; injection hx with hx; subst hx; exact ho.irr _
    · exact absurd hpx (h2 i x (by omega) hx)
  · omega
theorem at_last {l : List Bk} {k i : Nat} {e x : Bk} (he : l[k]? = some e) (hi : i < k + 1) (hx : l[i]? = some x) : i < k ∨ x = e := by
  by_cases c : i = k
  · subst c; rw [he] at hx; injection hx with hx; exact .inr hx.symm
  · exact .inl (by omega)
theorem least_turn {p : Bk → Prop} {lt : Bk → Bk → Prop} (ho : Ord lt) {l : List Bk} {k j : Nat} {e y : Bk} (h : Least p lt l k (j : Int)) (hy : l[j]? = some y) (he : l[k]? = some e) (hp : p e) (hl : lt e y) : Least p lt l (k + 1) (k : Int) := by
  rcases h with ⟨h1, _⟩ | ⟨j', y', h1, h2, h3, h4, h5, h6⟩
  · omega
  · obtain rfl : j' = j := by omega
    rw [hy] at h3; injection h3 with h3; subst h3
    refine .inr ⟨k, e, rfl, by omega, he, hp, fun i x hi hx hpx => ?_, fun i x hi hx hpx => ?_⟩
    · rcases at_last he hi hx with c | rfl
      · intro hxe
        rcases ho.co _ y _ hxe with h7 | h7
        · exact h5 i x c hx hpx h7
        · exact ho.asym _ _ hl h7
      · exact ho.irr _
    · rcases ho.co _ x _ hl with h7 | h7
      · exact h7
      · exact absurd h7 (h5 i x hi hx hpx)
theorem least_keep {p : Bk → Prop} {lt : Bk → Bk → Prop} {l : List Bk} {k j : Nat} {e y : Bk} (h : Least p lt l k (j : Int)) (hy : l[j]? = some y) (he : l[k]? = some e) (hl : ¬ lt e y) : Least p lt l (k + 1) (j : Int) := by
  rcases h with ⟨h1, _⟩ | ⟨j', y', h1, h2, h3, h4, h5, h6⟩
  · omega
  · obtain rfl : j' = j := by omega
    rw [hy] at h3; injection h3 with h3; subst h3
    refine .inr ⟨j', y, rfl, by omega, hy, h4, fun i x hi hx hpx => ?_, h6⟩
    rcases at_last he hi hx with c | rfl
    · exact h5 i x c hx hpx
    · exact hl
theorem least_uniq {p : Bk → Prop} {lt : Bk → Bk → Prop} {l : List Bk} {k : Nat} {r s : Int} (h : Least p lt l k r) (h' : Least p lt l k s) : r = s := by
  rcases h with ⟨h1, h2⟩ | ⟨j, y, h1, h2, h3, h4, h5, h6⟩
  · rcases h' with ⟨g1, g2⟩ | ⟨i, x, g1, g2, g3, g4, g5, g6⟩
    · rw [h1, g1]
    · exact absurd g4 (h2 i x g2 g3)
  · rcases h' with ⟨g1, g2⟩ | ⟨i, x, g1, g2, g3, g4, g5, g6⟩
    · exact absurd h4 (g2 j y h2 h3)
    · rcases Nat.lt_trichotomy i j with c | c | c
      · exact absurd (h6 i x c g3 g4) (g5 j y h2 h3 h4)
      · omega
      · exact absurd (g6 j y c h3 h4) (h5 i x g2 g3 g4)
theorem least_lt {p : Bk → Prop} {lt : Bk → Bk → Prop} {l : List Bk} {k : Nat} {r : Int} (h : Least p lt l k r) : r = -1 ∨ ∃ (j : Nat) (y : Bk), r = (j : Int) ∧ j < k ∧ l[j]? = some y ∧ p y := by
  rcases h with ⟨h1, _⟩ | ⟨j, y, h1, h2, h3, h4, _⟩
  · exact .inl h1
  · exact .inr ⟨j, y, h1, h2, h3, h4⟩
/-- The same of the places from k on. -/
def Up (p : Bk → Prop) (lt : Bk → Bk → Prop) (l : List Bk) (k : Nat) (r : Int) : Prop :=
  (r = -1 ∧ ∀ (i : Nat) (x : Bk), k ≤ i → l[i]? = some x → ¬ p x) ∨
  ∃ (j : Nat) (y : Bk), r = (j : Int) ∧ k ≤ j ∧ l[j]? = some y ∧ p y ∧ (∀ (i : Nat) (x : Bk), k ≤ i → l[i]? = some x → p x → ¬ lt x y) ∧ ∀ (i : Nat) (x : Bk), k ≤ i → i < j → l[i]? = some x → p x → lt y x
theorem up_start (p : Bk → Prop) (lt : Bk → Bk → Prop) (l : List Bk) : Up p lt l l.length (-1) := .inl ⟨rfl, fun i x hi hx => by rw [List.getElem?_eq_none hi] at hx; cases hx⟩
theorem up_at {l : List Bk} {k i : Nat} {e x : Bk} (he : l[k]? = some e) (hi : k ≤ i) (hx : l[i]? = some x) : k + 1 ≤ i ∨ x = e := by
  by_cases c : i = k
  · subst c; rw [he] at hx; injection hx with hx; exact .inr hx.symm
  · exact .inl (by omega)
theorem up_skip {p : Bk → Prop} {lt : Bk → Bk → Prop} {l : List Bk} {k : Nat} {r : Int} {e : Bk} (h : Up p lt l (k + 1) r) (he : l[k]? = some e) (hp : ¬ p e) : Up p lt l k r := by
  rcases h with ⟨h1, h2⟩ | ⟨j, y, h1, h2, h3, h4, h5, h6⟩
  · refine .inl ⟨h1, fun i x hi hx hpx => ?_⟩
    rcases up_at he hi hx with c | rfl
    · exact h2 i x c hx hpx
    · exact hp hpx
  · refine .inr ⟨j, y, h1, by omega, h3, h4, fun i x hi hx hpx => ?_, fun i x hi hij hx hpx => ?_⟩
    · rcases up_at he hi hx with c | rfl
      · exact h5 i x c hx hpx
      · exact absurd hpx hp
    · rcases up_at he hi hx with c | rfl
      · exact h6 i x c hij hx hpx
      · exact absurd hpx hp
theorem up_first {p : Bk → Prop} {lt : Bk → Bk → Prop} (ho : Ord lt) {l : List Bk} {k : Nat} {e : Bk} (h : Up p lt l (k + 1) (-1)) (he : l[k]? = some e) (hp : p e) : Up p lt l k (k : Int) := by
  rcases h with ⟨_, h2⟩ | ⟨j, y, h1, _⟩
  · refine .inr ⟨k, e, rfl, Nat.le_refl _, he, hp, fun i x hi hx hpx => ?_, fun i x hi hij => by omega⟩
    rcases up_at he hi hx with c | rfl
    · exact absurd hpx (h2 i x c hx)
    · exact ho.irr _
  · omega
theorem up_turn {p : Bk → Prop} {lt : Bk → Bk → Prop} (ho : Ord lt) {l : List Bk} {k j : Nat} {e y : Bk} (h : Up p lt l (k + 1) (j : Int)) (hy : l[j]? = some y) (he : l[k]? = some e) (hp : p e) (hl : ¬ lt y e) : Up p lt l k (k : Int) := by
  rcases h with ⟨h1, _⟩ | ⟨j', y', h1, h2, h3, h4, h5, h6⟩
  · omega
  · obtain rfl : j' = j := by omega
    rw [hy] at h3; injection h3 with h3; subst h3
    refine .inr ⟨k, e, rfl, Nat.le_refl _, he, hp, fun i x hi hx hpx => ?_, fun i x hi hij => by omega⟩
    rcases up_at he hi hx with c | rfl
    · intro hxe
      rcases ho.co _ y _ hxe with h7 | h7
      · exact h5 i x c hx hpx h7
      · exact hl h7
    · exact ho.irr _
theorem up_keep {p : Bk → Prop} {lt : Bk → Bk → Prop} (ho : Ord lt) {l : List Bk} {k j : Nat} {e y : Bk} (h : Up p lt l (k + 1) (j : Int)) (hy : l[j]? = some y) (he : l[k]? = some e) (hl : lt y e) : Up p lt l k (j : Int) := by
  rcases h with ⟨h1, _⟩ | ⟨j', y', h1, h2, h3, h4, h5, h6⟩
  · omega
  · obtain rfl : j' = j := by omega
    rw [hy] at h3; injection h3 with h3; subst h3
    refine .inr ⟨j', y, rfl, by omega, hy, h4, fun i x hi hx hpx => ?_, fun i x hi hij hx hpx => ?_⟩
    · rcases up_at he hi hx with c | rfl
      · exact h5 i x c hx hpx
      · exact ho.asym _ _ hl
    · rcases up_at he hi hx with c | rfl
      · exact h6 i x c hij hx hpx
      · exact hl
theorem up_least {p : Bk → Prop} {lt : Bk → Bk → Prop} {l : List Bk} {r : Int} (h : Up p lt l 0 r) : Least p lt l l.length r := by
  rcases h with ⟨h1, h2⟩ | ⟨j, y, h1, h2, h3, h4, h5, h6⟩
  · exact .inl ⟨h1, fun i x _ hx => h2 i x (Nat.zero_le _) hx⟩
  · exact .inr ⟨j, y, h1, (List.getElem?_eq_some_iff.1 h3).1, h3, h4, fun i x _ hx hpx => h5 i x (Nat.zero_le _) hx hpx, fun i x hi hx hpx => h6 i x (Nat.zero_le _) hi hx hpx⟩
theorem up_lt {p : Bk → Prop} {lt : Bk → Bk → Prop} {l : List Bk} {k : Nat} {r : Int} (h : Up p lt l k r) : r = -1 ∨ ∃ (j : Nat) (y : Bk), r = (j : Int) ∧ l[j]? = some y := by
  rcases h with ⟨h1, _⟩ | ⟨j, y, h1, h2, h3, _⟩
  · exact .inl h1
  · exact .inr ⟨j, y, h1, h3⟩
def isFree (b : Bk) : Prop := b.st = 0
def isFull (b : Bk) : Prop := b.st = 2
def inUse (b : Bk) : Prop := b.st = 0 ∨ b.st = 2 ∨ b.st = 1
def strands (b : Bk) : Prop := b.st = 3 ∧ 0 < b.va
instance (b : Bk) : Decidable (isFree b) := by unfold isFree; infer_instance
instance (b : Bk) : Decidable (isFull b) := by unfold isFull; infer_instance
instance (b : Bk) : Decidable (inUse b) := by unfold inUse; infer_instance
instance (b : Bk) : Decidable (strands b) := by unfold strands; infer_instance
def cnt (l : List Bk) (s : Int) : Int := ((l.filter fun b => b.st == s).length : Int)
theorem cnt_take {l : List Bk} {k : Nat} {e : Bk} (h : l[k]? = some e) (s : Int) : cnt (l.take (k + 1)) s = cnt (l.take k) s + if e.st = s then 1 else 0 := by
  unfold cnt
  rw [List.take_add_one, h]
  simp only [Option.toList_some, List.filter_append, List.length_append]
  by_cases c : e.st = s
  · simp [c]
  · simp [c]
theorem cnt_le (l : List Bk) (s : Int) : 0 ≤ cnt l s ∧ cnt l s ≤ l.length := by
  unfold cnt
  have := List.length_filter_le (fun b : Bk => b.st == s) l
  omega
end Go.Proofs.Ytomncnelkkmalac.WR
