/- Trees of extents as plain data, on: how few extents laying over and cutting leave of those that touch; the nodes that take a node's place; the top. No program. -/
import Derived.Test.YtdjlflinepefbabGreatQ04
import Derived.Test.YtdjlflinepefbabGreatQ13

namespace Go.Proofs.YtdjlflinepefbabGreat.TR
open EX
set_option linter.unusedVariables false
set_option linter.unusedSimpArgs false

theorem few_before {l : List Ext} {f : Int} (h : WV l) (ht : ∀ e ∈ l, f ≤ fin e) : (clips l 0 f).length ≤ 1 := by
  induction l with
  | nil => exact Nat.zero_le _
  | cons e l ih =>
    have hs : WV l := h.sub (List.sublist_cons_self e l)
    have ih' := ih hs (fun x hx => ht x (List.mem_cons_of_mem _ hx))
    rw [clips_cons, List.length_append]
    have h1 := clip1_len e 0 f
    by_cases h0 : clip1 e 0 f = []
    · rw [h0]; simpa using ih'
    · have hz : clips l 0 f = [] := by
        unfold clips
        rw [List.flatMap_eq_nil_iff]
        intro y hy
        have hb := (List.pairwise_cons.1 h.2).1 y hy
        have hf := ht e List.mem_cons_self
        unfold Bef at hb
        unfold clip1 lo hi
        rw [if_neg]
        split <;> split <;> omega
      rw [hz]; simpa using h1
theorem few_behind {l : List Ext} {g : Int} (h : WV l) (ht : ∀ e ∈ l, e.from_ ≤ g) : (clips l g 16777216).length ≤ 1 := by
  induction l with
  | nil => exact Nat.zero_le _
  | cons e l ih =>
    have hs : WV l := h.sub (List.sublist_cons_self e l)
    have ih' := ih hs (fun x hx => ht x (List.mem_cons_of_mem _ hx))
    rw [clips_cons, List.length_append]
    have h1 := clip1_len e g 16777216
    cases l with
    | nil => simpa [clips] using h1
    | cons y r =>
      have hb := (List.pairwise_cons.1 h.2).1 y List.mem_cons_self
      have hg := ht y (by simp)
      unfold Bef at hb
      have hz : clip1 e g 16777216 = [] := by
        unfold clip1 lo hi
        rw [if_neg]
        split <;> split <;> omega
      rw [hz]; simpa using ih'
theorem cut_few {l : List Ext} {f n : Int} (h : Valid l) (h1 : ∀ e ∈ l, f ≤ fin e) (h2 : ∀ e ∈ l, e.from_ ≤ f + n) : (cut l f n).length ≤ 2 := by
  unfold cut
  have a := few_before h.wv h1
  have b := few_behind h.wv h2
  have c := pushAll_len (clips l (f + n) 16777216) (pushAll [] (clips l 0 f))
  have d := pushAll_len (clips l 0 f) []
  simp only [List.length_nil] at d
  omega
theorem over_few {l : List Ext} {e : Ext} (h : Valid l) (h1 : ∀ x ∈ l, e.from_ ≤ fin x) (h2 : ∀ x ∈ l, x.from_ ≤ fin e) : (over l e).length ≤ 3 := by
  unfold over
  have a := few_before h.wv h1
  have b := few_behind h.wv h2
  have c := pushAll_len (clips l (fin e) 16777216) (push (pushAll [] (clips l 0 e.from_)) e)
  have d := pushAll_len (clips l 0 e.from_) []
  have p := push_len (pushAll [] (clips l 0 e.from_)) e
  simp only [List.length_nil] at d
  omega
theorem touch_in {l : List Ext} {a b : Int} {e : Ext} (h : e ∈ touch l a b) : a ≤ fin e ∧ e.from_ ≤ b := by
  unfold touch at h
  have := (List.mem_filter.1 h).2
  simpa using this
theorem Chg.sub {was now : List Ext} {a b : Int} {E : List Ext} (c : Chg was now a b E) : E.Sublist now := by
  obtain ⟨P, W, S, _, rfl, _⟩ := c.parts
  exact ((List.sublist_append_right P E).trans (List.sublist_append_left _ S))
theorem repl_len (l : List Ext) (a b : Int) (hab : a ≤ b) (E : List Ext) : (repl l a b E).length ≤ l.length + E.length := by
  unfold repl
  simp only [List.length_append]
  induction l with
  | nil => simp
  | cons e l ih =>
    simp only [List.filter_cons]
    split <;> split <;> simp_all <;> omega

/-- A leaf whose extents give way. -/
theorem repl_ahd {l E : List Ext} {a b : Int} : repl l a b E = (l.filter fun e => decide (e.from_ < a)) ++ E ++ l.filter fun e => decide (b + 1 ≤ e.from_) := by
  unfold repl
  congr 1

/-- A range of two or more of a list. -/
theorem split_range {X : Type} (ks : List X) {i j : Nat} (hij : i < j) (hj : j < ks.length) : ∃ x m y, ks = ks.take i ++ (x :: (m ++ y :: ks.drop (j + 1))) ∧ (ks.take (j + 1)).drop i = x :: (m ++ [y]) ∧ ks[i]? = some x ∧ ks[j]? = some y ∧ i + 1 + m.length = j := by
  have e1 : ks = ks.take i ++ ks.drop i := (List.take_append_drop _ _).symm
  have e2 : ks.drop i = ks[i] :: ks.drop (i + 1) := (List.getElem_cons_drop (by omega)).symm
  have e3 : ks.drop (i + 1) = (ks.drop (i + 1)).take (j - (i + 1)) ++ ks.drop j := by
    conv => lhs; rw [← List.take_append_drop (j - (i + 1)) (ks.drop (i + 1))]
    rw [List.drop_drop, show i + 1 + (j - (i + 1)) = j from by omega]
  have e4 : ks.drop j = ks[j] :: ks.drop (j + 1) := (List.getElem_cons_drop hj).symm
  refine ⟨ks[i], (ks.drop (i + 1)).take (j - (i + 1)), ks[j], ?_, ?_, List.getElem?_eq_getElem (by omega), List.getElem?_eq_getElem hj, ?_⟩
  · rw [← e4, ← e3, ← e2]; exact e1
  · have h1 : ks.take (j + 1) = ks.take i ++ (ks[i] :: ((ks.drop (i + 1)).take (j - (i + 1)) ++ [ks[j]])) := by
      have : ks = (ks.take i ++ (ks[i] :: ((ks.drop (i + 1)).take (j - (i + 1)) ++ [ks[j]]))) ++ ks.drop (j + 1) := by
        simp only [List.append_assoc, List.cons_append, List.nil_append]
        rw [← e4, ← e3, ← e2]; exact e1
      conv => lhs; rw [this]
      rw [List.take_append_of_le_length (by simp; omega), List.take_of_length_le (by simp; omega)]
    rw [h1, List.drop_append_of_le_length (by simp; omega), List.drop_eq_nil_of_le (by simp; omega)]; rfl
  · simp; omega
/-- What stands under the kids from one to another, of two or more: the last kid begins behind the range's first, the others end ahead of its end. -/
theorem kids_range {h : Nat} {ks : List (Tr h)} (hv : WV (flats h ks)) (hn : ∀ k ∈ ks, flat h k ≠ []) {a b : Int} {X Y m : List (Tr h)} {x y : Tr h} (hks : ks = X ++ (x :: (m ++ y :: Y)))
    (hi : X.length = und (keys h ks) a ks.length) (hj : X.length + 1 + m.length = und (keys h ks) b ks.length) :
    (∀ e ∈ flat h x, e.from_ ≤ b) ∧ (∀ e ∈ flats h m, a ≤ e.from_ ∧ e.from_ ≤ b) ∧ (∀ e ∈ flat h y, a ≤ e.from_) := by
  have hlen : ks.length = X.length + 2 + m.length + Y.length := by rw [hks]; simp; omega
  have tk : ks.take (X.length + 1 + m.length) = X ++ (x :: m) := by
    rw [hks, show X ++ (x :: (m ++ y :: Y)) = (X ++ (x :: m)) ++ (y :: Y) from by simp]
    rw [List.take_append_of_le_length (by simp; omega), List.take_of_length_le (by simp; omega)]
  have dj : ks.drop (X.length + 1 + m.length) = y :: Y := by
    rw [hks, show X ++ (x :: (m ++ y :: Y)) = (X ++ (x :: m)) ++ (y :: Y) from by simp]
    rw [List.drop_append_of_le_length (by simp; omega), List.drop_eq_nil_of_le (by simp; omega)]; rfl
  have di : ks.drop (X.length + 1) = m ++ (y :: Y) := by
    rw [hks, show X ++ (x :: (m ++ y :: Y)) = (X ++ [x]) ++ (m ++ y :: Y) from by simp]
    rw [List.drop_append_of_le_length (by simp), List.drop_eq_nil_of_le (by simp)]; rfl
  have hd : (keys h ks).getD (X.length + 1 + m.length) 0 ≤ b := by
    rcases und_key (keys h ks) b ks.length with h0 | h0
    · omega
    · rwa [← hj] at h0
  have hu : ∀ k, X.length < k → k < ks.length → a < (keys h ks).getD k 0 := fun k h1 h2 => und_over (keys h ks) a ks.length k (by rw [← hi]; exact h1) h2
  have hbe := ahead_of hv hn (i := X.length + 1 + m.length) (by omega)
  rw [tk, flats_append, flats_cons] at hbe
  have hone : ∀ e ∈ flats h (X ++ (x :: m)), One e := fun e he => hv.1 e (by rw [hks, show X ++ (x :: (m ++ y :: Y)) = (X ++ (x :: m)) ++ (y :: Y) from by simp, flats_append]; exact List.mem_append_left _ he)
  have hbeh : ∀ k, X.length < k → k < ks.length → ∀ e ∈ flats h (ks.drop k), a ≤ e.from_ := fun k h1 h2 e he => by
    have := behind_of hv hn h2 e he
    have := hu k h1 h2
    omega
  refine ⟨fun e he => ?_, fun e he => ⟨?_, ?_⟩, fun e he => ?_⟩
  · have h1 := hbe e (by simp [he])
    have h2 := (hone e (by rw [flats_append, flats_cons]; simp [he])).lt
    omega
  · exact hbeh (X.length + 1) (by omega) (by omega) e (by rw [di, flats_append]; exact List.mem_append_left _ he)
  · have h1 := hbe e (by simp [he])
    have h2 := (hone e (by rw [flats_append, flats_cons]; simp [he])).lt
    omega
  · exact hbeh (X.length + 1 + m.length) (by omega) (by omega) e (by rw [dj, flats_cons]; exact List.mem_append_left _ he)

/-- The extents of a change go to the node under which their sectors stood. -/
theorem ahd_parts (E : List Ext) (k : Nat) : E.take k ++ E.drop k = E := List.take_append_drop _ _

/-- What of answers of a node: nodes that have what it has, with a range that gave way. -/
def Came (h : Nat) (t : Tr h) (a b : Int) (E : List Ext) (R : List (Tr h)) : Prop := Res h R ∧ flats h R = repl (flat h t) a b E ∧ R.length ≤ 14
/-- The same of kids that stand side by side. -/
def CameL (h : Nat) (l : List (Tr h)) (a b : Int) (E : List Ext) (R : List (Tr h)) : Prop := (∀ t ∈ R, Weak h t) ∧ (l.length = 1 → Res h R) ∧ flats h R = repl (flats h l) a b E ∧ R.length ≤ 28
theorem came_leaf {t : Tr 0} {a b : Int} {E : List Ext} {R : List (Tr 0)} {m : Nat} (ht : Weak 0 t) (hE : E.length ≤ 50) (c : Cuts lf m R ((flat 0 t).filter (fun e => decide (e.from_ < a)) ++ E ++ (flat 0 t).filter fun e => decide (b + 1 ≤ e.from_))) : Came 0 t a b E R := by
  obtain ⟨h1, h2⟩ := leaves_res c
  refine ⟨h1, by rw [h2, repl_ahd], ?_⟩
  have h3 := c.len
  have h8 := ht.2
  have q1 := List.length_filter_le (fun e => decide (e.from_ < a)) (flat 0 t)
  have q2 := List.length_filter_le (fun e => decide (b + 1 ≤ e.from_)) (flat 0 t)
  have q3 : (flat 0 t).length ≤ 8 := h8
  simp only [List.length_append] at h3
  rw [h3]
  unfold cnt; omega
theorem came_none {E : List Ext} {R : List (Tr 0)} {m : Nat} (hE : E.length ≤ 50) (c : Cuts lf m R E) : Res 0 R ∧ flats 0 R = E ∧ R.length ≤ 14 := by
  obtain ⟨h1, h2⟩ := leaves_res c
  refine ⟨h1, h2, ?_⟩
  rw [c.len]; unfold cnt; omega
theorem cameL_one {h : Nat} {t : Tr h} {a b : Int} {E : List Ext} {R : List (Tr h)} (c : Came h t a b E R) : CameL h [t] a b E R :=
  ⟨c.1.weak, fun _ => c.1, by rw [c.2.1, flats_one], by have := c.2.2; omega⟩
theorem cameL_two {h : Nat} {a b : Int} {x y : Tr h} {m : List (Tr h)} {E1 E2 : List Ext} {R1 R2 : List (Tr h)} (h1 : ∀ e ∈ flat h x, e.from_ ≤ b) (h2 : ∀ e ∈ flats h m, a ≤ e.from_ ∧ e.from_ ≤ b) (h3 : ∀ e ∈ flat h y, a ≤ e.from_)
    (c1 : Came h x a b E1 R1) (c2 : Came h y a b E2 R2) : CameL h (x :: (m ++ [y])) a b (E1 ++ E2) (R1 ++ R2) :=
  ⟨fun t ht => (List.mem_append.1 ht).elim (c1.1.weak t) (c2.1.weak t), fun h => by simp at h, by rw [repl_two E1 E2 h1 h2 h3, flats_append, c1.2.1, c2.2.1], by have := c1.2.2; have := c2.2.2; simp; omega⟩
/-- An inner node: its kids ahead, what came of those in the range, its kids behind; mended, and parted anew. -/
theorem came_inner {h : Nat} {t : Tr (h + 1)} {a b : Int} {E : List Ext} {M K : List (Tr h)} {R : List (Tr (h + 1))} {m i j : Nat} (hab : a ≤ b) (ht : Weak (h + 1) t) (hv : WV (flat (h + 1) t)) (hi : i = und (keys h (nd t).xs) a (nd t).xs.length) (hj : j = und (keys h (nd t).xs) b (nd t).xs.length)
    (cM : CameL h (((nd t).xs.take (j + 1)).drop i) a b E M) (hK : Res h K) (hKf : flats h K = flats h ((nd t).xs.take i ++ M ++ (nd t).xs.drop (j + 1))) (hKl : K.length ≤ ((nd t).xs.take i ++ M ++ (nd t).xs.drop (j + 1)).length) (c : Cuts nd m R K) : Came (h + 1) t a b E R := by
  obtain ⟨h1, h2⟩ := inners_res c hK
  obtain ⟨r1, r2, r3⟩ := repl_kids (h := h) (ks := (nd t).xs) hv (fun k hk => (ht.kid k hk).flat_pos) a b hab i j hi hj E
  refine ⟨h1, ?_, ?_⟩
  · rw [h2, hKf, flats_append, flats_append, cM.2.2.1, flat_succ, r3]
  · have h8 := ht.1.2
    have := cM.2.2.2
    simp only [List.length_append, List.length_take, List.length_drop] at hKl
    rw [c.len]
    unfold cnt; omega
theorem kids_weak {h : Nat} {t : Tr (h + 1)} {a b : Int} {E : List Ext} {M : List (Tr h)} {i j : Nat} (ht : Weak (h + 1) t) {l : List (Tr h)} (cM : CameL h l a b E M) : (∀ k ∈ (nd t).xs.take i ++ M ++ (nd t).xs.drop (j + 1), Weak h k) := by
  intro k hk
  simp only [List.mem_append] at hk
  rcases hk with (hk | hk) | hk
  · exact ht.kid k (List.mem_of_mem_take hk)
  · exact cM.1 k hk
  · exact ht.kid k (List.mem_of_mem_drop hk)
theorem weak_top : ∀ {h : Nat} {t : Tr h}, Weak h t → (h = 0 ∨ 2 ≤ size h t) → Top h t
  | 0, t, x, _ => x
  | h + 1, t, x, h2 => by
    rcases h2 with h2 | h2
    · omega
    · have h2' : 2 ≤ (nd t).xs.length := h2
      refine ⟨⟨h2', x.1.2⟩, ?_⟩
      rcases x.2 with ⟨k, hk, _⟩ | hk
      · rw [hk] at h2'; simp at h2'
      · exact hk
theorem res_many {h : Nat} {R : List (Tr h)} (x : Res h R) (h2 : 2 ≤ R.length) : ∀ t ∈ R, Ok h t := by
  rcases x with x | ⟨t, rfl, _⟩
  · exact x
  · simp at h2
theorem weak_kid {h : Nat} {t : Tr (h + 1)} (x : Weak (h + 1) t) (h1 : size (h + 1) t ≤ 1) : ∃ k, (nd t).xs = [k] ∧ Weak h k := by
  have h1' : (nd t).xs.length ≤ 1 := h1
  have h2 := x.1.1
  obtain ⟨k, hk⟩ := List.length_eq_one_iff.1 (show (nd t).xs.length = 1 by omega)
  exact ⟨k, hk, x.kid k (by rw [hk]; exact List.mem_cons_self)⟩
end Go.Proofs.YtdjlflinepefbabGreat.TR
