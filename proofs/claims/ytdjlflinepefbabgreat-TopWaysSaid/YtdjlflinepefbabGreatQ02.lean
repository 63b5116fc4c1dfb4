/- 3 texts laid together: each says at its head what it proves. No condition but those that each theorem names. -/
import Derived.Test.YtdjlflinepefbabGreatQ01

/- More plain facts on lists of extents: how a list goes on. No program. -/
namespace Go.Proofs.YtdjlflinepefbabGreat.EX
set_option linter.unusedVariables false

/-- A list goes on. -/
theorem valid_snoc {l : List Ext} {e : Ext} (hl : Valid l) (he : One e) (hp : ∀ i a, l = i ++ [a] → Bef a e ∧ ¬ Tog a e) : Valid (l ++ [e]) := by
  rcases snoc_cases l with rfl | ⟨i, a, rfl⟩
  · exact ⟨fun x hx => by rw [List.mem_singleton.1 hx]; exact he, List.pairwise_singleton _ _⟩
  · obtain ⟨h1, h2⟩ := hp i a rfl
    refine ⟨fun x hx => ?_, ?_⟩
    · rcases List.mem_append.1 hx with hx | hx
      · exact hl.1 x hx
      · rw [List.mem_singleton.1 hx]; exact he
    · rw [List.pairwise_append]
      refine ⟨hl.2, List.pairwise_singleton _ _, fun x hx y hy => ?_⟩
      obtain rfl := List.mem_singleton.1 hy
      rcases List.mem_append.1 hx with hx' | hx'
      · have h3 := (List.pairwise_append.1 hl.2).2.2 x hx' a (by simp)
        have := (hl.1 a (by simp)).lt
        refine ⟨by have := h3.1; unfold Bef at *; omega, fun ht => ?_⟩
        have h4 := ht.1
        have h5 := h3.1
        unfold Bef at h1 h5
        omega
      · rw [List.mem_singleton.1 hx']; exact ⟨h1, h2⟩
theorem take_snoc {l : List Ext} {k : Nat} {e : Ext} (h : l[k]? = some e) : l.take (k + 1) = l.take k ++ [e] := by
  rw [List.take_add_one, h]; rfl
theorem valid_at {l : List Ext} (h : Valid l) {k : Nat} {e : Ext} (he : l[k]? = some e) : One e := h.1 e (List.mem_of_getElem? he)
theorem valid_two {l : List Ext} (h : Valid l) {j : Nat} {a e : Ext} (ha : l[j]? = some a) (he : l[j + 1]? = some e) : Bef a e ∧ ¬ Tog a e := by
  obtain ⟨h1, h2⟩ := List.getElem?_eq_some_iff.1 ha
  obtain ⟨h3, h4⟩ := List.getElem?_eq_some_iff.1 he
  have := List.pairwise_iff_getElem.1 h.2 j (j + 1) h1 h3 (by omega)
  rwa [h2, h4] at this
theorem valid_first {l : List Ext} {e : Ext} (he : l[0]? = some e) (h : One e) : Valid (l.take 1) := by
  rw [take_snoc he]
  exact valid_snoc (by simpa using valid_nil) h fun i a hi => by simp at hi
theorem valid_next {l : List Ext} {j : Nat} {a e : Ext} (hl : Valid (l.take (j + 1))) (ha : l[j]? = some a) (he : l[j + 1]? = some e) (h : One e) (h2 : Bef a e ∧ ¬ Tog a e) : Valid (l.take (j + 1 + 1)) := by
  rw [take_snoc he]
  refine valid_snoc hl h fun i b hi => ?_
  rw [take_snoc ha] at hi
  have := List.append_inj_right' hi rfl
  simp at this
  rw [← this]; exact h2
theorem valid_take {l : List Ext} {k : Nat} (hk : l.length ≤ k) (h : Valid (l.take k)) : Valid l := by rwa [List.take_of_length_le hk] at h
end Go.Proofs.YtdjlflinepefbabGreat.EX

/- More plain facts on lists of extents: what is pushed stays a list that may be, extent by extent. No program. -/
namespace Go.Proofs.YtdjlflinepefbabGreat.EX
set_option linter.unusedVariables false

theorem WV.take {l : List Ext} (h : WV l) (k : Nat) : WV (l.take k) := h.sub (List.take_sublist k l)
theorem part_one {l : List Ext} (h : Valid l) (a b : Int) (k : Nat) : Valid (pushAll [] (clips (l.take k) a b)) :=
  (pushAll_spec valid_nil (clips_wv (h.wv.take k) a b) fun _ hx => (List.not_mem_nil hx).elim).valid
theorem part_ends {l : List Ext} (h : Valid l) (a b : Int) : ∀ x ∈ pushAll [] (clips l a b), fin x ≤ b :=
  (pushAll_spec valid_nil (clips_wv h.wv a b) fun _ hx => (List.not_mem_nil hx).elim).ends b (fun _ hx => (List.not_mem_nil hx).elim) fun x hx => by obtain ⟨_, _, _, _, k, _⟩ := clips_mem h.1 hx; exact k
theorem part_valid {l : List Ext} (h : Valid l) (a b : Int) : Valid (pushAll [] (clips l a b)) :=
  (pushAll_spec valid_nil (clips_wv h.wv a b) fun _ hx => (List.not_mem_nil hx).elim).valid
theorem part_two {l r : List Ext} (h : Valid l) (hr : Valid r) (c b : Int) (he : ∀ x ∈ r, fin x ≤ c) (k : Nat) : Valid (pushAll r (clips (l.take k) c b)) :=
  (pushAll_spec hr (clips_wv (h.wv.take k) c b) fun x hx y hy => by
    obtain ⟨_, _, _, k1, _⟩ := clips_mem (h.wv.take k).1 hy
    have := he x hx
    omega).valid
theorem over_mid {l : List Ext} (h : Valid l) {e : Ext} (he : One e) : Pushed (pushAll [] (clips l 0 e.from_)) [e] (push (pushAll [] (clips l 0 e.from_)) e) :=
  push_spec (part_valid h 0 e.from_) he (part_ends h 0 e.from_)
theorem over_mid_ends {l : List Ext} (h : Valid l) {e : Ext} (he : One e) : ∀ x ∈ push (pushAll [] (clips l 0 e.from_)) e, fin x ≤ fin e :=
  (over_mid h he).ends (fin e) (fun x hx => Int.le_trans (part_ends h 0 e.from_ x hx) (Int.le_of_lt he.lt)) fun x hx => by rw [List.mem_singleton.1 hx]; exact Int.le_refl _
theorem valid_len {l : List Ext} (h : Valid l) : l.length ≤ 16777216 := by have := wv_len h.wv; omega
theorem cut_ok {l : List Ext} (h : Valid l) {f n : Int} (hn : 0 ≤ n) : Valid (cut l f n) := (cut_spec h hn).valid
theorem over_ok {l : List Ext} (h : Valid l) {e : Ext} (he : One e) : Valid (over l e) := (over_spec h he).valid
theorem clip_ok {l : List Ext} (h : Valid l) (f n : Int) : Valid (clip l f n) := (clip_spec h f n).valid
end Go.Proofs.YtdjlflinepefbabGreat.EX

/- Trees of extents as plain data: their lists, which are well made, under which kid a sector stands, which extents a range touches, how a part of a list gives way to another one. No program. -/
namespace Go.Proofs.YtdjlflinepefbabGreat.TR
open EX
set_option linter.unusedVariables false
set_option linter.unusedSimpArgs false

/-- A node: the block where it lies, the page it is written in, what it has. -/
structure Nd (X : Type) where
  blk : Nat
  at_ : Int
  xs : List X
/-- A node with so many heights below it (0: a leaf). -/
def Tr : Nat → Type
  | 0 => Nd Ext
  | h + 1 => Nd (Tr h)
def lf (t : Tr 0) : Nd Ext := t
def nd {h : Nat} (t : Tr (h + 1)) : Nd (Tr h) := t
def blk : (h : Nat) → Tr h → Nat
  | 0, t => (lf t).blk
  | _ + 1, t => (nd t).blk
def pg : (h : Nat) → Tr h → Int
  | 0, t => (lf t).at_
  | _ + 1, t => (nd t).at_
def size : (h : Nat) → Tr h → Nat
  | 0, t => (lf t).xs.length
  | _ + 1, t => (nd t).xs.length
/-- The extents below a node. -/
def flat : (h : Nat) → Tr h → List Ext
  | 0, t => (lf t).xs
  | h + 1, t => (nd t).xs.flatMap (flat h)
def flats (h : Nat) (l : List (Tr h)) : List Ext := l.flatMap (flat h)
theorem flat_succ {h : Nat} (t : Tr (h + 1)) : flat (h + 1) t = flats h (nd t).xs := rfl
theorem flats_nil (h : Nat) : flats h [] = [] := rfl
theorem flats_cons (h : Nat) (a : Tr h) (l : List (Tr h)) : flats h (a :: l) = flat h a ++ flats h l := rfl
theorem flats_one (h : Nat) (a : Tr h) : flats h [a] = flat h a := by simp [flats]
theorem flats_append (h : Nat) (a b : List (Tr h)) : flats h (a ++ b) = flats h a ++ flats h b := by simp [flats]
/-- The first sector. -/
def first (h : Nat) (t : Tr h) : Int := ((flat h t).headD Ext.zero).from_
def blocks : (h : Nat) → Tr h → List Nat
  | 0, t => [(lf t).blk]
  | h + 1, t => (nd t).blk :: (nd t).xs.flatMap (blocks h)
def blocksL (h : Nat) (l : List (Tr h)) : List Nat := l.flatMap (blocks h)
def count : (h : Nat) → Tr h → Nat
  | 0, _ => 1
  | h + 1, t => 1 + ((nd t).xs.map (count h)).sum

/-- Nodes of 4 to 8, all below them, too. -/
def Ok : (h : Nat) → Tr h → Prop
  | 0, t => 4 ≤ (lf t).xs.length ∧ (lf t).xs.length ≤ 8
  | h + 1, t => (4 ≤ (nd t).xs.length ∧ (nd t).xs.length ≤ 8) ∧ ∀ k ∈ (nd t).xs, Ok h k
/-- Nodes that may be too small, and their only kid, too. -/
def Weak : (h : Nat) → Tr h → Prop
  | 0, t => 1 ≤ (lf t).xs.length ∧ (lf t).xs.length ≤ 8
  | h + 1, t => (1 ≤ (nd t).xs.length ∧ (nd t).xs.length ≤ 8) ∧ ((∃ k, (nd t).xs = [k] ∧ Weak h k) ∨ ∀ k ∈ (nd t).xs, Ok h k)
/-- Tops. -/
def Top : (h : Nat) → Tr h → Prop
  | 0, t => 1 ≤ (lf t).xs.length ∧ (lf t).xs.length ≤ 8
  | h + 1, t => (2 ≤ (nd t).xs.length ∧ (nd t).xs.length ≤ 8) ∧ ∀ k ∈ (nd t).xs, Ok h k
theorem Ok.weak : ∀ {h : Nat} {t : Tr h}, Ok h t → Weak h t
  | 0, t, h => ⟨by have := h.1; omega, h.2⟩
  | h + 1, t, x => ⟨⟨by have := x.1.1; omega, x.1.2⟩, .inr x.2⟩
theorem Top.weak : ∀ {h : Nat} {t : Tr h}, Top h t → Weak h t
  | 0, t, h => h
  | h + 1, t, x => ⟨⟨by have := x.1.1; omega, x.1.2⟩, .inr x.2⟩
theorem Weak.size_pos : ∀ {h : Nat} {t : Tr h}, Weak h t → 1 ≤ size h t ∧ size h t ≤ 8
  | 0, t, h => h
  | h + 1, t, x => x.1
theorem Weak.ok : ∀ {h : Nat} {t : Tr h}, Weak h t → 4 ≤ size h t → Ok h t
  | 0, t, x, hs => ⟨hs, x.2⟩
  | h + 1, t, x, hs => by
    refine ⟨⟨hs, x.1.2⟩, ?_⟩
    rcases x.2 with ⟨k, hk, _⟩ | hk
    · have hs' : 4 ≤ (nd t).xs.length := hs
      rw [hk] at hs'; simp at hs'
    · exact hk
theorem Ok.size_ge : ∀ {h : Nat} {t : Tr h}, Ok h t → 4 ≤ size h t
  | 0, t, x => x.1
  | h + 1, t, x => x.1.1
/-- What takes a node's place: none of several is too small. -/
def Res (h : Nat) (R : List (Tr h)) : Prop := (∀ t ∈ R, Ok h t) ∨ ∃ t, R = [t] ∧ Weak h t
theorem Res.weak {h : Nat} {R : List (Tr h)} (x : Res h R) : ∀ t ∈ R, Weak h t := by
  rcases x with x | ⟨t, rfl, x⟩
  · exact fun t ht => (x t ht).weak
  · intro t ht; rw [List.mem_singleton.1 ht]; exact x
theorem Weak.kids {h : Nat} {t : Tr (h + 1)} (x : Weak (h + 1) t) : Res h (nd t).xs := by
  rcases x.2 with ⟨k, hk, hw⟩ | hk
  · exact .inr ⟨k, hk, hw⟩
  · exact .inl hk
theorem Weak.kid {h : Nat} {t : Tr (h + 1)} (x : Weak (h + 1) t) : ∀ k ∈ (nd t).xs, Weak h k := x.kids.weak
theorem Weak.flat_pos : ∀ {h : Nat} {t : Tr h}, Weak h t → flat h t ≠ []
  | 0, t, x => by intro e; have := x.1; rw [show (lf t).xs = [] from e] at this; simp at this
  | h + 1, t, x => by
    intro e
    have hl := x.1.1
    obtain ⟨k, ks, hk⟩ := List.exists_cons_of_length_pos (l := (nd t).xs) (by omega)
    have hw := x.kid k (by rw [hk]; exact List.mem_cons_self)
    rw [flat_succ, hk, flats_cons] at e
    exact hw.flat_pos (List.append_eq_nil_iff.1 e).1
theorem Weak.flat_len {h : Nat} {l : List (Tr h)} (x : ∀ t ∈ l, Weak h t) : l.length ≤ (flats h l).length := by
  induction l with
  | nil => exact Nat.le_refl _
  | cons a l ih =>
    have h1 := ih (fun t ht => x t (List.mem_cons_of_mem _ ht))
    have h2 := List.length_pos_iff.2 (x a List.mem_cons_self).flat_pos
    rw [flats_cons, List.length_append, List.length_cons]; omega
theorem flat_len_mem {h : Nat} {l : List (Tr h)} {t : Tr h} (x : t ∈ l) : (flat h t).length ≤ (flats h l).length := by
  obtain ⟨a, b, rfl⟩ := List.append_of_mem x
  rw [flats_append, flats_cons]; simp only [List.length_append]; omega

/-- The head of a node's list. -/
theorem flat_head {h : Nat} {t : Tr h} (x : flat h t ≠ []) : ∃ e r, flat h t = e :: r ∧ first h t = e.from_ := by
  obtain ⟨e, r, hr⟩ := List.exists_cons_of_ne_nil x
  exact ⟨e, r, hr, by unfold first; rw [hr]; rfl⟩
theorem first_kid {h : Nat} {t : Tr (h + 1)} {k : Tr h} {ks : List (Tr h)} (hk : (nd t).xs = k :: ks) (x : flat h k ≠ []) : first (h + 1) t = first h k := by
  obtain ⟨e, r, hr, h1⟩ := flat_head x
  rw [h1]; unfold first
  rw [flat_succ, hk, flats_cons, hr]; rfl

/-- Under which key a sector stands, of the first n keys: the last one that is not above it; the first one if there is none. -/
def und (K : List Int) (s : Int) : Nat → Nat
  | 0 => 0
  | n + 1 => if K.getD n 0 ≤ s then n else und K s n
theorem und_le (K : List Int) (s : Int) : ∀ n, und K s n ≤ n - 1
  | 0 => Nat.le_refl _
  | n + 1 => by
    unfold und
    split
    · omega
    · have := und_le K s n; omega
theorem und_key (K : List Int) (s : Int) : ∀ n, und K s n = 0 ∨ K.getD (und K s n) 0 ≤ s
  | 0 => .inl rfl
  | n + 1 => by
    unfold und
    split
    · rename_i h; exact .inr h
    · exact und_key K s n
theorem und_over (K : List Int) (s : Int) : ∀ n j, und K s n < j → j < n → s < K.getD j 0
  | 0, j, _, h => by omega
  | n + 1, j, h1, h2 => by
    unfold und at h1
    split at h1
    · omega
    · rename_i hn
      by_cases e : j = n
      · subst e; omega
      · exact und_over K s n j h1 (by omega)
theorem und_mono (K : List Int) {s s' : Int} (hs : s ≤ s') (n : Nat) : und K s n ≤ und K s' n := by
  rcases und_key K s n with h | h
  · omega
  · rcases Nat.lt_or_ge (und K s' n) (und K s n) with hlt | hge
    · have h1 := und_over K s' n (und K s n) hlt (by have := und_le K s n; omega)
      omega
    · exact hge

theorem wv_head_le {e : Ext} {r : List Ext} (h : WV (e :: r)) : ∀ x ∈ e :: r, e.from_ ≤ x.from_ := by
  intro x hx
  rcases List.mem_cons.1 hx with rfl | hx
  · exact Int.le_refl _
  · have h1 := (List.pairwise_cons.1 h.2).1 x hx
    have h2 := (h.1 e List.mem_cons_self).lt
    unfold Bef at h1; omega

section
variable {h : Nat} {ks : List (Tr h)}
def keys (h : Nat) (ks : List (Tr h)) : List Int := ks.map (first h)
theorem key_at {i : Nat} {k : Tr h} (hk : ks[i]? = some k) : (keys h ks).getD i 0 = first h k := by
  unfold keys; rw [List.getD_eq_getElem?_getD, List.getElem?_map, hk]; rfl
/-- What stands ahead of a kid ends where it begins, at the latest. -/
theorem ahead_of (hv : WV (flats h ks)) (hn : ∀ k ∈ ks, flat h k ≠ []) {i : Nat} (hi : i < ks.length) : ∀ e ∈ flats h (ks.take i), fin e ≤ (keys h ks).getD i 0 := by
  intro e he
  have hk : ks[i]? = some ks[i] := List.getElem?_eq_getElem hi
  rw [key_at hk]
  obtain ⟨x, r, hr, hf⟩ := flat_head (hn _ (List.getElem_mem hi))
  rw [hf]
  have e1 : ks = ks.take i ++ (ks[i] :: ks.drop (i + 1)) := by rw [List.getElem_cons_drop hi, List.take_append_drop]
  rw [e1, flats_append, flats_cons, hr] at hv
  exact (wv_append.1 hv).2.2 e he x (by simp)
theorem behind_of (hv : WV (flats h ks)) (hn : ∀ k ∈ ks, flat h k ≠ []) {i : Nat} (hi : i < ks.length) : ∀ e ∈ flats h (ks.drop i), (keys h ks).getD i 0 ≤ e.from_ := by
  intro e he
  have hk : ks[i]? = some ks[i] := List.getElem?_eq_getElem hi
  rw [key_at hk]
  obtain ⟨x, r, hr, hf⟩ := flat_head (hn _ (List.getElem_mem hi))
  rw [hf]
  have e1 : ks = ks.take i ++ ks.drop i := (List.take_append_drop _ _).symm
  have e2 : ks.drop i = ks[i] :: ks.drop (i + 1) := (List.getElem_cons_drop hi).symm
  rw [e1, flats_append] at hv
  have hv2 := (wv_append.1 hv).2.1
  rw [e2, flats_cons, hr, List.cons_append] at hv2
  rw [e2, flats_cons, hr, List.cons_append] at he
  exact wv_head_le hv2 e he
end

/-- The extents that touch a range. -/
def touch (l : List Ext) (a b : Int) : List Ext := l.filter fun e => decide (a ≤ fin e) && decide (e.from_ ≤ b)
theorem touch_append (x y : List Ext) (a b : Int) : touch (x ++ y) a b = touch x a b ++ touch y a b := by simp [touch]
theorem touch_none {l : List Ext} {a b : Int} (h : ∀ e ∈ l, fin e < a ∨ b < e.from_) : touch l a b = [] := by
  unfold touch
  rw [List.filter_eq_nil_iff]
  intro e he
  rcases h e he with h | h <;> simp <;> omega
theorem touch_sub (l : List Ext) (a b : Int) : (touch l a b).Sublist l := List.filter_sublist
theorem touch_flats (h : Nat) (ks : List (Tr h)) (a b : Int) : touch (flats h ks) a b = ks.flatMap fun k => touch (flat h k) a b := by
  induction ks with
  | nil => rfl
  | cons k ks ih => rw [flats_cons, touch_append, ih]; rfl
/-- The kids in which those stand that touch a range. -/
theorem touch_kids {h : Nat} {ks : List (Tr h)} (hv : WV (flats h ks)) (hn : ∀ k ∈ ks, flat h k ≠ []) (a b : Int) (hab : a ≤ b + 1) (i j : Nat) (hi : i = und (keys h ks) (a - 1) ks.length) (hj : j = und (keys h ks) b ks.length) :
    i ≤ j ∧ (0 < ks.length → j < ks.length) ∧ touch (flats h ks) a b = ((ks.take (j + 1)).drop i).flatMap fun k => touch (flat h k) a b := by
  have h1 : i ≤ j := by rw [hi, hj]; exact und_mono _ (by omega) _
  have h2 : j ≤ ks.length - 1 := by rw [hj]; exact und_le _ _ _
  refine ⟨h1, fun _ => by omega, ?_⟩
  have e1 : ks = ks.take i ++ ((ks.take (j + 1)).drop i ++ ks.drop (j + 1)) := by
    conv => lhs; rw [← List.take_append_drop i ks]
    congr 1
    conv => lhs; rw [← List.take_append_drop (j + 1) ks]
    rw [List.drop_append]
    rcases Nat.eq_zero_or_pos ks.length with h0 | h0
    · have : ks = [] := List.eq_nil_of_length_eq_zero h0
      subst this; simp
    · rw [show i - (ks.take (j + 1)).length = 0 from by rw [List.length_take]; omega, List.drop_zero]
  conv => lhs; rw [e1]
  rw [flats_append, flats_append, touch_append, touch_append, touch_flats h ((ks.take (j + 1)).drop i)]
  have t1 : touch (flats h (ks.take i)) a b = [] := by
    apply touch_none
    intro e he
    by_cases h0 : i < ks.length
    · have := ahead_of hv hn h0 e he
      rcases und_key (keys h ks) (a - 1) ks.length with hk | hk
      · rw [← hi] at hk; subst hk; simp [flats] at he
      · rw [← hi] at hk; exact .inl (by omega)
    · have : i = 0 := by omega
      subst this; simp [flats] at he
  have t2 : touch (flats h (ks.drop (j + 1))) a b = [] := by
    apply touch_none
    intro e he
    by_cases h0 : j + 1 < ks.length
    · have := behind_of hv hn h0 e he
      have := und_over (keys h ks) b ks.length (j + 1) (by rw [← hj]; omega) h0
      exact .inr (by omega)
    · rw [List.drop_eq_nil_of_le (by omega)] at he; simp [flats] at he
  rw [t1, t2]; simp

/-- A list whose extents that begin from a to b give way to others. -/
def repl (l : List Ext) (a b : Int) (E : List Ext) : List Ext := (l.filter fun e => decide (e.from_ < a)) ++ E ++ l.filter fun e => decide (b < e.from_)
theorem filt_all {l : List Ext} {p : Ext → Bool} (h : ∀ e ∈ l, p e = true) : l.filter p = l := List.filter_eq_self.2 h
theorem filt_none {l : List Ext} {p : Ext → Bool} (h : ∀ e ∈ l, p e = false) : l.filter p = [] := by
  rw [List.filter_eq_nil_iff]; intro e he; rw [h e he]; exact Bool.noConfusion
theorem repl_mid {x m y : List Ext} {a b : Int} (hab : a ≤ b) (hx : ∀ e ∈ x, e.from_ < a) (hy : ∀ e ∈ y, b < e.from_) (E : List Ext) : repl (x ++ m ++ y) a b E = x ++ repl m a b E ++ y := by
  unfold repl
  simp only [List.filter_append]
  rw [filt_all (l := x) (p := fun e => decide (e.from_ < a)) (fun e he => by simpa using hx e he), filt_none (l := y) (p := fun e => decide (e.from_ < a)) (fun e he => by have := hy e he; simp; omega), filt_none (l := x) (p := fun e => decide (b < e.from_)) (fun e he => by have := hx e he; simp; omega), filt_all (l := y) (p := fun e => decide (b < e.from_)) (fun e he => by simpa using hy e he)]
  simp [List.append_assoc]
theorem repl_kids {h : Nat} {ks : List (Tr h)} (hv : WV (flats h ks)) (hn : ∀ k ∈ ks, flat h k ≠ []) (a b : Int) (hab : a ≤ b) (i j : Nat) (hi : i = und (keys h ks) a ks.length) (hj : j = und (keys h ks) b ks.length) (E : List Ext) :
    i ≤ j ∧ (0 < ks.length → j < ks.length) ∧ repl (flats h ks) a b E = flats h (ks.take i) ++ repl (flats h ((ks.take (j + 1)).drop i)) a b E ++ flats h (ks.drop (j + 1)) := by
  have h1 : i ≤ j := by rw [hi, hj]; exact und_mono _ hab _
  have h2 : j ≤ ks.length - 1 := by rw [hj]; exact und_le _ _ _
  refine ⟨h1, fun _ => by omega, ?_⟩
  have e1 : ks = ks.take i ++ (ks.take (j + 1)).drop i ++ ks.drop (j + 1) := by
    rw [List.append_assoc]
    conv => lhs; rw [← List.take_append_drop i ks]
    congr 1
    conv => lhs; rw [← List.take_append_drop (j + 1) ks]
    rw [List.drop_append]
    rcases Nat.eq_zero_or_pos ks.length with h0 | h0
    · have : ks = [] := List.eq_nil_of_length_eq_zero h0
      subst this; simp
    · rw [show i - (ks.take (j + 1)).length = 0 from by rw [List.length_take]; omega, List.drop_zero]
  conv => lhs; rw [e1]
  rw [flats_append, flats_append]
  refine repl_mid hab ?_ ?_ E
  · intro e he
    by_cases h0 : i < ks.length
    · have h3 := ahead_of hv hn h0 e he
      have h4 := (hv.1 e (by rw [e1, flats_append, flats_append]; exact List.mem_append_left _ (List.mem_append_left _ he))).lt
      rcases und_key (keys h ks) a ks.length with hk | hk
      · rw [← hi] at hk; subst hk; simp [flats] at he
      · rw [← hi] at hk; omega
    · have : i = 0 := by omega
      subst this; simp [flats] at he
  · intro e he
    by_cases h0 : j + 1 < ks.length
    · have h3 := behind_of hv hn h0 e he
      have h4 := und_over (keys h ks) b ks.length (j + 1) (by rw [← hj]; omega) h0
      omega
    · rw [List.drop_eq_nil_of_le (by omega)] at he; simp [flats] at he
end Go.Proofs.YtdjlflinepefbabGreat.TR
