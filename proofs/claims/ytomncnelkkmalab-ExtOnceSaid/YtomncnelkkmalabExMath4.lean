/- Plain facts on lists of extents: twice is once, cuts in either order, a list out of its parts, one sector that moves. No program. -/
import Derived.Test.YtomncnelkkmalabExMath3
namespace Go.Proofs.Ytomncnelkkmalab.EX
set_option linter.unusedVariables false

theorem cut_cut {l : List Ext} (h : Valid l) {f n g m : Int} (f0 : 0 ≤ f) (n0 : 0 ≤ n) (n1 : n ≤ 16777216 - f) (g0 : 0 ≤ g) (m0 : 0 ≤ m) (m1 : m ≤ 16777216 - g) : cut (cut l f n) g m = cut (cut l g m) f n := by
  refine uniq (cut_ok (cut_ok h n0) m0) (cut_ok (cut_ok h m0) n0) fun s => ?_
  rw [cut_say (cut_ok h n0) g0 m0 m1, cut_say h f0 n0 n1, cut_say (cut_ok h m0) f0 n0 n1, cut_say h g0 m0 m1]
  by_cases c1 : g ≤ s ∧ s < g + m
  · by_cases c2 : f ≤ s ∧ s < f + n
    · simp [c1, c2]
    · simp [c1]
  · by_cases c2 : f ≤ s ∧ s < f + n
    · simp [c2]
    · simp [c1, c2]
theorem one_rng {e : Ext} (h : One e) : 0 ≤ e.from_ ∧ 0 ≤ e.n ∧ e.n ≤ 16777216 - e.from_ := ⟨h.1.2.1, by have := h.1.1; omega, h.1.2.2⟩
theorem over_over {l : List Ext} (h : Valid l) {a : Ext} (ha : One a) : over (over l a) a = over l a := by
  refine uniq (over_ok (over_ok h ha) ha) (over_ok h ha) fun s => ?_
  rw [over_say (over_ok h ha) ha, over_say h ha]
  by_cases c : a.from_ ≤ s ∧ s < fin a
  · simp [c]
  · simp [c]
theorem cut_over {l : List Ext} (h : Valid l) {a : Ext} (ha : One a) : cut (over l a) a.from_ a.n = cut l a.from_ a.n := by
  obtain ⟨g0, g1, g2⟩ := one_rng ha
  refine uniq (cut_ok (over_ok h ha) g1) (cut_ok h g1) fun s => ?_
  rw [cut_say (over_ok h ha) g0 g1 g2, cut_say h g0 g1 g2, over_say h ha]
  by_cases c : a.from_ ≤ s ∧ s < a.from_ + a.n
  · rw [if_pos c, if_pos c]
  · rw [if_neg c, if_neg c, if_neg (show ¬ (a.from_ ≤ s ∧ s < fin a) from c)]
theorem cut_twice {l : List Ext} (h : Valid l) {a : Ext} (ha : One a) : cut (cut l a.from_ a.n) a.from_ a.n = cut l a.from_ a.n := by
  obtain ⟨g0, g1, g2⟩ := one_rng ha
  refine uniq (cut_ok (cut_ok h g1) g1) (cut_ok h g1) fun s => ?_
  rw [cut_say (cut_ok h g1) g0 g1 g2, cut_say h g0 g1 g2]
  by_cases c : a.from_ ≤ s ∧ s < a.from_ + a.n
  · rw [if_pos c, if_pos c]
  · rw [if_neg c]
theorem over_swap {l : List Ext} (h : Valid l) {a b : Ext} (ha : One a) (hb : One b) (hd : ¬ (a.from_ - b.from_ < b.n ∧ b.from_ - a.from_ < a.n)) : over (over l a) b = over (over l b) a := by
  refine uniq (over_ok (over_ok h ha) hb) (over_ok (over_ok h hb) ha) fun s => ?_
  rw [over_say (over_ok h ha) hb, over_say h ha, over_say (over_ok h hb) ha, over_say h hb]
  have h1 := ha.pos
  have h2 := hb.pos
  by_cases c1 : b.from_ ≤ s ∧ s < fin b
  · have c2 : ¬ (a.from_ ≤ s ∧ s < fin a) := by unfold fin at *; omega
    simp [c1, c2]
  · simp [c1]
/-- What is laid over, one behind the other. -/
def overAll (l es : List Ext) : List Ext := es.foldl over l
theorem overAll_snoc (l es : List Ext) (e : Ext) : overAll l (es ++ [e]) = over (overAll l es) e := by simp [overAll]
theorem overAll_say {es : List Ext} : ∀ {l : List Ext}, Valid l → WV es → Valid (overAll l es) ∧ ∀ s, say (overAll l es) s = if (say es s).1 = 0 then say l s else say es s := by
  induction es with
  | nil => intro l h _; exact ⟨h, fun s => by simp [overAll, say]⟩
  | cons e es ih =>
    intro l h hw
    obtain ⟨ho, hp⟩ := hw
    rw [List.pairwise_cons] at hp
    have he := ho e (List.mem_cons_self ..)
    obtain ⟨h1, h2⟩ := ih (l := over l e) (over_ok h he) ⟨fun x hx => ho x (List.mem_cons_of_mem _ hx), hp.2⟩
    refine ⟨h1, fun s => ?_⟩
    have e0 : overAll l (e :: es) = overAll (over l e) es := rfl
    rw [e0, h2 s, over_say h he, say]
    by_cases c : e.from_ ≤ s ∧ s < fin e
    · have hz : say es s = (0, 0) := say_none fun x hx hh => by
        have := hp.1 x hx
        unfold Bef at this
        omega
      rw [hz]
      simp [c, he.kind_ne]
    · simp [c]
theorem whole {l : List Ext} (h : Valid l) {f n : Int} (f0 : 0 ≤ f) (n0 : 0 ≤ n) (n1 : n ≤ 16777216 - f) : overAll (cut l f n) (clip l f n) = l := by
  obtain ⟨h1, h2⟩ := overAll_say (cut_ok h n0) (clip_ok h f n).wv
  refine uniq h1 h fun s => ?_
  rw [h2 s, clip_say h f n, cut_say h f0 n0 n1]
  by_cases c : f ≤ s ∧ s < f + n
  · rw [if_pos c]
    by_cases hz : (say l s).1 = 0
    · rw [if_pos hz, if_pos c, (say_hole h.1 hz).1]
    · rw [if_neg hz]
  · rw [if_neg c, if_pos rfl, if_neg c]
theorem clip1_count {e : Ext} (he : One e) {s : Int} (h0 : 0 ≤ s) (h1 : s < 16777216) : count (clip1 e 0 s) + count (clip1 e (s + 1) 16777216) = e.n - if e.from_ ≤ s ∧ s < fin e then 1 else 0 := by
  have a1 := he.low
  have a2 := he.high
  have a3 := he.pos
  have a4 : fin e = e.from_ + e.n := rfl
  have l1 : lo e 0 = e.from_ := by unfold lo; split <;> omega
  have l2 : hi e 16777216 = fin e := by unfold hi; split <;> omega
  unfold clip1
  rw [l1, l2]
  unfold lo hi
  by_cases c1 : fin e ≤ s
  · rw [if_pos c1, if_pos (by omega), if_pos (show e.from_ ≤ s + 1 by omega), if_neg (by omega), if_neg (by omega)]
    simp [count, stretch]; omega
  · rw [if_neg c1]
    by_cases c2 : e.from_ ≤ s
    · have c5 : (if e.from_ ≤ s ∧ s < fin e then (1 : Int) else 0) = 1 := if_pos ⟨c2, by omega⟩
      rw [if_pos (show e.from_ ≤ s + 1 by omega), c5]
      by_cases c3 : e.from_ < s
      · rw [if_pos c3]
        by_cases c4 : s + 1 < fin e
        · rw [if_pos c4]; simp [count, stretch]; omega
        · rw [if_neg c4]; simp [count, stretch]; omega
      · rw [if_neg c3]
        by_cases c4 : s + 1 < fin e
        · rw [if_pos c4]; simp [count, stretch]; omega
        · rw [if_neg c4]; simp [count]; omega
    · rw [if_neg (show ¬ e.from_ < s by omega), if_neg (show ¬ (e.from_ ≤ s ∧ s < fin e) by omega)]
      by_cases c3 : e.from_ ≤ s + 1
      · rw [if_pos c3, if_pos (by omega)]; simp [count, stretch]; omega
      · rw [if_neg c3, if_pos (by omega)]; simp [count, stretch]; omega
theorem clips_count {l : List Ext} (h : WV l) {s : Int} (h0 : 0 ≤ s) (h1 : s < 16777216) : count (clips l 0 s) + count (clips l (s + 1) 16777216) = count l - if (say l s).1 = 0 then 0 else 1 := by
  induction l with
  | nil => simp [clips, count, say]
  | cons e l ih =>
    obtain ⟨ho, hp⟩ := h
    rw [List.pairwise_cons] at hp
    have he := ho e (List.mem_cons_self ..)
    have h2 := ih ⟨fun x hx => ho x (List.mem_cons_of_mem _ hx), hp.2⟩
    have h3 := clip1_count he h0 h1
    rw [clips_cons, clips_cons, count_append, count_append, count_cons, say]
    by_cases c : e.from_ ≤ s ∧ s < fin e
    · have hz : say l s = (0, 0) := say_none fun x hx hh => by
        have := hp.1 x hx
        unfold Bef at this
        omega
      rw [hz] at h2
      rw [if_pos c] at h3 ⊢
      simp only [if_true] at h2
      rw [if_neg he.kind_ne]
      omega
    · rw [if_neg c] at h3 ⊢
      omega
theorem move_count {l : List Ext} (h : Valid l) {s p : Int} (hs : (say l s).1 ≠ 0) (ho : One ⟨s, 1, 2, p⟩) : count (over l ⟨s, 1, 2, p⟩) = count l := by
  obtain ⟨e, he, h1, h2⟩ := say_some hs
  have := (h.1 e he).low
  have := (h.1 e he).high
  have h3 := (over_spec h ho).counts
  rw [h3, count_append, count_append]
  have h4 := clips_count h.wv (s := s) (by omega) (by omega)
  rw [if_neg hs] at h4
  have e1 : count [(⟨s, 1, 2, p⟩ : Ext)] = 1 := rfl
  have e2 : count [] = 0 := rfl
  have e3 : fin ⟨s, 1, 2, p⟩ = s + 1 := rfl
  rw [e1, e2, e3]
  simp only
  omega
theorem over_all_short (l es : List Ext) (e : Ext) : True := trivial
end Go.Proofs.Ytomncnelkkmalab.EX
