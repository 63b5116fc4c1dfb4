/- More plain facts on lists of extents: how a list goes on. No program. -/
import Derived.Test.YtdjlflinepefbaaExMath
namespace Go.Proofs.Ytdjlflinepefbaa.EX
set_option linter.unusedVariables false

/-- A list goes on. -/
theorem valid_snoc {l : List Ext} {e : Ext} (hl : Valid l) (he : One e) (hp : ∀ i a, l = i ++ [a] → Bef a e ∧ ¬ Tog a e) : Valid (l ++ [e]) := by
  rcases snoc_cases l with rfl | ⟨i, a, rfl⟩
  · exact ⟨fun x hx => by rw [List.mem_singleton.1 hx]; exact he, List.pairwise_singleton _ _⟩
  · obtain ⟨h1, h2⟩ := hp i a rfl
    refine ⟨fun x hx => ?_, ?_⟩
    · rcases List.mem_append.1 hx with hx | hx
      · exact hl.1 x hx
      · rw [List.mem_singleton.1 hx]; exact he
    · rw [List.pairwise_append]
      refine ⟨hl.2, List.pairwise_singleton _ _, fun x hx y hy => ?_⟩
      obtain rfl := List.mem_singleton.1 hy
      rcases List.mem_append.1 hx with hx' | hx'
      · have h3 := (List.pairwise_append.1 hl.2).2.2 x hx' a (by simp)
        have := (hl.1 a (by simp)).lt
        refine ⟨by have := h3.1; unfold Bef at *; omega, fun ht => ?_⟩
        have h4 := ht.1
        have h5 := h3.1
        unfold Bef at h1 h5
        omega
      · rw [List.mem_singleton.1 hx']; exact ⟨h1, h2⟩
theorem take_snoc {l : List Ext} {k : Nat} {e : Ext} (h : l[k]? = some e) : l.take (k + 1) = l.take k ++ [e] := by
  rw [List.take_add_one, h]; rfl
theorem valid_at {l : List Ext} (h : Valid l) {k : Nat} {e : Ext} (he : l[k]? = some e) : One e := h.1 e (List.mem_of_getElem? he)
theorem valid_two {l : List Ext} (h : Valid l) {j : Nat} {a e : Ext} (ha : l[j]? = some a) (he : l[j + 1]? = some e) : Bef a e ∧ ¬ Tog a e := by
  obtain ⟨h1, h2⟩ := List.getElem?_eq_some_iff.1 ha
  obtain ⟨h3, h4⟩ := List.getElem?_eq_some_iff.1 he
  have := List.pairwise_iff_getElem.1 h.2 j (j + 1) h1 h3 (by omega)
  rwa [h2, h4] at this
theorem valid_first {l : List Ext} {e : Ext} (he : l[0]? = some e) (h : One e) : Valid (l.take 1) := by
  rw [take_snoc he]
  exact valid_snoc (by simpa using valid_nil) h fun i a hi => by simp at hi
theorem valid_next {l : List Ext} {j : Nat} {a e : Ext} (hl : Valid (l.take (j + 1))) (ha : l[j]? = some a) (he : l[j + 1]? = some e) (h : One e) (h2 : Bef a e ∧ ¬ Tog a e) : Valid (l.take (j + 1 + 1)) := by
  rw [take_snoc he]
  refine valid_snoc hl h fun i b hi => ?_
  rw [take_snoc ha] at hi
  have := List.append_inj_right' hi rfl
  simp at this
  rw [← this]; exact h2
theorem valid_take {l : List Ext} {k : Nat} (hk : l.length ≤ k) (h : Valid (l.take k)) : Valid l := by rwa [List.take_of_length_le hk] at h
end Go.Proofs.Ytdjlflinepefbaa.EX
