/- Blocks that are picked in turn are worn alike: the plain facts of a turn, on a table and the queue of the full ones. No program. -/
import Derived.Test.YtomncnelkkmalacWrT
namespace Go.Proofs.Ytomncnelkkmalac
namespace WR
set_option linter.unusedVariables false
set_option linter.unusedSimpArgs false

/-- How often the block of a place was erased. -/
def wo (L : List Bk) (i : Nat) : Int := (L[i]?.getD Bk.zero).wo
theorem wo_at {L : List Bk} {i : Nat} {e : Bk} (h : L[i]? = some e) : wo L i = e.wo := by unfold wo; rw [h]; rfl
/-- A turn's state: the table, the queue of its full ones (no more than c), the least wear m. -/
structure Turn (B c : Nat) (L : List Bk) (Q : List Nat) (m : Int) : Prop where
  len : L.length = B
  pos : 0 ≤ m
  blk : ∀ (i : Nat) (e : Bk), L[i]? = some e → e.va = 0 ∧ (e.st = 0 ∨ e.st = 2) ∧ (e.wo = m ∨ e.wo = m + 1)
  full : ∀ (i : Nat) (e : Bk), L[i]? = some e → (e.st = 2 ↔ i ∈ Q)
  low : ∀ i ∈ Q, i < B
  once : Q.Nodup
  rise : Q.Pairwise fun i j => wo L i ≤ wo L j
  free : ∀ i ∈ Q, wo L i = m + 1 → ∀ (j : Nat) (e : Bk), L[j]? = some e → e.st = 0 → e.wo = m + 1
  few : Q.length ≤ c

theorem all_in : ∀ (n : Nat) (Q : List Nat), (∀ i < n, i ∈ Q) → n ≤ Q.length := by
  intro n
  induction n with
  | zero => intro Q _; exact Nat.zero_le _
  | succ n ih =>
    intro Q h
    have h1 : n ∈ Q := h n (by omega)
    have h2 := ih (Q.erase n) (fun i hi => (List.mem_erase_of_ne (by omega)).2 (h i (by omega)))
    rw [List.length_erase_of_mem h1] at h2
    have := List.length_pos_of_mem h1
    omega
theorem turn_start (B c : Nat) : Turn B c (List.replicate B Bk.zero) [] 0 := by
  have key : ∀ (i : Nat) (e : Bk), (List.replicate B Bk.zero)[i]? = some e → e = Bk.zero := fun i e h => (List.mem_replicate.1 (List.mem_of_getElem? h)).2
  refine ⟨by simp, Int.le_refl _, fun i e h => ?_, fun i e h => ?_, by simp, by simp, by simp, by simp, by simp⟩
  · rw [key i e h]; exact ⟨rfl, .inl rfl, .inl rfl⟩
  · rw [key i e h]; simp [Bk.zero]
theorem turn_wf {B c : Nat} {L : List Bk} {Q : List Nat} {m : Int} (h : Turn B c L Q m) (hm : m ≤ 1000) : ∀ e ∈ L, WfB e := by
  intro e he
  obtain ⟨i, hi⟩ := List.getElem?_of_mem he
  obtain ⟨h1, h2, h3⟩ := h.blk i e hi
  have := h.pos
  unfold WfB I64
  omega
theorem turn_wn {B c : Nat} {L : List Bk} {Q : List Nat} {m : Int} (h : Turn B c L Q m) {i : Nat} {e : Bk} (he : L[i]? = some e) : wn e = e.wo := by
  have := (h.blk i e he).2.2
  have := h.pos
  unfold wn
  rw [if_neg (by omega)]
/-- One is free, and the one that is picked goes to the queue's end. -/
theorem turn_pick {B c : Nat} {L : List Bk} {Q : List Nat} {m r : Int} (h : Turn B c L Q m) (hc : c < B) (hr : Least isFree LtW L B r) :
    ∃ (k : Nat) (e : Bk), r = (k : Int) ∧ k < B ∧ L[k]? = some e ∧ e.st = 0 ∧ k ∉ Q ∧ Turn B (c + 1) (L.set k ⟨2, e.va, e.wo⟩) (Q ++ [k]) m := by
  rcases hr with ⟨_, hno⟩ | ⟨k, e, rfl, hk, he, hf, hmin, _⟩
  · exfalso
    have h1 := all_in B Q (fun i hi => by
      have hi' : i < L.length := by rw [h.len]; exact hi
      have hx : L[i]? = some L[i] := List.getElem?_eq_getElem hi'
      refine (h.full i _ hx).1 ?_
      have h2 := hno i _ hi hx
      have h3 := (h.blk i _ hx).2.1
      unfold isFree at h2
      omega)
    have := h.few
    omega
  · have hst : e.st = 0 := hf
    have hkQ : k ∉ Q := fun hm => by have := (h.full k e he).2 hm; omega
    have hkl : k < L.length := by rw [h.len]; exact hk
    have hself : (L.set k ⟨2, e.va, e.wo⟩)[k]? = some ⟨2, e.va, e.wo⟩ := by simp [hkl]
    have hoth : ∀ i, i ≠ k → (L.set k ⟨2, e.va, e.wo⟩)[i]? = L[i]? := fun i hi => List.getElem?_set_ne (fun h => hi h.symm)
    have hwo : ∀ i, wo (L.set k ⟨2, e.va, e.wo⟩) i = wo L i := by
      intro i
      by_cases hik : i = k
      · subst hik; rw [wo_at hself, wo_at he]
      · unfold wo; rw [hoth i hik]
    have hQ : ∀ i ∈ Q, ∃ x, L[i]? = some x := fun i hi => ⟨_, List.getElem?_eq_getElem (by rw [h.len]; exact h.low i hi)⟩
    have hup : wo L k = m + 1 → ∀ (j : Nat) (x : Bk), L[j]? = some x → x.st = 0 → x.wo = m + 1 := by
      intro hkm j x hx hx0
      have h1 := hmin j x (by have := (List.getElem?_eq_some_iff.1 hx).1; rw [h.len] at this; exact this) hx hx0
      unfold LtW at h1
      rw [turn_wn h hx, turn_wn h he] at h1
      rw [wo_at he] at hkm
      have := (h.blk j x hx).2.2
      omega
    refine ⟨k, e, rfl, hk, he, hst, hkQ, ?_⟩
    refine ⟨by rw [List.length_set]; exact h.len, h.pos, fun i x hx => ?_, fun i x hx => ?_, fun i hi => ?_, ?_, ?_, fun i hi hi1 j x hx hx0 => ?_, by have := h.few; simp; omega⟩
    · by_cases hik : i = k
      · subst hik; rw [hself] at hx; injection hx with hx; subst hx
        exact ⟨(h.blk i e he).1, .inr rfl, (h.blk i e he).2.2⟩
      · rw [hoth i hik] at hx; exact h.blk i x hx
    · by_cases hik : i = k
      · subst hik; rw [hself] at hx; injection hx with hx; subst hx
        simp
      · rw [hoth i hik] at hx
        rw [h.full i x hx]
        simp [hik]
    · rcases List.mem_append.1 hi with hi | hi
      · exact h.low i hi
      · rw [List.mem_singleton.1 hi]; exact hk
    · rw [List.nodup_append]
      exact ⟨h.once, by simp, fun a ha b hb => by rw [List.mem_singleton.1 hb]; exact fun hab => hkQ (hab ▸ ha)⟩
    · rw [List.pairwise_append]
      refine ⟨h.rise.imp (fun {a b} hab => by rw [hwo, hwo]; exact hab), by simp, fun a ha b hb => ?_⟩
      rw [List.mem_singleton.1 hb, hwo, hwo]
      obtain ⟨x, hx⟩ := hQ a ha
      have h1 := (h.blk a x hx).2.2
      have h2 := (h.blk k e he).2.2
      rw [wo_at hx, wo_at he]
      rcases h1 with h1 | h1
      · omega
      · have := h.free a ha (by rw [wo_at hx]; exact h1) k e he hst
        omega
    · have hjk : j ≠ k := fun hjk => by subst hjk; rw [hself] at hx; injection hx with hx; subst hx; simp at hx0
      rw [hoth j hjk] at hx
      rw [hwo] at hi1
      rcases List.mem_append.1 hi with hi | hi
      · exact h.free i hi hi1 j x hx hx0
      · rw [List.mem_singleton.1 hi] at hi1
        exact hup hi1 j x hx hx0
/-- The oldest full one is erased. -/
theorem turn_erase {B c q : Nat} {L : List Bk} {Q : List Nat} {m : Int} {e : Bk} (h : Turn B (c + 1) L (q :: Q) m) (he : L[q]? = some e) :
    ∃ m', m' ≤ m + 1 ∧ Turn B c (L.set q ⟨0, 0, e.wo + 1⟩) Q m' := by
  have hql : q < L.length := (List.getElem?_eq_some_iff.1 he).1
  have hself : (L.set q ⟨0, 0, e.wo + 1⟩)[q]? = some ⟨0, 0, e.wo + 1⟩ := by simp [hql]
  have hoth : ∀ i, i ≠ q → (L.set q ⟨0, 0, e.wo + 1⟩)[i]? = L[i]? := fun i hi => List.getElem?_set_ne (fun h => hi h.symm)
  have hon := List.nodup_cons.1 h.once
  have hri := List.pairwise_cons.1 h.rise
  have hne : ∀ i ∈ Q, i ≠ q := fun i hi hiq => hon.1 (hiq ▸ hi)
  have hwo : ∀ i, i ≠ q → wo (L.set q ⟨0, 0, e.wo + 1⟩) i = wo L i := fun i hi => by unfold wo; rw [hoth i hi]
  have hQ : ∀ i ∈ Q, ∃ x, L[i]? = some x := fun i hi => ⟨_, List.getElem?_eq_getElem (by rw [h.len]; exact h.low i (List.mem_cons_of_mem _ hi))⟩
  have hrise : Q.Pairwise fun i j => wo (L.set q ⟨0, 0, e.wo + 1⟩) i ≤ wo (L.set q ⟨0, 0, e.wo + 1⟩) j :=
    hri.2.imp_of_mem (fun {a b} ha hb hab => by rw [hwo a (hne a ha), hwo b (hne b hb)]; exact hab)
  have hfull : ∀ (i : Nat) (x : Bk), (L.set q ⟨0, 0, e.wo + 1⟩)[i]? = some x → (x.st = 2 ↔ i ∈ Q) := by
    intro i x hx
    by_cases hiq : i = q
    · subst hiq; rw [hself] at hx; injection hx with hx; subst hx
      exact ⟨fun h => by simp at h, fun hi => absurd hi hon.1⟩
    · rw [hoth i hiq] at hx
      rw [h.full i x hx]
      simp [hiq]
  have hfew : Q.length ≤ c := by have := h.few; simp at this; exact this
  have hlow : ∀ i ∈ Q, i < B := fun i hi => h.low i (List.mem_cons_of_mem _ hi)
  have hblk := h.blk
  have he3 := (h.blk q e he).2.2
  have hpos := h.pos
  by_cases hm : e.wo = m
  · refine ⟨m, by omega, by rw [List.length_set]; exact h.len, hpos, fun i x hx => ?_, hfull, hlow, hon.2, hrise, fun i hi hi1 j x hx hx0 => ?_, hfew⟩
    · by_cases hiq : i = q
      · subst hiq; rw [hself] at hx; injection hx with hx; subst hx
        exact ⟨rfl, .inl rfl, .inr (by simp [hm])⟩
      · rw [hoth i hiq] at hx; exact h.blk i x hx
    · by_cases hjq : j = q
      · subst hjq; rw [hself] at hx; injection hx with hx; subst hx; simp [hm]
      · rw [hoth j hjq] at hx
        rw [hwo i (hne i hi)] at hi1
        exact h.free i (List.mem_cons_of_mem _ hi) hi1 j x hx hx0
  · have hm1 : e.wo = m + 1 := by omega
    have hall : ∀ (i : Nat) (x : Bk), L[i]? = some x → x.wo = m + 1 := by
      intro i x hx
      obtain ⟨_, h2, h3⟩ := h.blk i x hx
      rcases h2 with h2 | h2
      · exact h.free q (List.mem_cons_self ..) (by rw [wo_at he]; exact hm1) i x hx h2
      · rcases List.mem_cons.1 ((h.full i x hx).1 h2) with h4 | h4
        · subst h4; rw [he] at hx; injection hx with hx; rw [← hx]; exact hm1
        · have := hri.1 i h4
          rw [wo_at he, wo_at hx] at this
          omega
    refine ⟨m + 1, by omega, by rw [List.length_set]; exact h.len, by omega, fun i x hx => ?_, hfull, hlow, hon.2, hrise, fun i hi hi1 j x hx hx0 => ?_, hfew⟩
    · by_cases hiq : i = q
      · subst hiq; rw [hself] at hx; injection hx with hx; subst hx
        exact ⟨rfl, .inl rfl, .inr (by simp [hm1])⟩
      · rw [hoth i hiq] at hx
        exact ⟨(h.blk i x hx).1, (h.blk i x hx).2.1, .inl (hall i x hx)⟩
    · obtain ⟨y, hy⟩ := hQ i hi
      rw [hwo i (hne i hi), wo_at hy, hall i y hy] at hi1
      omega
theorem turn_keep {B c d : Nat} {L : List Bk} {Q : List Nat} {m : Int} (h : Turn B c L Q m) (hd : Q.length ≤ d) : Turn B d L Q m :=
  ⟨h.len, h.pos, h.blk, h.full, h.low, h.once, h.rise, h.free, hd⟩
theorem turn_gap {B c : Nat} {L : List Bk} {Q : List Nat} {m g : Int} (h : Turn B c L Q m) (hg : Gp L B g) : 0 ≤ g ∧ g ≤ 1 := by
  rcases hg with ⟨rfl, _⟩ | ⟨lo, hi, ⟨h1, i, x, h2, h3, h4, h5⟩, ⟨g1, j, y, g2, g3, g4, g5⟩, rfl⟩
  · omega
  · have a1 := (h.blk i x h3).2.2
    have a2 := (h.blk j y g3).2.2
    rw [turn_wn h h3] at h5
    rw [turn_wn h g3] at g5
    have := h1 j y g2 g3 g4
    rw [turn_wn h g3] at this
    omega
end WR
end Go.Proofs.Ytomncnelkkmalac
