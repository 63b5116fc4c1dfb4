/- An array on which pages were put one behind the other in one block. Plain mathematics over the array's. -/
import Derived.Test.YtolcacmkageidacDoorNdEq
import Derived.Test.YtolcacmkageidacDoorNdA
namespace Go.Proofs.YtolcacmkageidacDoor
namespace TP
open ND
set_option linter.unusedVariables false
set_option linter.unusedSimpArgs false

/-- The array D whose block B has the texts K, one behind the other, and nothing else. -/
structure Lk (D : Nd) (B : Nat) (K : List ByteArray) : Prop where
  b : D.B = 16
  p : D.P = 8
  down : D.down = false
  bad : ∀ i, D.bad i = false
  next : D.next = put (fun _ => 0) B K.length
  txt : ∀ i t, K[i]? = some t → D.txt (8 * B + i) = t
  ops : D.ops = K.length
  laid : D.laid = 0
  plan : ∀ k, D.plan k = none
theorem lk_fresh (B : Nat) : Lk (fresh 16 8) B [] :=
  ⟨rfl, rfl, rfl, fun _ => rfl, by funext k; show 0 = put _ B 0 k; unfold put; split <;> rfl, fun i t h => by simp at h, rfl, rfl, fun _ => rfl⟩
theorem at8 (B i : Nat) (h : i < 8) : (8 * B + i) / 8 = B ∧ (8 * B + i) % 8 = i := by omega
theorem Lk.mis {D : Nd} {B : Nat} {K : List ByteArray} (h : Lk D B K) : D.mis = Mis.zero := by
  unfold Nd.mis
  rw [h.plan]; rfl
theorem Lk.put_ {D : Nd} {B : Nat} {K : List ByteArray} (h : Lk D B K) (hB : B < 16) (hK : K.length < 8) (s : ByteArray) (hs : s.size ≤ 128) :
    ∃ D', D.program ((8 * B + K.length : Nat) : Int) s = (D', 0) ∧ Lk D' B (K ++ [s]) := by
  obtain ⟨e1, e2⟩ := at8 B K.length hK
  have hm := h.mis
  have hb0 : brings D.mis 2 = 0 := by rw [hm]; rfl
  have := program_eq (d := D) (p := 8 * B + K.length) (s := s) h.down (by rw [h.b, h.p]; omega) hs (by rw [h.p, e1]; exact h.bad _) (by rw [h.p, e1, e2, h.next, put_same])
  rw [hb0, h.p, e1] at this
  refine ⟨_, this, ?_⟩
  have ht : D.takes s = s := by unfold Nd.takes; rw [hb0, if_pos rfl]
  rw [ht]
  refine ⟨h.b, h.p, h.down, h.bad, ?_, ?_, ?_, h.laid, ?_⟩
  · show put D.next ((8 * B + K.length) / D.P) (D.next ((8 * B + K.length) / D.P) + 1) = _
    rw [h.p, e1, h.next, put_same]
    funext k
    unfold put
    split
    · simp
    · rfl
  · intro i t hi
    show put D.txt (8 * B + K.length) s (8 * B + i) = t
    by_cases hik : i = K.length
    · subst hik
      rw [put_same]
      simpa using hi
    · rw [put_other _ _ (by omega)]
      have hlt : i < K.length := by
        have := (List.getElem?_eq_some_iff.1 hi).1
        simp at this
        omega
      exact h.txt i t (by rwa [List.getElem?_append_left hlt] at hi)
  · show D.ops + 1 = _
    rw [h.ops]; simp
  · intro k
    show (if k = D.due then none else D.plan k) = none
    split
    · rfl
    · exact h.plan k

def pl2 : List Mis := [⟨1, 2, 0, ⟨#[]⟩⟩, ⟨2, 3, 0, ⟨#[]⟩⟩]
/-- What is so behind the two mishaps. -/
structure Lm (D : Nd) (B o : Nat) (K : List ByteArray) : Prop where
  b : D.B = 16
  p : D.P = 8
  down : D.down = false
  bad : ∀ i, D.bad i = (decide (i = B) || decide (i = o))
  nextB : K.length ≤ D.next B
  nextO : ∀ i, i ≠ B → D.next i = 0
  txt : ∀ i t, K[i]? = some t → D.txt (8 * B + i) = t
  ops : D.ops ≤ 100
  plan : ∀ k, D.due ≤ k → D.plan k = none

theorem Lm.mis {D : Nd} {B o : Nat} {K : List ByteArray} (h : Lm D B o K) : D.mis = Mis.zero := by
  unfold Nd.mis
  rw [h.plan _ (Int.le_refl _)]; rfl

theorem Lk.fails {D : Nd} {B : Nat} {K : List ByteArray} (h : Lk D B K) (hB : B < 16) (hK : K.length < 8) (o : Nat) (ho : o < 16) (hoB : o ≠ B) (s : ByteArray) (hs : s.size ≤ 128) :
    ∃ D2 D3, (D.planned pl2).program ((8 * B + K.length : Nat) : Int) s = (D2, 41) ∧ D2.erase (o : Int) = (D3, 41) ∧ D2.ops ≤ 100 ∧ Lm D3 B o K := by
  obtain ⟨e1, e2⟩ := at8 B K.length hK
  have hdue : (D.planned pl2).due = 1 := by show ((D.ops : Int) + 1) - (D.ops : Int) = 1; omega
  have hm : (D.planned pl2).mis = ⟨1, 2, 0, cut ⟨#[]⟩⟩ := by unfold Nd.mis; rw [hdue]; rfl
  have hb0 : brings (D.planned pl2).mis 2 = 41 := by rw [hm]; rfl
  have h1 := program_eq (d := D.planned pl2) (p := 8 * B + K.length) (s := s) h.down (by show _ < D.B * D.P; rw [h.b, h.p]; omega) hs (by show D.bad ((8 * B + K.length) / D.P) = false; rw [h.p, e1]; exact h.bad _) (by show D.next ((8 * B + K.length) / D.P) = (8 * B + K.length) % D.P; rw [h.p, e1, e2, h.next, put_same])
  rw [hb0, show (D.planned pl2).P = 8 from h.p, e1] at h1
  obtain ⟨D2, hD2⟩ : ∃ D2, D2 = ((((D.planned pl2).counted).wrote (8 * B + K.length) ((D.planned pl2).takes s)).suffer B 41) := ⟨_, rfl⟩
  rw [← hD2] at h1
  have hP2 : D2.P = 8 := by rw [hD2]; exact h.p
  have hB2 : D2.B = 16 := by rw [hD2]; exact h.b
  have hd2 : D2.down = false := by rw [hD2]; exact h.down
  have hbad2 : D2.bad = put D.bad B true := by rw [hD2]; rfl
  have hops2 : D2.ops = K.length + 1 := by rw [hD2]; show D.ops + 1 = _; rw [h.ops]
  have hlaid2 : D2.laid = K.length := by rw [hD2]; show D.ops = _; rw [h.ops]
  have hdue2 : D2.due = 2 := by unfold Nd.due; rw [hops2, hlaid2]; omega
  have hplan2 : ∀ k, D2.plan k = if k = 1 then none else planOf pl2 k := by rw [hD2]; intro k; show (if k = (D.planned pl2).due then none else planOf pl2 k) = _; rw [hdue]
  have hm2 : D2.mis = ⟨2, 3, 0, cut ⟨#[]⟩⟩ := by unfold Nd.mis; rw [hdue2, hplan2]; rfl
  have hb2 : brings D2.mis 3 = 41 := by rw [hm2]; rfl
  have hnext2 : D2.next = put D.next B (K.length + 1) := by
    rw [hD2]
    show put D.next ((8 * B + K.length) / D.P) (D.next ((8 * B + K.length) / D.P) + 1) = _
    rw [h.p, e1, h.next, put_same]
  have htxt2 : ∀ i, i ≠ 8 * B + K.length → D2.txt i = D.txt i := by
    intro i hi
    rw [hD2]
    exact put_other _ _ hi
  have h2 := erase_eq (d := D2) (b := o) hd2 (by rw [hB2]; exact ho) (by rw [hbad2, put_other _ _ hoB]; exact h.bad _)
  rw [hb2] at h2
  have her : (D2.counted).erased o D2.mis 41 = D2.counted := by rw [hm2]; rfl
  rw [her] at h2
  obtain ⟨D3, hD3⟩ : ∃ D3, D3 = (D2.counted).suffer o 41 := ⟨_, rfl⟩
  rw [← hD3] at h2
  refine ⟨D2, D3, h1, h2, by omega, ?_⟩
  refine ⟨by rw [hD3]; exact hB2, by rw [hD3]; exact hP2, by rw [hD3]; exact hd2, ?_, ?_, ?_, ?_, ?_, ?_⟩
  · intro i
    rw [hD3]
    show put D2.bad o true i = _
    rw [hbad2]
    unfold put
    by_cases hio : i = o
    · simp [hio]
    · rw [if_neg hio]
      by_cases hiB : i = B
      · simp [hiB]
      · rw [if_neg hiB, h.bad]; simp [hio, hiB]
  · rw [hD3]
    show K.length ≤ D2.next B
    rw [hnext2, put_same]; omega
  · intro i hi
    rw [hD3]
    show D2.next i = 0
    rw [hnext2, put_other _ _ hi, h.next, put_other _ _ hi]
  · intro i t hi
    rw [hD3]
    show D2.txt (8 * B + i) = t
    have hlt : i < K.length := (List.getElem?_eq_some_iff.1 hi).1
    rw [htxt2 _ (by omega)]
    exact h.txt i t hi
  · rw [hD3]
    show D2.ops + 1 ≤ 100
    omega
  · rw [hD3]
    have hd : ((D2.counted).suffer o 41).due = 3 := by
      show (((D2.ops + 1 : Nat) : Int) + 1) - (D2.laid : Int) = 3
      rw [hops2, hlaid2]; omega
    intro k hk
    rw [hd] at hk
    show (if k = D2.due then none else D2.plan k) = none
    split
    · rfl
    · rw [hplan2, if_neg (by omega)]
      unfold planOf
      rw [if_neg (by omega)]
      have h1 : ((1 : Int) == k) = false := beq_eq_false_iff_ne.2 (by omega)
      have h2 : ((2 : Int) == k) = false := beq_eq_false_iff_ne.2 (by omega)
      simp [pl2, h1, h2]
theorem Lm.read_ {D : Nd} {B o : Nat} {K : List ByteArray} (h : Lm D B o K) (hB : B < 16) (hK : K.length < 8) (i : Nat) (t : ByteArray) (hi : K[i]? = some t) : D.read ((8 * B + i : Nat) : Int) = (t, 0) := by
  have hlt : i < K.length := (List.getElem?_eq_some_iff.1 hi).1
  obtain ⟨e1, e2⟩ := at8 B i (by omega)
  have hn := h.nextB
  rw [read_eq (p := 8 * B + i) h.down (by rw [h.b, h.p]; omega) (by rw [h.p, e1, e2]; omega), h.txt i t hi]
/-- A third block: put, erased, blank. -/
theorem Lm.third {D : Nd} {B o : Nat} {K : List ByteArray} (h : Lm D B o K) (c : Nat) (hc : c < 16) (hcB : c ≠ B) (hco : c ≠ o) (hB : B < 16) (ho : o < 16) (s : ByteArray) (hs : s.size ≤ 128) :
    ∃ D2 D3, D.program ((8 * c : Nat) : Int) s = (D2, 0) ∧ D2.ops ≤ 200 ∧ D2.erase (c : Int) = (D3, 0) ∧ (D3.read ((8 * c : Nat) : Int)).2 = 42 ∧ D3.badAt (B : Int) = true ∧ D3.badAt (o : Int) = true ∧ D3.badAt (c : Int) = false := by
  obtain ⟨e1, e2⟩ := at8 c 0 (by decide)
  rw [Nat.add_zero] at e1 e2
  have hbc : D.bad c = false := by rw [h.bad]; simp [hcB, hco]
  have hb0 : brings D.mis 2 = 0 := by rw [h.mis]; rfl
  have h1 := program_eq (d := D) (p := 8 * c) (s := s) h.down (by rw [h.b, h.p]; omega) hs (by rw [h.p, e1]; exact hbc) (by rw [h.p, e1, e2]; exact h.nextO c hcB)
  rw [hb0, h.p, e1] at h1
  have ht : D.takes s = s := by unfold Nd.takes; rw [hb0, if_pos rfl]
  rw [ht] at h1
  obtain ⟨D2, hD2⟩ : ∃ D2, D2 = ((D.counted).wrote (8 * c) s).suffer c 0 := ⟨_, rfl⟩
  rw [← hD2] at h1
  have hP2 : D2.P = 8 := by rw [hD2]; exact h.p
  have hB2 : D2.B = 16 := by rw [hD2]; exact h.b
  have hd2 : D2.down = false := by rw [hD2]; exact h.down
  have hbad2 : D2.bad = D.bad := by rw [hD2]; rfl
  have h2 := erase_eq (d := D2) (b := c) hd2 (by rw [hB2]; exact hc) (by rw [hbad2]; exact hbc)
  have hops2 : D2.ops = D.ops + 1 := by rw [hD2]; rfl
  have hdue2 : D2.due = D.due + 1 := by rw [hD2]; show (((D.ops + 1 : Nat) : Int) + 1) - (D.laid : Int) = ((D.ops : Int) + 1) - (D.laid : Int) + 1; omega
  have hm2 : D2.mis = Mis.zero := by
    unfold Nd.mis
    rw [hdue2, hD2]
    show ((if D.due + 1 = D.due then none else D.plan (D.due + 1)).getD Mis.zero) = _
    rw [if_neg (by omega), h.plan _ (by omega)]
    rfl
  have hb2 : brings D2.mis 3 = 0 := by rw [hm2]; rfl
  rw [hb2] at h2
  obtain ⟨D3, hD3⟩ : ∃ D3, D3 = ((D2.counted).erased c D2.mis 0).suffer c 0 := ⟨_, rfl⟩
  rw [← hD3] at h2
  have hP3 : D3.P = 8 := by rw [hD3]; exact hP2
  have hB3 : D3.B = 16 := by rw [hD3]; exact hB2
  have hd3 : D3.down = false := by rw [hD3]; exact hd2
  have hbad3 : D3.bad = D.bad := by rw [hD3]; show D2.bad = _; exact hbad2
  have hnext3 : D3.next c = 0 := by rw [hD3]; show put D2.next c 0 c = 0; exact put_same _ _ _
  refine ⟨D2, D3, h1, by have := h.ops; omega, h2, ?_, ?_, ?_, ?_⟩
  · unfold Nd.read
    have e3 : (((8 * c : Nat) : Int)).toNat = 8 * c := by omega
    rw [hd3, if_neg (by simp), has_page (d := D3) (p := 8 * c) (by rw [hB3, hP3]; omega), if_neg (by simp), e3, hP3, e1, e2, hnext3, if_pos (Nat.le_refl _)]
  · unfold Nd.badAt
    rw [has_block (d := D3) (b := B) (by rw [hB3]; exact hB), if_pos rfl, hbad3, h.bad]
    simp
  · unfold Nd.badAt
    rw [has_block (d := D3) (b := o) (by rw [hB3]; exact ho), if_pos rfl, hbad3, h.bad]
    simp
  · unfold Nd.badAt
    rw [has_block (d := D3) (b := c) (by rw [hB3]; exact hc), if_pos rfl, hbad3, h.bad]
    simp [hcB, hco]
end TP
end Go.Proofs.YtolcacmkageidacDoor
