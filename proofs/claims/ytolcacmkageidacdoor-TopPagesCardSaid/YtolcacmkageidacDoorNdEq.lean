/- What an array does, case by case: plain equations. No program. -/
import Derived.Test.YtolcacmkageidacDoorNdMath
namespace Go.Proofs.YtolcacmkageidacDoor
namespace ND
set_option linter.unusedVariables false
set_option linter.unusedSimpArgs false

theorem program_eq {d : Nd} {p : Nat} {s : ByteArray} (hd : d.down = false) (hp : p < d.B * d.P) (hs : s.size ≤ 128) (hb : d.bad (p / d.P) = false) (hn : d.next (p / d.P) = p % d.P) :
    d.program p s = (((d.counted).wrote p (d.takes s)).suffer (p / d.P) (brings d.mis 2), brings d.mis 2) := by
  have hm : d.mayProgram p s = 0 := by
    unfold Nd.mayProgram
    rw [hd]
    have h1 : d.hasPage p = true := by
      have h1 : (p : Int) < ((d.B * d.P : Nat) : Int) := by exact_mod_cast hp
      unfold Nd.hasPage
      simp only [Bool.and_eq_true, decide_eq_true_eq]
      exact ⟨by omega, h1⟩
    rw [if_neg (by simp), if_neg (by rw [h1]; simp; omega)]
    have h2 : ((p : Int)).toNat = p := by omega
    rw [h2, hb, hn]
    simp
  unfold Nd.program
  rw [if_neg (by simpa using hm)]
  have h2 : ((p : Int)).toNat = p := by omega
  rw [h2]
theorem has_page {d : Nd} {p : Nat} (hp : p < d.B * d.P) : d.hasPage p = true := by
  have h1 : (p : Int) < ((d.B * d.P : Nat) : Int) := by exact_mod_cast hp
  unfold Nd.hasPage
  simp only [Bool.and_eq_true, decide_eq_true_eq]
  exact ⟨by omega, h1⟩
theorem has_block {d : Nd} {b : Nat} (hb : b < d.B) : d.hasBlock b = true := by
  unfold Nd.hasBlock
  simp only [Bool.and_eq_true, decide_eq_true_eq]
  omega
theorem program_bad {d : Nd} {p : Nat} {s : ByteArray} (hd : d.down = false) (hp : p < d.B * d.P) (hs : s.size ≤ 128) (hb : d.bad (p / d.P) = true) : d.program p s = (d, 41) := by
  have hm : d.mayProgram p s = 41 := by
    unfold Nd.mayProgram
    have h2 : ((p : Int)).toNat = p := by omega
    rw [hd, if_neg (by simp), if_neg (by rw [has_page hp]; simp; omega), h2, hb, if_pos rfl]
  unfold Nd.program
  rw [if_pos (by rw [hm]; decide), hm]
theorem erase_eq {d : Nd} {b : Nat} (hd : d.down = false) (hb : b < d.B) (hbad : d.bad b = false) : d.erase b = (((d.counted).erased b d.mis (brings d.mis 3)).suffer b (brings d.mis 3), brings d.mis 3) := by
  have h2 : ((b : Int)).toNat = b := by omega
  have hm : d.mayErase b = 0 := by
    unfold Nd.mayErase
    rw [hd, if_neg (by simp), if_neg (by rw [has_block hb]; simp), h2, hbad, if_neg (by simp)]
  unfold Nd.erase
  rw [if_neg (by simpa using hm), h2]
theorem erase_is_bad {d : Nd} {b : Nat} (hd : d.down = false) (hb : b < d.B) (hbad : d.bad b = true) : d.erase b = (d, 41) := by
  have h2 : ((b : Int)).toNat = b := by omega
  have hm : d.mayErase b = 41 := by
    unfold Nd.mayErase
    rw [hd, if_neg (by simp), if_neg (by rw [has_block hb]; simp), h2, hbad, if_pos rfl]
  unfold Nd.erase
  rw [if_pos (by rw [hm]; decide), hm]
theorem read_eq {d : Nd} {p : Nat} (hd : d.down = false) (hp : p < d.B * d.P) (hn : p % d.P < d.next (p / d.P)) : d.read p = (d.txt p, 0) := by
  have h2 : ((p : Int)).toNat = p := by omega
  unfold Nd.read
  rw [hd, if_neg (by simp), if_neg (by rw [has_page hp]; simp), h2, if_neg (by omega)]
end ND
end Go.Proofs.YtolcacmkageidacDoor
