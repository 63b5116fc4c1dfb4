/- The sum of 32 bits is linear, and turned bits within 32 side by side always change it. Plain facts, no conditions but those that each theorem names. -/
import Derived.Test.YtolcacmkageidaaCrcMath
namespace Go.Proofs.Ytolcacmkageidaa.CM
set_option linter.unusedVariables false
set_option linter.unusedSimpArgs false

theorem g_xor (a b : BitVec 32) : g (a ^^^ b) = g a ^^^ g b := by
  unfold g
  rw [BitVec.shiftLeft_xor_distrib, BitVec.msb_xor]
  have hc : (a <<< 1 ^^^ poly) ^^^ (b <<< 1 ^^^ poly) = a <<< 1 ^^^ b <<< 1 := by
    rw [show (a <<< 1 ^^^ poly) ^^^ (b <<< 1 ^^^ poly) = a <<< 1 ^^^ b <<< 1 ^^^ (poly ^^^ poly) from by ac_rfl, BitVec.xor_self, BitVec.xor_zero]
  cases a.msb <;> cases b.msb
  · simp
  · simp only [Bool.false_xor, if_true, Bool.false_eq_true, if_false, BitVec.xor_zero]; ac_rfl
  · simp only [Bool.xor_false, if_true, Bool.false_eq_true, if_false, BitVec.xor_zero]; ac_rfl
  · simp only [Bool.xor_self, if_true, Bool.false_eq_true, if_false, BitVec.xor_zero]; exact hc.symm
theorem gn_xor (k : Nat) (a b : BitVec 32) : gn k (a ^^^ b) = gn k a ^^^ gn k b := by
  induction k generalizing a b with
  | zero => rfl
  | succ k ih => rw [gn, gn, gn, g_xor, ih]
theorem bw_xor (x y : UInt8) : bw (x ^^^ y) = bw x ^^^ bw y := by
  have hx := x.toNat_lt
  have hy := y.toNat_lt
  have hxy := (x ^^^ y).toNat_lt
  apply BitVec.eq_of_toNat_eq
  rw [BitVec.toNat_xor, bw, bw, bw, BitVec.toNat_ofNat, BitVec.toNat_ofNat, BitVec.toNat_ofNat, Nat.mod_eq_of_lt (by omega), Nat.mod_eq_of_lt (by omega), Nat.mod_eq_of_lt (by omega), UInt8.toNat_xor]
  have h := @Nat.shiftLeft_xor_distrib 24 x.toNat y.toNat
  simpa [Nat.shiftLeft_eq] using h
theorem upd_xor (r s : BitVec 32) (x y : UInt8) : upd (r ^^^ s) (x ^^^ y) = upd r x ^^^ upd s y := by
  unfold upd
  rw [bw_xor, ← gn_xor]
  congr 1
  ac_rfl
/-- Three texts put together bit by bit, the first n bytes. -/
def mix (a b c : List UInt8) : Nat → List UInt8
  | 0 => []
  | n + 1 => mix a b c n ++ [a.getD n 0 ^^^ b.getD n 0 ^^^ c.getD n 0]
theorem take_getD (a : List UInt8) (n : Nat) (h : n < a.length) : a.take (n + 1) = a.take n ++ [a.getD n 0] := by
  rw [List.take_succ_eq_append_getElem h, List.getD_eq_getElem?_getD, List.getElem?_eq_getElem h]; rfl
theorem crc_mix (r s t : BitVec 32) (a b c : List UInt8) (n : Nat) (ha : n ≤ a.length) (hb : n ≤ b.length) (hc : n ≤ c.length) :
    crc (r ^^^ s ^^^ t) (mix a b c n) = crc r (a.take n) ^^^ crc s (b.take n) ^^^ crc t (c.take n) := by
  induction n with
  | zero => simp [mix, crc]
  | succ n ih =>
    rw [mix, crc_snoc, ih (by omega) (by omega) (by omega), take_getD a n (by omega), take_getD b n (by omega), take_getD c n (by omega), crc_snoc, crc_snoc, crc_snoc, upd_xor, upd_xor]
theorem not_three (x y z : BitVec 32) : ~~~ (x ^^^ y ^^^ z) = ~~~ x ^^^ ~~~ y ^^^ ~~~ z := by
  apply BitVec.eq_of_getLsbD_eq
  intro i hi
  simp only [BitVec.getLsbD_not, BitVec.getLsbD_xor, hi, decide_true, Bool.true_and]
  cases x.getLsbD i <;> cases y.getLsbD i <;> cases z.getLsbD i <;> rfl
theorem sum_mix (a b c : List UInt8) (n : Nat) (ha : n ≤ a.length) (hb : n ≤ b.length) (hc : n ≤ c.length) :
    sum (mix a b c n) = sum (a.take n) ^^^ sum (b.take n) ^^^ sum (c.take n) := by
  have h := crc_mix (~~~ 0#32) (~~~ 0#32) (~~~ 0#32) a b c n ha hb hc
  rw [show (~~~ 0#32 : BitVec 32) ^^^ ~~~ 0#32 ^^^ ~~~ 0#32 = ~~~ 0#32 from by decide] at h
  unfold sum more
  rw [h, not_three]
end Go.Proofs.Ytolcacmkageidaa.CM
