/- Plain facts on the bytes of a number, the lowest first: how many, which number they make, and that each number below 256^w has just one such text. No conditions but those that each theorem names. -/
import Derived.WalkKit
namespace Go.Proofs.Ytdjlflinepefbaa.FM

/-- The w lowest bytes of n, the lowest first. -/
def fb : Nat → Nat → List UInt8
  | _, 0 => []
  | n, w + 1 => UInt8.ofNat (n % 256) :: fb (n / 256) w
/-- The number of bytes, the lowest first. -/
def val : List UInt8 → Nat
  | [] => 0
  | b :: l => b.toNat + 256 * val l
/-- A list of bytes as a string. -/
def str (l : List UInt8) : ByteArray := ⟨l.toArray⟩

theorem str_toList (l : List UInt8) : (str l).toList = l := by
  rw [ByteArray.toList_eq]; simp [str]
theorem str_size (l : List UInt8) : (str l).size = l.length := by simp [str, ByteArray.size]
theorem str_inj {a b : List UInt8} (h : str a = str b) : a = b := by
  have := congrArg ByteArray.toList h; simpa [str_toList] using this

theorem fb_length (n w : Nat) : (fb n w).length = w := by
  induction w generalizing n with
  | zero => rfl
  | succ w ih => simp [fb, ih]

theorem val_fb (n w : Nat) : val (fb n w) = n % 256 ^ w := by
  induction w generalizing n with
  | zero => simp [fb, val, Nat.mod_one]
  | succ w ih =>
    simp only [fb, val, ih]
    rw [Nat.pow_succ, Nat.mul_comm (256 ^ w) 256, Nat.mod_mul]
    simp

theorem val_lt (l : List UInt8) : val l < 256 ^ l.length := by
  induction l with
  | nil => simp [val]
  | cons b l ih =>
    have := b.toNat_lt
    simp only [val, List.length_cons, Nat.pow_succ]
    omega

theorem fb_val (l : List UInt8) : fb (val l) l.length = l := by
  induction l with
  | nil => rfl
  | cons b l ih =>
    have := b.toNat_lt
    have e1 : val (b :: l) % 256 = b.toNat := by simp only [val]; omega
    have e2 : val (b :: l) / 256 = val l := by simp only [val]; omega
    simp only [List.length_cons, fb, e1, e2, ih]
    simp

theorem fb_snoc (n w : Nat) : fb n (w + 1) = fb n w ++ [UInt8.ofNat (n / 256 ^ w % 256)] := by
  induction w generalizing n with
  | zero => simp [fb]
  | succ w ih =>
    rw [fb, ih (n / 256)]
    simp only [fb, List.cons_append]
    rw [Nat.div_div_eq_div_mul, Nat.pow_succ, Nat.mul_comm 256]

theorem val_append (a b : List UInt8) : val (a ++ b) = val a + 256 ^ a.length * val b := by
  induction a with
  | nil => simp [val]
  | cons x a ih =>
    simp only [List.cons_append, val, ih, List.length_cons, Nat.pow_succ]
    rw [Nat.mul_add, Nat.mul_comm (256 ^ a.length) 256, Nat.mul_assoc]; omega
end Go.Proofs.Ytdjlflinepefbaa.FM
