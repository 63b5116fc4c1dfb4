/- Plain facts on the sum of 32 bits: what one bit and one byte do to the register, and that both are linear. No conditions but those that each theorem names. -/
import Derived.Test.YtolcacmkageidacDoorMath
namespace Go.Proofs.YtolcacmkageidacDoor.CM

def poly : BitVec 32 := 0x04c11db7#32
/-- One bit moved through. -/
def g (c : BitVec 32) : BitVec 32 := (c <<< 1) ^^^ (if c.msb then poly else 0#32)
def gn : Nat → BitVec 32 → BitVec 32
  | 0, c => c
  | k + 1, c => gn k (g c)
/-- A byte as the register's highest eight bits. -/
def bw (b : UInt8) : BitVec 32 := BitVec.ofNat 32 (b.toNat * 16777216)
def upd (c : BitVec 32) (b : UInt8) : BitVec 32 := gn 8 (c ^^^ bw b)
def crc (c : BitVec 32) (l : List UInt8) : BitVec 32 := l.foldl upd c
def more (s : BitVec 32) (l : List UInt8) : BitVec 32 := ~~~ (crc (~~~ s) l)
def sum (l : List UInt8) : BitVec 32 := more 0#32 l
/-- A sum's bytes, the highest first. -/
def tailb (s : BitVec 32) : List UInt8 := [UInt8.ofNat (s.toNat / 16777216 % 256), UInt8.ofNat (s.toNat / 65536 % 256), UInt8.ofNat (s.toNat / 256 % 256), UInt8.ofNat (s.toNat % 256)]
def sealed (l : List UInt8) : List UInt8 := l ++ tailb (sum l)

theorem gn_succ (k : Nat) (c : BitVec 32) : gn (k + 1) c = g (gn k c) := by
  induction k generalizing c with
  | zero => rfl
  | succ k ih => rw [gn, ih]; rfl
theorem crc_snoc (c : BitVec 32) (l : List UInt8) (b : UInt8) : crc c (l ++ [b]) = upd (crc c l) b := by simp [crc]
theorem crc_append (c : BitVec 32) (a b : List UInt8) : crc c (a ++ b) = crc (crc c a) b := by simp [crc]
theorem more_append (s : BitVec 32) (a b : List UInt8) : more s (a ++ b) = more (more s a) b := by simp [more, crc_append]
theorem more_nil (s : BitVec 32) : more s [] = s := by simp [more, crc]
theorem tailb_len (s : BitVec 32) : (tailb s).length = 4 := rfl

theorem shl_val (c : BitVec 32) : IntKind.u32.wrap ((c.toNat : Int) * 2) = ((c <<< 1).toNat : Int) := by
  rw [IntKind.wrap_u32', BitVec.toNat_shiftLeft, Nat.shiftLeft_eq]
  omega
theorem shl_val' (c : BitVec 32) : (c.toNat : Int) * (2 : Int) % (4294967296 : Int) = ((c <<< 1).toNat : Int) := by
  rw [BitVec.toNat_shiftLeft, Nat.shiftLeft_eq]
  omega
theorem xor_val (a b : BitVec 32) : bits .xor .u32 (a.toNat : Int) (b.toNat : Int) = ((a ^^^ b).toNat : Int) := by
  rw [u32_xor_nat _ _ a.isLt b.isLt, BitVec.toNat_xor]
theorem not_val (a : BitVec 32) : bits .xor .u32 IntKind.u32.max (a.toNat : Int) = ((~~~ a).toNat : Int) := by
  have e : IntKind.u32.max = ((BitVec.allOnes 32).toNat : Int) := by decide
  rw [e, xor_val, BitVec.allOnes_xor]
theorem msb_val (c : BitVec 32) : ((c.toNat : Int) / 2147483648 == 1) = c.msb := by
  have h := c.isLt
  rw [BitVec.msb_eq_decide, Bool.eq_iff_iff]
  simp
  omega
theorem byte_val (b : UInt8) : (b.toNat : Int) % (4294967296 : Int) * (16777216 : Int) % (4294967296 : Int) = ((bw b).toNat : Int) := by
  have := b.toNat_lt
  rw [bw, BitVec.toNat_ofNat, Nat.mod_eq_of_lt (by omega)]
  omega
theorem g_of_msb {c : BitVec 32} (h : c.msb = true) : g c = (c <<< 1) ^^^ poly := by simp [g, h]
theorem g_of_not {c : BitVec 32} (h : c.msb = false) : g c = c <<< 1 := by simp [g, h]
theorem poly_val : (poly.toNat : Int) = 79764919 := rfl
end Go.Proofs.YtolcacmkageidacDoor.CM
