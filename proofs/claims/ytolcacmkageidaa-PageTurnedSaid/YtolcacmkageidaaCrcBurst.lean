/- Turned bits within 32 side by side: sealed bytes that they changed are sealed no more. Plain facts, no conditions but those that each theorem names. -/
import Derived.Test.YtolcacmkageidaaCrcLin
namespace Go.Proofs.Ytolcacmkageidaa.CM
set_option linter.unusedVariables false
set_option linter.unusedSimpArgs false

def top : BitVec 32 := 0x80000000#32
/-- Bit q of a byte, the highest first. -/
def e (q : Nat) : UInt8 := UInt8.ofNat (128 / 2 ^ q)
/-- The text with bit p turned, the highest of each byte first. -/
def flip (l : List UInt8) (p : Nat) : List UInt8 := l.set (p / 8) (l.getD (p / 8) 0 ^^^ e (p % 8))

theorem flip_len (l : List UInt8) (p : Nat) : (flip l p).length = l.length := by simp [flip]
theorem gn_add (a b : Nat) (c : BitVec 32) : gn (a + b) c = gn a (gn b c) := by
  induction b generalizing c with
  | zero => rfl
  | succ b ih => rw [← Nat.add_assoc, gn, ih]; rfl
theorem gn_zero (k : Nat) : gn k 0#32 = 0#32 := by
  induction k with
  | zero => rfl
  | succ k ih => rw [gn]; exact ih
theorem top_bit (i : Nat) : top.getLsbD i = decide (i = 31) := by
  rw [show top = BitVec.twoPow 32 31 from rfl, BitVec.getLsbD_twoPow]
  by_cases h : i = 31
  · subst h; rfl
  · have h2 : ¬ 31 = i := fun x => h x.symm
    simp [h, h2]
theorem gn_shift : ∀ k : Fin 32, gn k.val (top >>> k.val) = top := by decide +kernel
theorem upd_e : ∀ q : Fin 8, upd 0#32 (e q.val) = gn (8 - q.val) top := by decide +kernel
theorem upd_split (c : BitVec 32) (x : UInt8) : upd c x = gn 8 c ^^^ gn 8 (bw x) := by rw [upd, gn_xor]
theorem crc_err (u v : BitVec 32) (b : List UInt8) : crc (u ^^^ v) b = crc u b ^^^ gn (8 * b.length) v := by
  induction b generalizing u v with
  | nil => rfl
  | cons x b ih =>
    have h : upd (u ^^^ v) x = upd u x ^^^ gn 8 v := by rw [upd_split, upd_split, gn_xor]; ac_rfl
    show crc (upd (u ^^^ v) x) b = crc (upd u x) b ^^^ _
    rw [h, ih, ← gn_add]
    rfl
theorem crc_flip (r : BitVec 32) (l : List UInt8) (p : Nat) (hp : p < 8 * l.length) : crc r (flip l p) = crc r l ^^^ gn (8 * l.length - p) top := by
  have hi : p / 8 < l.length := by omega
  have hl : l = l.take (p / 8) ++ (l[p / 8] :: l.drop (p / 8 + 1)) := by rw [← List.drop_eq_getElem_cons hi, List.take_append_drop]
  have hg : l.getD (p / 8) 0 = l[p / 8] := by rw [List.getD_eq_getElem?_getD, List.getElem?_eq_getElem hi]; rfl
  have hf : flip l p = l.take (p / 8) ++ ((l[p / 8] ^^^ e (p % 8)) :: l.drop (p / 8 + 1)) := by
    unfold flip
    rw [hg, List.set_eq_take_append_cons_drop, if_pos hi]
  have h2 : crc r l = crc (upd (crc r (l.take (p / 8))) l[p / 8]) (l.drop (p / 8 + 1)) := by
    have := congrArg (crc r) hl
    rw [crc_append] at this
    exact this
  rw [hf, crc_append, h2]
  show crc (upd (crc r (l.take (p / 8))) (l[p / 8] ^^^ e (p % 8))) (l.drop (p / 8 + 1)) = _
  have hu : upd (crc r (l.take (p / 8))) (l[p / 8] ^^^ e (p % 8)) = upd (crc r (l.take (p / 8))) l[p / 8] ^^^ gn (8 - p % 8) top := by
    have h := upd_xor (crc r (l.take (p / 8))) 0#32 l[p / 8] (e (p % 8))
    rw [BitVec.xor_zero] at h
    rw [h, upd_e ⟨p % 8, Nat.mod_lt _ (by decide)⟩]
  rw [hu, crc_err, ← gn_add, List.length_drop]
  congr 2
  omega

/-- What the loop keeps: W says which bits were turned. -/
structure Inv (l0 l : List UInt8) (M k : Nat) (W : BitVec 32) : Prop where
  len : l.length = l0.length
  crc : ∀ r, crc r l = crc r l0 ^^^ gn M W
  eq : W = 0#32 → l = l0
  low : ∀ j, j < 32 - k → W.getLsbD j = false

theorem Inv.start (l : List UInt8) (M : Nat) : Inv l l M 0 0#32 :=
  ⟨rfl, fun r => by rw [gn_zero, BitVec.xor_zero], fun _ => rfl, fun j _ => by simp⟩
theorem Inv.skip {l0 l : List UInt8} {M k : Nat} {W : BitVec 32} (h : Inv l0 l M k W) : Inv l0 l M (k + 1) W :=
  ⟨h.len, h.crc, h.eq, fun j hj => h.low j (by omega)⟩
theorem Inv.turn {l0 l : List UInt8} {f k : Nat} {W : BitVec 32} (h : Inv l0 l (8 * l0.length - f) k W) (hk : k < 32) (hin : f + k < 8 * l0.length) :
    Inv l0 (flip l (f + k)) (8 * l0.length - f) (k + 1) (W ^^^ (top >>> k)) := by
  refine ⟨by rw [flip_len, h.len], fun r => ?_, fun hw => ?_, fun j hj => ?_⟩
  · rw [crc_flip r l (f + k) (by rw [h.len]; exact hin), h.crc, gn_xor, h.len]
    have e1 : 8 * l0.length - f = (8 * l0.length - (f + k)) + k := by omega
    have e2 : gn (8 * l0.length - f) (top >>> k) = gn (8 * l0.length - (f + k)) top := by
      rw [e1, gn_add, gn_shift ⟨k, hk⟩]
    rw [e2]
    ac_rfl
  · exfalso
    have hb := congrArg (fun x => BitVec.getLsbD x (31 - k)) hw
    simp only [BitVec.getLsbD_xor, BitVec.getLsbD_ushiftRight, top_bit, h.low (31 - k) (by omega), BitVec.getLsbD_zero] at hb
    rw [show k + (31 - k) = 31 by omega] at hb
    simp at hb
  · rw [BitVec.getLsbD_xor, BitVec.getLsbD_ushiftRight, top_bit, h.low j (by omega)]
    have : ¬ k + j = 31 := by omega
    simp [this]

theorem g_inj {c : BitVec 32} (h : g c = 0#32) : c = 0#32 := by
  unfold g at h
  cases hm : c.msb with
  | true =>
    rw [hm, if_pos rfl] at h
    have hb := congrArg (fun x => BitVec.getLsbD x 0) h
    simp [poly] at hb
  | false =>
    rw [hm] at h
    simp only [Bool.false_eq_true, if_false, BitVec.xor_zero] at h
    have ht := congrArg BitVec.toNat h
    rw [BitVec.toNat_shiftLeft, Nat.shiftLeft_eq] at ht
    rw [BitVec.msb_eq_decide, decide_eq_false_iff_not] at hm
    apply BitVec.eq_of_toNat_eq
    have h0 : (0#32).toNat = 0 := rfl
    rw [h0] at ht ⊢
    omega
theorem gn_inj (k : Nat) {c : BitVec 32} (h : gn k c = 0#32) : c = 0#32 := by
  induction k generalizing c with
  | zero => exact h
  | succ k ih => exact g_inj (ih h)

theorem g_small (m : Nat) (h : m < 2147483648) : g (BitVec.ofNat 32 m) = BitVec.ofNat 32 (m * 2) := by
  have hm : (BitVec.ofNat 32 m).msb = false := by
    rw [BitVec.msb_eq_decide, BitVec.toNat_ofNat, decide_eq_false_iff_not]; omega
  rw [g_of_not hm]
  apply BitVec.eq_of_toNat_eq
  rw [BitVec.toNat_shiftLeft, Nat.shiftLeft_eq, BitVec.toNat_ofNat, BitVec.toNat_ofNat]
  omega
theorem gn_small (j m : Nat) (h : m * 2 ^ j < 4294967296) : gn j (BitVec.ofNat 32 m) = BitVec.ofNat 32 (m * 2 ^ j) := by
  induction j generalizing m with
  | zero => simp [gn]
  | succ j ih =>
    rw [Nat.pow_succ, Nat.mul_comm (2 ^ j) 2, ← Nat.mul_assoc] at h ⊢
    have hle : m * 2 ≤ m * 2 * 2 ^ j := Nat.le_mul_of_pos_right _ (Nat.two_pow_pos j)
    rw [gn, g_small m (by omega), ih _ h]

theorem word_of (s : BitVec 32) : BitVec.ofNat 32 (s.toNat / 16777216 % 256 * 16777216) ^^^ BitVec.ofNat 32 (s.toNat / 65536 % 256 * 65536) ^^^ BitVec.ofNat 32 (s.toNat / 256 % 256 * 256) ^^^ BitVec.ofNat 32 (s.toNat % 256) = s := by
  apply BitVec.eq_of_getLsbD_eq
  intro i hi
  have p24 : (16777216 : Nat) = 2 ^ 24 := rfl
  have p16 : (65536 : Nat) = 2 ^ 16 := rfl
  have p8 : (256 : Nat) = 2 ^ 8 := rfl
  rw [p24, p16, p8]
  simp only [BitVec.getLsbD_xor, BitVec.getLsbD_ofNat, hi, decide_true, Bool.true_and, Nat.testBit_mul_two_pow, Nat.testBit_mod_two_pow, Nat.testBit_div_two_pow]
  show _ = s.toNat.testBit i
  rcases (by omega : i < 8 ∨ (8 ≤ i ∧ i < 16) ∨ (16 ≤ i ∧ i < 24) ∨ 24 ≤ i) with h | h | h | h
  · simp [show ¬ 24 ≤ i by omega, show ¬ 16 ≤ i by omega, show ¬ 8 ≤ i by omega, h]
  · simp [show ¬ 24 ≤ i by omega, show ¬ 16 ≤ i by omega, h.1, show ¬ i < 8 by omega, show i - 8 < 8 by omega]
  · simp [show ¬ 24 ≤ i by omega, h.1, show 8 ≤ i by omega, show ¬ i < 8 by omega, show ¬ i - 8 < 8 by omega, show i - 16 < 8 by omega]
  · simp [h, show 16 ≤ i by omega, show 8 ≤ i by omega, show ¬ i < 8 by omega, show ¬ i - 8 < 8 by omega, show ¬ i - 16 < 8 by omega, show i - 24 < 8 by omega]

theorem crc_tail (c s : BitVec 32) : crc c (tailb s) = gn 32 (c ^^^ s) := by
  have l := s.isLt
  have b (n : Nat) : bw (UInt8.ofNat (n % 256)) = gn 0 (BitVec.ofNat 32 (n % 256 * 16777216)) := by
    have : (UInt8.ofNat (n % 256)).toNat = n % 256 := by simp
    rw [bw, this]; rfl
  have h24 : gn 24 (BitVec.ofNat 32 (s.toNat % 256)) = bw (UInt8.ofNat (s.toNat % 256)) := by rw [gn_small _ _ (by omega), b]; rfl
  have h16 : gn 16 (BitVec.ofNat 32 (s.toNat / 256 % 256 * 256)) = bw (UInt8.ofNat (s.toNat / 256 % 256)) := by rw [gn_small _ _ (by omega), b, Nat.mul_assoc]; rfl
  have h8 : gn 8 (BitVec.ofNat 32 (s.toNat / 65536 % 256 * 65536)) = bw (UInt8.ofNat (s.toNat / 65536 % 256)) := by rw [gn_small _ _ (by omega), b, Nat.mul_assoc]; rfl
  have h0 : BitVec.ofNat 32 (s.toNat / 16777216 % 256 * 16777216) = bw (UInt8.ofNat (s.toNat / 16777216 % 256)) := by rw [b]; rfl
  show upd (upd (upd (upd c _) _) _) _ = _
  rw [upd_split, upd_split, upd_split, upd_split, gn_xor, gn_xor, gn_xor, gn_xor, gn_xor, gn_xor, ← h24, ← h16, ← h8, ← h0]
  simp only [← gn_add, ← gn_xor]
  have hw := word_of s
  have hx : gn 32 (c ^^^ s) = gn 32 (c ^^^ (BitVec.ofNat 32 (s.toNat / 16777216 % 256 * 16777216) ^^^ BitVec.ofNat 32 (s.toNat / 65536 % 256 * 65536) ^^^ BitVec.ofNat 32 (s.toNat / 256 % 256 * 256) ^^^ BitVec.ofNat 32 (s.toNat % 256))) := by rw [hw]
  rw [hx]
  simp only [gn_xor]
  ac_rfl
def cutTail (l : List UInt8) : List UInt8 := l.take (l.length - 4)
def tailOk (l : List UInt8) : Prop := l.drop (l.length - 4) = tailb (sum (cutTail l))
theorem residue (l : List UInt8) (h : tailOk l) : crc (~~~ 0#32) l = gn 32 (BitVec.allOnes 32) := by
  have hl : l = cutTail l ++ tailb (sum (cutTail l)) := by
    unfold tailOk at h
    rw [← h, cutTail, List.take_append_drop]
  have h2 := congrArg (crc (~~~ 0#32)) hl
  rw [crc_append, crc_tail] at h2
  rw [h2]
  congr 1
  show crc (~~~ 0#32) (cutTail l) ^^^ ~~~ (crc (~~~ 0#32) (cutTail l)) = _
  apply BitVec.eq_of_getLsbD_eq
  intro i hi
  simp only [BitVec.getLsbD_not, BitVec.getLsbD_xor, BitVec.getLsbD_allOnes, hi, decide_true, Bool.true_and]
  cases (crc (~~~ 0#32) (cutTail l)).getLsbD i <;> rfl
theorem burst_end {l0 l : List UInt8} {M k : Nat} {W : BitVec 32} (h : Inv l0 l M k W) (h0 : tailOk l0) : l = l0 ∨ (l ≠ l0 ∧ ¬ tailOk l) := by
  by_cases hW : W = 0#32
  · exact .inl (h.eq hW)
  · right
    have key : ∀ r, crc r l = crc r l0 → False := by
      intro r hr
      rw [h.crc] at hr
      have hz : gn M W = 0#32 := by
        have h3 := congrArg (fun x => crc r l0 ^^^ x) hr
        simp only [← BitVec.xor_assoc, BitVec.xor_self, BitVec.zero_xor] at h3
        exact h3
      exact hW (gn_inj M hz)
    exact ⟨fun hl => key 0#32 (by rw [hl]), fun hs => key (~~~ 0#32) (by rw [residue l hs, residue l0 h0])⟩
theorem e_val (q : Nat) (h : q < 8) : (128 : Int) / 2 ^ q = ((e q).toNat : Int) := by
  rcases (by omega : q = 0 ∨ q = 1 ∨ q = 2 ∨ q = 3 ∨ q = 4 ∨ q = 5 ∨ q = 6 ∨ q = 7) with rfl | rfl | rfl | rfl | rfl | rfl | rfl | rfl <;> rfl
theorem flip_byte (x : UInt8) (q : Nat) (h : q < 8) : bits .xor .u8 (x.toNat : Int) (128 / 2 ^ q) = ((x ^^^ e q).toNat : Int) := by
  rw [e_val q h, u8_xor_nat _ _ x.toNat_lt (e q).toNat_lt, UInt8.toNat_xor]
end Go.Proofs.Ytolcacmkageidaa.CM
