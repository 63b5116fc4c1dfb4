/- 3 texts laid together: each says at its head what it proves. No condition but those that each theorem names. -/
import Derived.Test.YtdjlflinepefbabGreatQ33
import Derived.Test.YtdjlflinepefbabGreatQ06

/- What an array does, case by case: plain equations. No program. -/
namespace Go.Proofs.YtdjlflinepefbabGreat
namespace ND
set_option linter.unusedVariables false
set_option linter.unusedSimpArgs false

theorem program_eq {d : Nd} {p : Nat} {s : ByteArray} (hd : d.down = false) (hp : p < d.B * d.P) (hs : s.size ≤ 128) (hb : d.bad (p / d.P) = false) (hn : d.next (p / d.P) = p % d.P) :
    d.program p s = (((d.counted).wrote p (d.takes s)).suffer (p / d.P) (brings d.mis 2), brings d.mis 2) := by
  have hm : d.mayProgram p s = 0 := by
    unfold Nd.mayProgram
    rw [hd]
    have h1 : d.hasPage p = true := by
      have h1 : (p : Int) < ((d.B * d.P : Nat) : Int) := by exact_mod_cast hp
      unfold Nd.hasPage
      simp only [Bool.and_eq_true, decide_eq_true_eq]
      exact ⟨by omega, h1⟩
    rw [if_neg (by simp), if_neg (by rw [h1]; simp; omega)]
    have h2 : ((p : Int)).toNat = p := by omega
    rw [h2, hb, hn]
    simp
  unfold Nd.program
  rw [if_neg (by simpa using hm)]
  have h2 : ((p : Int)).toNat = p := by omega
  rw [h2]
theorem has_page {d : Nd} {p : Nat} (hp : p < d.B * d.P) : d.hasPage p = true := by
  have h1 : (p : Int) < ((d.B * d.P : Nat) : Int) := by exact_mod_cast hp
  unfold Nd.hasPage
  simp only [Bool.and_eq_true, decide_eq_true_eq]
  exact ⟨by omega, h1⟩
theorem has_block {d : Nd} {b : Nat} (hb : b < d.B) : d.hasBlock b = true := by
  unfold Nd.hasBlock
  simp only [Bool.and_eq_true, decide_eq_true_eq]
  omega
theorem program_bad {d : Nd} {p : Nat} {s : ByteArray} (hd : d.down = false) (hp : p < d.B * d.P) (hs : s.size ≤ 128) (hb : d.bad (p / d.P) = true) : d.program p s = (d, 41) := by
  have hm : d.mayProgram p s = 41 := by
    unfold Nd.mayProgram
    have h2 : ((p : Int)).toNat = p := by omega
    rw [hd, if_neg (by simp), if_neg (by rw [has_page hp]; simp; omega), h2, hb, if_pos rfl]
  unfold Nd.program
  rw [if_pos (by rw [hm]; decide), hm]
theorem erase_eq {d : Nd} {b : Nat} (hd : d.down = false) (hb : b < d.B) (hbad : d.bad b = false) : d.erase b = (((d.counted).erased b d.mis (brings d.mis 3)).suffer b (brings d.mis 3), brings d.mis 3) := by
  have h2 : ((b : Int)).toNat = b := by omega
  have hm : d.mayErase b = 0 := by
    unfold Nd.mayErase
    rw [hd, if_neg (by simp), if_neg (by rw [has_block hb]; simp), h2, hbad, if_neg (by simp)]
  unfold Nd.erase
  rw [if_neg (by simpa using hm), h2]
theorem erase_is_bad {d : Nd} {b : Nat} (hd : d.down = false) (hb : b < d.B) (hbad : d.bad b = true) : d.erase b = (d, 41) := by
  have h2 : ((b : Int)).toNat = b := by omega
  have hm : d.mayErase b = 41 := by
    unfold Nd.mayErase
    rw [hd, if_neg (by simp), if_neg (by rw [has_block hb]; simp), h2, hbad, if_pos rfl]
  unfold Nd.erase
  rw [if_pos (by rw [hm]; decide), hm]
theorem read_eq {d : Nd} {p : Nat} (hd : d.down = false) (hp : p < d.B * d.P) (hn : p % d.P < d.next (p / d.P)) : d.read p = (d.txt p, 0) := by
  have h2 : ((p : Int)).toNat = p := by omega
  unfold Nd.read
  rw [hd, if_neg (by simp), if_neg (by rw [has_page hp]; simp), h2, if_neg (by omega)]
end ND
end Go.Proofs.YtdjlflinepefbabGreat

/- Plain facts on the sum of 32 bits: what one bit and one byte do to the register, and that both are linear. No conditions but those that each theorem names. -/
namespace Go.Proofs.YtdjlflinepefbabGreat.CM

def poly : BitVec 32 := 0x04c11db7#32
/-- One bit moved through. -/
def g (c : BitVec 32) : BitVec 32 := (c <<< 1) ^^^ (if c.msb then poly else 0#32)
def gn : Nat → BitVec 32 → BitVec 32
  | 0, c => c
  | k + 1, c => gn k (g c)
/-- A byte as the register's highest eight bits. -/
def bw (b : UInt8) : BitVec 32 := BitVec.ofNat 32 (b.toNat * 16777216)
def upd (c : BitVec 32) (b : UInt8) : BitVec 32 := gn 8 (c ^^^ bw b)
def crc (c : BitVec 32) (l : List UInt8) : BitVec 32 := l.foldl upd c
def more (s : BitVec 32) (l : List UInt8) : BitVec 32 := ~~~ (crc (~~~ s) l)
def sum (l : List UInt8) : BitVec 32 := more 0#32 l
/-- A sum's bytes, the highest first. -/
def tailb (s : BitVec 32) : List UInt8 := [UInt8.ofNat (s.toNat / 16777216 % 256), UInt8.ofNat (s.toNat / 65536 % 256), UInt8.ofNat (s.toNat / 256 % 256), UInt8.ofNat (s.toNat % 256)]
def sealed (l : List UInt8) : List UInt8 := l ++ tailb (sum l)

theorem gn_succ (k : Nat) (c : BitVec 32) : gn (k + 1) c = g (gn k c) := by
  induction k generalizing c with
  | zero => rfl
  | succ k ih => rw [gn, ih]; rfl
theorem crc_snoc (c : BitVec 32) (l : List UInt8) (b : UInt8) : crc c (l ++ [b]) = upd (crc c l) b := by simp [crc]
theorem crc_append (c : BitVec 32) (a b : List UInt8) : crc c (a ++ b) = crc (crc c a) b := by simp [crc]
theorem more_append (s : BitVec 32) (a b : List UInt8) : more s (a ++ b) = more (more s a) b := by simp [more, crc_append]
theorem more_nil (s : BitVec 32) : more s [] = s := by simp [more, crc]
theorem tailb_len (s : BitVec 32) : (tailb s).length = 4 := rfl

theorem shl_val (c : BitVec 32) : IntKind.u32.wrap ((c.toNat : Int) * 2) = ((c <<< 1).toNat : Int) := by
  rw [IntKind.wrap_u32', BitVec.toNat_shiftLeft, Nat.shiftLeft_eq]
  omega
theorem shl_val' (c : BitVec 32) : (c.toNat : Int) * (2 : Int) % (4294967296 : Int) = ((c <<< 1).toNat : Int) := by
  rw [BitVec.toNat_shiftLeft, Nat.shiftLeft_eq]
  omega
theorem xor_val (a b : BitVec 32) : bits .xor .u32 (a.toNat : Int) (b.toNat : Int) = ((a ^^^ b).toNat : Int) := by
  rw [u32_xor_nat _ _ a.isLt b.isLt, BitVec.toNat_xor]
theorem not_val (a : BitVec 32) : bits .xor .u32 IntKind.u32.max (a.toNat : Int) = ((~~~ a).toNat : Int) := by
  have e : IntKind.u32.max = ((BitVec.allOnes 32).toNat : Int) := by decide
  rw [e, xor_val, BitVec.allOnes_xor]
theorem msb_val (c : BitVec 32) : ((c.toNat : Int) / 2147483648 == 1) = c.msb := by
  have h := c.isLt
  rw [BitVec.msb_eq_decide, Bool.eq_iff_iff]
  simp
  omega
theorem byte_val (b : UInt8) : (b.toNat : Int) % (4294967296 : Int) * (16777216 : Int) % (4294967296 : Int) = ((bw b).toNat : Int) := by
  have := b.toNat_lt
  rw [bw, BitVec.toNat_ofNat, Nat.mod_eq_of_lt (by omega)]
  omega
theorem g_of_msb {c : BitVec 32} (h : c.msb = true) : g c = (c <<< 1) ^^^ poly := by simp [g, h]
theorem g_of_not {c : BitVec 32} (h : c.msb = false) : g c = c <<< 1 := by simp [g, h]
theorem poly_val : (poly.toNat : Int) = 79764919 := rfl
end Go.Proofs.YtdjlflinepefbabGreat.CM

/- Plain facts on the bytes of a page: which pages may be, how their bytes are laid, and that what is laid is read. No condition but those that each theorem names. -/
namespace Go.Proofs.YtdjlflinepefbabGreat.PG
open FM (fb val str str_size fb_length val_fb val_lt fb_val)
open CM (sealed tailb)
set_option linter.unusedVariables false

/-- A page. -/
structure Pg where
  kind : Int
  space : Int
  key : Int
  seq : Int
  body : ByteArray

def Pg.zero : Pg := ⟨0, 0, 0, 0, ⟨#[]⟩⟩
/-- Which pages may be. -/
def May (p : Pg) : Prop := (1 ≤ p.kind ∧ p.kind ≤ 4) ∧ (0 ≤ p.space ∧ p.space ≤ 65535) ∧ (0 ≤ p.key ∧ p.key ≤ 4294967295) ∧ (0 ≤ p.seq ∧ p.seq ≤ 281474976710655) ∧ p.body.size ≤ 100
instance (p : Pg) : Decidable (May p) := by unfold May; infer_instance

def rowb (p : Pg) : List UInt8 := fb p.kind.toNat 1 ++ (fb p.space.toNat 2 ++ (fb p.key.toNat 4 ++ (fb p.seq.toNat 6 ++ fb p.body.size 1)))
def lay (p : Pg) : List UInt8 := [83, 99] ++ (rowb p ++ p.body.data.toList)
def bytes (p : Pg) : List UInt8 := sealed (lay p)
/-- The page that laid bytes say. -/
def dec (l : List UInt8) : Pg := ⟨(val ((l.drop 2).take 1) : Int), (val ((l.drop 3).take 2) : Int), (val ((l.drop 5).take 4) : Int), (val ((l.drop 9).take 6) : Int), str (l.drop 16)⟩
/-- Bytes that are laid. -/
def Form (l : List UInt8) : Prop := l.take 2 = [83, 99] ∧ 16 ≤ l.length ∧ val ((l.drop 15).take 1) = l.length - 16
def Laid (l : List UInt8) : Prop := Form l ∧ May (dec l)

theorem len_size (t : ByteArray) : t.data.toList.length = t.size := Array.length_toList
theorem str_data (s : ByteArray) : str s.data.toList = s := by
  apply ByteArray.ext
  simp [str]
theorem data_str (l : List UInt8) : (str l).data.toList = l := by simp [str]
theorem rowb_len (p : Pg) : (rowb p).length = 14 := by simp [rowb, fb_length]
theorem lay_len (p : Pg) : (lay p).length = 16 + p.body.size := by
  simp only [lay, List.length_append, rowb_len, len_size]
  simp
  omega
theorem bytes_len (p : Pg) : (bytes p).length = 20 + p.body.size := by
  rw [bytes, CM.sealed, List.length_append, lay_len, CM.tailb_len]
  omega
theorem mk_eq (p q : Pg) (h1 : p.kind = q.kind) (h2 : p.space = q.space) (h3 : p.key = q.key) (h4 : p.seq = q.seq) (h5 : p.body = q.body) : p = q := by
  cases p; cases q; simp_all

theorem part (a b c : List UInt8) (n m : Nat) (ha : a.length = n) (hb : b.length = m) : ((a ++ (b ++ c)).drop n).take m = b := by
  rw [← ha, List.drop_left, ← hb, List.take_left]
theorem val_fb_int {x : Int} {w : Nat} (h0 : 0 ≤ x) (h : x.toNat < 256 ^ w) : (val (fb x.toNat w) : Int) = x := by
  rw [val_fb, Nat.mod_eq_of_lt h]
  omega

theorem lay_parts (p : Pg) : (lay p).take 2 = [83, 99] ∧ ((lay p).drop 2).take 1 = fb p.kind.toNat 1 ∧ ((lay p).drop 3).take 2 = fb p.space.toNat 2 ∧ ((lay p).drop 5).take 4 = fb p.key.toNat 4 ∧ ((lay p).drop 9).take 6 = fb p.seq.toNat 6 ∧ ((lay p).drop 15).take 1 = fb p.body.size 1 ∧ (lay p).drop 16 = p.body.data.toList := by
  refine ⟨rfl, ?_, ?_, ?_, ?_, ?_, ?_⟩
  · simp only [lay, rowb, List.append_assoc]
    exact part _ _ _ 2 1 rfl (fb_length _ _)
  · have e : lay p = ([83, 99] ++ fb p.kind.toNat 1) ++ (fb p.space.toNat 2 ++ (fb p.key.toNat 4 ++ (fb p.seq.toNat 6 ++ (fb p.body.size 1 ++ p.body.data.toList)))) := by simp [lay, rowb]
    rw [e]; exact part _ _ _ 3 2 (by simp [fb_length]) (fb_length _ _)
  · have e : lay p = ([83, 99] ++ (fb p.kind.toNat 1 ++ fb p.space.toNat 2)) ++ (fb p.key.toNat 4 ++ (fb p.seq.toNat 6 ++ (fb p.body.size 1 ++ p.body.data.toList))) := by simp [lay, rowb]
    rw [e]; exact part _ _ _ 5 4 (by simp [fb_length]) (fb_length _ _)
  · have e : lay p = ([83, 99] ++ (fb p.kind.toNat 1 ++ (fb p.space.toNat 2 ++ fb p.key.toNat 4))) ++ (fb p.seq.toNat 6 ++ (fb p.body.size 1 ++ p.body.data.toList)) := by simp [lay, rowb]
    rw [e]; exact part _ _ _ 9 6 (by simp [fb_length]) (fb_length _ _)
  · have e : lay p = ([83, 99] ++ (fb p.kind.toNat 1 ++ (fb p.space.toNat 2 ++ (fb p.key.toNat 4 ++ fb p.seq.toNat 6)))) ++ (fb p.body.size 1 ++ p.body.data.toList) := by simp [lay, rowb]
    rw [e]; exact part _ _ _ 15 1 (by simp [fb_length]) (fb_length _ _)
  · have e : lay p = ([83, 99] ++ rowb p) ++ p.body.data.toList := by simp [lay]
    have h : ([83, 99] ++ rowb p).length = 16 := by simp [rowb_len]
    rw [e, ← h, List.drop_left]

theorem dec_lay {p : Pg} (h : May p) : dec (lay p) = p := by
  obtain ⟨_, e1, e2, e3, e4, _, e6⟩ := lay_parts p
  obtain ⟨⟨a1, b1⟩, ⟨a2, b2⟩, ⟨a3, b3⟩, ⟨a4, b4⟩, h5⟩ := h
  apply mk_eq
  · show (val _ : Int) = _
    rw [e1]; exact val_fb_int (by omega) (by omega)
  · show (val _ : Int) = _
    rw [e2]; exact val_fb_int (by omega) (by omega)
  · show (val _ : Int) = _
    rw [e3]; exact val_fb_int (by omega) (by omega)
  · show (val _ : Int) = _
    rw [e4]; exact val_fb_int (by omega) (by omega)
  · show str _ = _
    rw [e6, str_data]
theorem form_lay {p : Pg} (h : May p) : Form (lay p) := by
  obtain ⟨e0, _, _, _, _, e5, _⟩ := lay_parts p
  refine ⟨e0, by rw [lay_len]; omega, ?_⟩
  rw [e5, val_fb, lay_len, Nat.mod_eq_of_lt (by have := h.2.2.2.2; omega)]
  omega
theorem laid_lay {p : Pg} (h : May p) : Laid (lay p) := ⟨form_lay h, by rw [dec_lay h]; exact h⟩

theorem fb_part (l : List UInt8) (a n : Nat) (h : a + n ≤ l.length) : fb (val ((l.drop a).take n)) n = (l.drop a).take n := by
  have e : ((l.drop a).take n).length = n := by rw [List.length_take, List.length_drop]; omega
  have := fb_val ((l.drop a).take n)
  rwa [e] at this
theorem cut_join (l : List UInt8) (a n : Nat) : (l.drop a).take n ++ l.drop (a + n) = l.drop a := by
  rw [← List.drop_drop, List.take_append_drop]
theorem lay_dec {l : List UInt8} (h : Form l) : lay (dec l) = l := by
  obtain ⟨h1, h2, h3⟩ := h
  have e5 : (str (l.drop 16)).size = l.length - 16 := by rw [str_size, List.length_drop]
  unfold lay rowb dec
  simp only [Int.toNat_natCast]
  rw [fb_part l 2 1 (by omega), fb_part l 3 2 (by omega), fb_part l 5 4 (by omega), fb_part l 9 6 (by omega), e5, ← h3, fb_part l 15 1 (by omega), data_str, ← h1]
  simp only [List.append_assoc]
  rw [cut_join l 15 1, cut_join l 9 6, cut_join l 5 4, cut_join l 3 2, cut_join l 2 1, List.take_append_drop]
theorem may_body {l : List UInt8} (h : May (dec l)) : (l.drop 16).length ≤ 100 := by
  have := h.2.2.2.2
  unfold dec at this
  rwa [str_size] at this

theorem lay_inj {p q : Pg} (hp : May p) (hq : May q) (h : lay p = lay q) : p = q := by
  rw [← dec_lay hp, ← dec_lay hq, h]
end Go.Proofs.YtdjlflinepefbabGreat.PG
