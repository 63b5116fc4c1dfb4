/- What scoriaref02 answers, for every text of at most 2^47 bytes and every sum. No other condition. -/
import Derived.Test.YtolcacmkageidaaCheck
import Derived.Test.YtolcacmkageidaaCrcLin
namespace Go.Proofs.Ytolcacmkageidaa
open Go.RowKit
namespace CM
open FM (str str_toList str_size)
set_option linter.unusedVariables false
set_option linter.unusedSimpArgs false

/-- One bit of a text divided. -/
def f (c : BitVec 32) (b : Bool) : BitVec 32 := (c <<< 1) ^^^ (if c.msb != b then poly else 0#32)
def bitOf (x j : Nat) : Bool := decide (x / 2 ^ j % 2 = 1)
/-- The j lowest bits of a byte divided, the highest first. -/
def dbits (x : Nat) : Nat → BitVec 32 → BitVec 32
  | 0, c => c
  | j + 1, c => dbits x j (f c (bitOf x j))

theorem f_eq (c : BitVec 32) (b : Bool) : f c b = g c ^^^ (if b then poly else 0#32) := by
  have hpp : c <<< 1 = c <<< 1 ^^^ poly ^^^ poly := by rw [BitVec.xor_assoc, BitVec.xor_self, BitVec.xor_zero]
  unfold f g
  cases c.msb <;> cases b <;> simp [← hpp]

theorem dbits_gn (x : Nat) (j : Nat) (hj : j ≤ 8) (c : BitVec 32) : dbits x j c = gn j (c ^^^ BitVec.ofNat 32 (x % 2 ^ j * 2 ^ (32 - j))) := by
  induction j generalizing c with
  | zero => simp [dbits, gn, Nat.mod_one]
  | succ j ih =>
    rw [dbits, ih (by omega), gn, f_eq]
    congr 1
    have hp : (2 : Nat) ^ (32 - j) = 2 * 2 ^ (31 - j) := by rw [← Nat.pow_succ']; congr 1; omega
    have hp2 : (2 : Nat) ^ j * 2 ^ (31 - j) = 2147483648 := by rw [← Nat.pow_add, show j + (31 - j) = 31 by omega]
    have hs : 32 - (j + 1) = 31 - j := by omega
    have hm : x % 2 ^ (j + 1) = x % 2 ^ j + 2 ^ j * (x / 2 ^ j % 2) := by rw [Nat.pow_succ, Nat.mod_mul]
    have hlt : x % 2 ^ j < 2 ^ j := Nat.mod_lt _ (Nat.two_pow_pos j)
    have hlt2 : x % 2 ^ j * 2 ^ (31 - j) < 2147483648 := by rw [← hp2]; exact Nat.mul_lt_mul_of_pos_right hlt (Nat.two_pow_pos _)
    rw [hs, hm, Nat.add_mul, Nat.mul_right_comm, hp2, hp, g_xor, show x % 2 ^ j * (2 * 2 ^ (31 - j)) = x % 2 ^ j * 2 ^ (31 - j) * 2 by rw [Nat.mul_comm 2, Nat.mul_assoc]]
    generalize x % 2 ^ j * 2 ^ (31 - j) = y at hlt2
    have key : g (BitVec.ofNat 32 (y + 2147483648 * (x / 2 ^ j % 2))) = (if bitOf x j then poly else 0#32) ^^^ BitVec.ofNat 32 (y * 2) := by
      have h2 : x / 2 ^ j % 2 = 0 ∨ x / 2 ^ j % 2 = 1 := by omega
      unfold bitOf
      rcases h2 with h2 | h2
      · rw [h2]
        have hmsb : (BitVec.ofNat 32 (y + 2147483648 * 0)).msb = false := by
          rw [BitVec.msb_eq_decide, BitVec.toNat_ofNat, decide_eq_false_iff_not]; omega
        rw [g_of_not hmsb]
        simp only [Nat.mul_zero, Nat.add_zero, show decide ((0 : Nat) = 1) = false from rfl, Bool.false_eq_true, if_false, BitVec.zero_xor]
        apply BitVec.eq_of_toNat_eq
        rw [BitVec.toNat_shiftLeft, Nat.shiftLeft_eq, BitVec.toNat_ofNat, BitVec.toNat_ofNat]
        omega
      · rw [h2]
        have hmsb : (BitVec.ofNat 32 (y + 2147483648 * 1)).msb = true := by
          rw [BitVec.msb_eq_decide, BitVec.toNat_ofNat, decide_eq_true_iff]; omega
        rw [g_of_msb hmsb]
        simp only [decide_true, if_true]
        have hs2 : (BitVec.ofNat 32 (y + 2147483648 * 1)) <<< 1 = BitVec.ofNat 32 (y * 2) := by
          apply BitVec.eq_of_toNat_eq
          rw [BitVec.toNat_shiftLeft, Nat.shiftLeft_eq, BitVec.toNat_ofNat, BitVec.toNat_ofNat]
          omega
        rw [hs2, BitVec.xor_comm]
    rw [key]
    ac_rfl
theorem dbits_upd (x : UInt8) (c : BitVec 32) : dbits x.toNat 8 c = upd c x := by
  have h := x.toNat_lt
  have e8 : x.toNat % 2 ^ 8 * 2 ^ (32 - 8) = x.toNat * 16777216 := by
    simp only [Nat.reducePow, Nat.reduceSub]
    omega
  have e9 := dbits_gn x.toNat 8 (by omega) c
  rw [e8] at e9
  exact e9
theorem test_val (c : BitVec 32) (x : UInt8) (q : Nat) : ((c.toNat : Int) / 2147483648 != bits .and .u32 ((x.toNat : Int) / 2 ^ q % (4294967296 : Int)) 1) = (c.msb != bitOf x.toNat q) := by
  have hx := x.toNat_lt
  have hd : x.toNat / 2 ^ q ≤ x.toNat := Nat.div_le_self _ _
  have e1 : ((x.toNat : Int) / 2 ^ q % (4294967296 : Int)) = ((x.toNat / 2 ^ q : Nat) : Int) := by
    have : ((x.toNat : Int) / 2 ^ q) = ((x.toNat / 2 ^ q : Nat) : Int) := by simp
    rw [this]
    clear this
    generalize x.toNat / 2 ^ q = y at hd ⊢
    omega
  have e2 := u32_and_nat (x.toNat / 2 ^ q) 1 (by omega) (by omega)
  rw [e1, show (1 : Int) = ((1 : Nat) : Int) from rfl, e2, Nat.and_one_is_mod]
  have hc := c.isLt
  have hm : c.msb = decide (c.toNat / 2147483648 = 1) := by
    rw [BitVec.msb_eq_decide, Bool.eq_iff_iff, decide_eq_true_iff, decide_eq_true_iff]
    omega
  rw [hm]
  unfold bitOf
  have hb : x.toNat / 2 ^ q % 2 < 2 := Nat.mod_lt _ (by decide)
  generalize x.toNat / 2 ^ q % 2 = b at hb
  have hcm : (c.toNat : Int) / 2147483648 = ((c.toNat / 2147483648 : Nat) : Int) := by omega
  rw [hcm]
  have ha : c.toNat / 2147483648 < 2 := by omega
  generalize c.toNat / 2147483648 = a at ha
  rcases (by omega : a = 0 ∨ a = 1) with rfl | rfl <;> rcases (by omega : b = 0 ∨ b = 1) with rfl | rfl <;> rfl

set_option maxHeartbeats 800000 in
theorem divided_any (c : BitVec 32) (t : ByteArray) (ht : t.size ≤ 140737488355328) (w : World) : Calls Try.prog 49 #[.int .u32 (c.toNat : Int), .string t] w fun e w' => e = .returned (.int .u32 ((crc c t.data.toList).toNat : Int)) ∧ w = w' := by
  go_enter Try.func49, Try.ntmps49
  go_wp2
  go_loop [0, 5] (fun v i => ∃ (k : Nat) (d : BitVec 32), k ≤ t.size ∧ i = .int .i64 k ∧ v = .int .u32 (d.toNat : Int) ∧ Hid (d = crc c (t.data.toList.take k))) (fun _ i => t.size - (intOf i).toNat)
  case atStart => exact ⟨0, c, Nat.zero_le _, rfl, rfl, (rfl : c = crc c (t.data.toList.take 0))⟩
  case round =>
    obtain ⟨k, d, hk, rfl, rfl, hd⟩ := hrel
    by_cases hlt : k < t.size
    · go_wp2
      go_loop [0, 6] (fun v i => ∃ (j : Nat) (r : BitVec 32), j ≤ 8 ∧ ((j = 0 ∧ i = .int .i64 (-1)) ∨ ∃ q : Nat, j = q + 1 ∧ i = .int .i64 (q : Int)) ∧ v = .int .u32 (r.toNat : Int) ∧ Hid (dbits (t[k]).toNat j r = dbits (t[k]).toNat 8 d)) (fun _ i => (intOf i + 1).toNat)
      case atStart => exact ⟨8, d, by omega, .inr ⟨7, rfl, rfl⟩, rfl, rfl⟩
      case round =>
        obtain ⟨j, r, hj, hi, rfl, hr⟩ := hrel
        rcases hi with ⟨rfl, rfl⟩ | ⟨q, rfl, rfl⟩
        · have hnew : Hid (r = crc c (t.data.toList.take (k + 1))) := by
            have h := hr.out
            rw [dbits_upd] at h
            rw [List.take_succ_eq_append_getElem (by simpa using hlt), crc_snoc, ← hd.out]
            exact h
          go_wp2
          go_round
          case rel => exact ⟨k + 1, r, by omega, by go_num, rfl, hnew⟩
          case measure => simp [intOf]; omega
        · have hz : (q = 0 ∧ Value.int IntKind.i64 ((q : Int) - 1) = Value.int IntKind.i64 (-1)) ∨ ∃ q' : Nat, q = q' + 1 ∧ Value.int IntKind.i64 ((q : Int) - 1) = Value.int IntKind.i64 (q' : Int) := by
            by_cases h0 : q = 0
            · exact .inl ⟨h0, by subst h0; rfl⟩
            · exact .inr ⟨q - 1, by omega, by congr 1; omega⟩
          have HZ := Lib.hid hz
          have HT := Lib.hid (test_val r t[k] q)
          have HF : Hid (f r (bitOf (t[k]).toNat q) = (r <<< 1) ^^^ (if r.msb != bitOf (t[k]).toNat q then poly else 0#32)) := rfl
          clear hz
          go_wp2
          · rename_i hti
            rw [HT.out] at hti
            have h2 := HF.out
            rw [hti, if_pos rfl] at h2
            go_round
            case rel => exact ⟨q, f r (bitOf (t[k]).toNat q), by omega, HZ.out, by rw [shl_val', ← poly_val, xor_val, h2], hr.out⟩
            case measure => simp [intOf]
          · rename_i hti
            rw [HT.out] at hti
            have h2 := HF.out
            rw [hti] at h2
            simp only [Bool.false_eq_true, if_false, BitVec.xor_zero] at h2
            go_round
            case rel => exact ⟨q, f r (bitOf (t[k]).toNat q), by omega, HZ.out, by rw [shl_val', h2], hr.out⟩
            case measure => simp [intOf]
    · go_wp2
      go_ret
      refine ⟨ret_u32 ?_, rfl⟩
      rw [hd.out, List.take_of_length_le (by simp; omega)]

theorem rsum_any (t : ByteArray) (ht : t.size ≤ 140737488355328) (w : World) : Calls Try.prog 38 #[.string t] w fun e w' => e = .returned (.int .u32 ((sum t.data.toList).toNat : Int)) ∧ w = w' := by
  have H : Hid (∀ w, Calls Try.prog 49 #[.int .u32 4294967295, .string t] w fun e w' => e = .returned (.int .u32 ((crc (~~~ 0#32) t.data.toList).toNat : Int)) ∧ w = w') := divided_any (~~~ 0#32) t ht
  obtain ⟨d, hd⟩ : ∃ d, d = crc (~~~ 0#32) t.data.toList := ⟨_, rfl⟩
  rw [← hd] at H
  have hx : bits .xor .u32 (d.toNat : Int) 4294967295 = ((sum t.data.toList).toNat : Int) := by
    have h1 : ((BitVec.allOnes 32).toNat : Int) = 4294967295 := rfl
    rw [← h1, xor_val, hd, BitVec.xor_comm, BitVec.allOnes_xor]; rfl
  obtain ⟨q, hq⟩ : ∃ q, q = sum t.data.toList := ⟨_, rfl⟩
  rw [← hq] at hx ⊢
  clear hd hq
  go_enter Try.func38, Try.ntmps38
  go_wp2_with fail
  refine (H.out _).mono ?_
  rintro e w1 ⟨rfl, rfl⟩
  go_wp2
  go_ret
  exact ⟨rfl, rfl⟩
set_option maxHeartbeats 400000 in
theorem rseal_any (t : ByteArray) (ht : t.size ≤ 140737488355328) (w : World) : Calls Try.prog 23 #[.string t] w fun e w' => e = .returned (.string (str (sealed t.data.toList))) ∧ Below w.heap.size w w' := by
  obtain ⟨n, hn⟩ : ∃ n, n = (sum t.data.toList).toNat := ⟨_, rfl⟩
  have hlt : n < 4294967296 := by rw [hn]; exact (sum t.data.toList).isLt
  have HS : Hid (∀ w, Calls Try.prog 38 #[.string t] w fun e w' => e = .returned (.int .u32 (n : Int)) ∧ w = w') := by rw [hn]; exact rsum_any t ht
  have hz : (str (tailb (sum t.data.toList))).size ≤ 4 := by rw [str_size, tailb_len]; exact Nat.le_refl _
  have he : t ++ str (tailb (sum t.data.toList)) = str (sealed t.data.toList) := str_append t _
  have ht2 : tailb (sum t.data.toList) = [UInt8.ofNat (n / 16777216 % 256), UInt8.ofNat (n / 65536 % 256), UInt8.ofNat (n / 256 % 256), UInt8.ofNat (n % 256)] := by rw [hn]; rfl
  have hk := conv_four w n hlt
  rw [← ht2] at hk
  obtain ⟨u, hu⟩ : ∃ u, u = str (tailb (sum t.data.toList)) := ⟨_, rfl⟩
  rw [← hu] at hz he hk
  have HE := Lib.hid he
  clear hu he ht2 hn
  go_enter Try.func23, Try.ntmps23
  go_wp2_with fail
  refine (HS.out _).mono ?_
  rintro e w1 ⟨rfl, rfl⟩
  go_wp2
  go_ret
  exact ⟨by rw [← HE.out]; rfl, by go_grown⟩

set_option maxHeartbeats 400000 in
theorem ropen_short (t : ByteArray) (ht : t.size < 4) (w : World) : Calls Try.prog 27 #[.string t] w fun e w' => e = .returned (.tuple #[.string ⟨#[]⟩, .int .i64 5]) ∧ w = w' := by
  go_enter Try.func27, Try.ntmps27
  go_wp2
  go_ret2
  exact ⟨rfl, rfl⟩

theorem take_body (t : ByteArray) : t.data.toList.take (t.size - 4) = body t.data.toList := by rw [body, len_size]

set_option maxHeartbeats 800000 in
theorem ropen_ok (t : ByteArray) (ht : t.size ≤ 140737488355328) (h4 : 4 ≤ t.size) (h : sealOk t.data.toList) (w : World) :
    Calls Try.prog 27 #[.string t] w fun e w' => e = .returned (.tuple #[.string (str (body t.data.toList)), .int .i64 0]) ∧ Below w.heap.size w w' := by
  have s1 := run_to t h4
  rw [take_body] at s1
  obtain ⟨B, hB⟩ : ∃ B, B = str (body t.data.toList) := ⟨_, rfl⟩
  have hs := rseal_any B (by rw [hB, str_size, body, List.length_take, len_size]; omega)
  have e1 : sealed B.data.toList = t.data.toList := by rw [hB]; exact sealed_body h
  rw [e1, str_data] at hs
  rw [← hB] at s1 ⊢
  have HS := Lib.hid hs
  clear hs e1 hB h
  go_enter Try.func27, Try.ntmps27
  go_wp2_with fail
  refine (HS.out _).mono ?_
  rintro e w1 ⟨rfl, hb1⟩
  go_wp2
  go_ret2
  exact ⟨rfl, hb1⟩

set_option maxHeartbeats 800000 in
theorem ropen_bad (t : ByteArray) (ht : t.size ≤ 140737488355328) (h4 : 4 ≤ t.size) (h : ¬ sealOk t.data.toList) (w : World) :
    Calls Try.prog 27 #[.string t] w fun e w' => e = .returned (.tuple #[.string ⟨#[]⟩, .int .i64 6]) ∧ Below w.heap.size w w' := by
  have s1 := run_to t h4
  rw [take_body] at s1
  obtain ⟨B, hB⟩ : ∃ B, B = str (body t.data.toList) := ⟨_, rfl⟩
  have hs := rseal_any B (by rw [hB, str_size, body, List.length_take, len_size]; omega)
  obtain ⟨T, hT⟩ : ∃ T, T = str (sealed B.data.toList) := ⟨_, rfl⟩
  have hne : (T.toList == t.toList) = false := by
    rw [beq_eq_false_iff_ne, ByteArray.toList_eq, ByteArray.toList_eq, hT]
    intro hc
    apply h
    have hc2 : sealed (body t.data.toList) = t.data.toList := by rw [hB] at hc; exact hc
    rw [← hc2]
    exact sealed_ok _
  rw [← hT] at hs
  rw [← hB] at s1
  have HS := Lib.hid hs
  clear hs hB h hT
  go_enter Try.func27, Try.ntmps27
  go_wp2_with fail
  refine (HS.out _).mono ?_
  rintro e w1 ⟨rfl, hb1⟩
  go_wp2
  go_ret2
  exact ⟨rfl, hb1⟩
end CM
end Go.Proofs.Ytolcacmkageidaa
