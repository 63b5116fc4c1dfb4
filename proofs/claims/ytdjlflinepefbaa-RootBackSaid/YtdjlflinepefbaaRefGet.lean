/- What scoriaref01.Get answers, for every text, place and width. No condition. -/
import Derived.Test.YtdjlflinepefbaaFGet
namespace Go.Proofs.Ytdjlflinepefbaa
open Go.RowKit
namespace FM
set_option linter.unusedVariables false
set_option linter.unusedSimpArgs false

set_option maxHeartbeats 400000 in
theorem rget_arg (s : ByteArray) (at_ wide : Int) (h : (wide < 1 ∨ 8 < wide) ∨ at_ < 0) (w : World) :
    Calls Try.prog 49 #[.string s, .int .i64 at_, .int .i64 wide] w fun e w' => e = .returned (.tuple #[.int .u64 0, .int .i64 1]) ∧ w = w' := by
  by_cases h1 : wide < 1
  · clear h
    go_enter Try.func49, Try.ntmps49
    go_wp2
    go_ret2
    exact ⟨rfl, rfl⟩
  · by_cases h8 : 8 < wide
    · clear h
      go_enter Try.func49, Try.ntmps49
      go_wp2
      go_ret2
      exact ⟨rfl, rfl⟩
    · have h0 : at_ < 0 := by omega
      clear h
      go_enter Try.func49, Try.ntmps49
      go_wp2
      go_ret2
      exact ⟨rfl, rfl⟩
set_option maxHeartbeats 400000 in
theorem rget_short (s : ByteArray) (hs : s.size ≤ 9223372036854775807) (at_ wide : Int) (h1 : 1 ≤ wide) (h8 : wide ≤ 8) (h0 : 0 ≤ at_) (h : (s.size : Int) - wide < at_) (w : World) :
    Calls Try.prog 49 #[.string s, .int .i64 at_, .int .i64 wide] w fun e w' => e = .returned (.tuple #[.int .u64 0, .int .i64 5]) ∧ w = w' := by
  have a1 : ¬ wide < 1 := by omega
  have a8 : ¬ 8 < wide := by omega
  have a0 : ¬ at_ < 0 := by omega
  by_cases hl : (s.size : Int) < at_
  · go_enter Try.func49, Try.ntmps49
    go_wp2
    go_ret2
    exact ⟨rfl, rfl⟩
  · have hk : (s.size : Int) - at_ < wide := by omega
    go_enter Try.func49, Try.ntmps49
    go_wp2
    go_ret2
    exact ⟨rfl, rfl⟩

theorem mul_step (l : List UInt8) (k p : Nat) (b : UInt8) (hl : l.length = k) (hk : k < 8) (hp : p = 256 ^ k % 18446744073709551616) :
    IntKind.u64.wrap ((val l : Int) + IntKind.u64.wrap ((p : Int) * IntKind.u64.wrap (b.toNat : Int))) = (val (l ++ [b]) : Int) := by
  have hb := b.toNat_lt
  have hv2 := val_lt (l ++ [b])
  have hlen : (l ++ [b]).length = k + 1 := by simp [hl]
  have he : val (l ++ [b]) = val l + 256 ^ k * b.toNat := by rw [val_append, hl, val_one]
  have h8 : (256 : Nat) ^ (k + 1) ≤ 256 ^ 8 := Nat.pow_le_pow_right (by decide) (by omega)
  have h7 : (256 : Nat) ^ k ≤ 256 ^ 7 := Nat.pow_le_pow_right (by decide) (by omega)
  have hpk : p = 256 ^ k := by rw [hp]; exact Nat.mod_eq_of_lt (by omega)
  have e1 : IntKind.u64.wrap (b.toNat : Int) = (b.toNat : Int) := IntWalk.u64_in _ ⟨by omega, by omega⟩
  have e2 : ((p : Int) * (b.toNat : Int)) = ((256 ^ k * b.toNat : Nat) : Int) := by rw [hpk, Int.natCast_mul]
  rw [hlen] at hv2
  rw [he] at hv2
  have e3 : IntKind.u64.wrap ((256 ^ k * b.toNat : Nat) : Int) = ((256 ^ k * b.toNat : Nat) : Int) := IntWalk.u64_in _ ⟨by omega, by omega⟩
  have e4 : IntKind.u64.wrap ((val l : Int) + ((256 ^ k * b.toNat : Nat) : Int)) = (val l : Int) + ((256 ^ k * b.toNat : Nat) : Int) := IntWalk.u64_in _ ⟨by omega, by omega⟩
  rw [e1, e2, e3, e4, he]
  omega
theorem by_step (k p : Nat) (hp : p = 256 ^ k % 18446744073709551616) : IntKind.u64.wrap ((p : Int) * 256) = ((p * 256 % 18446744073709551616 : Nat) : Int) ∧ p * 256 % 18446744073709551616 = 256 ^ (k + 1) % 18446744073709551616 := by
  constructor
  · rw [IntKind.wrap_u64]; omega
  · rw [hp, Nat.pow_succ, Nat.mod_mul_mod]
theorem take_drop_snoc (s : ByteArray) (a k : Nat) (h : a + k < s.size) : (s.data.toList.drop a).take (k + 1) = (s.data.toList.drop a).take k ++ [s[a + k]] := by
  have hl : k < (s.data.toList.drop a).length := by
    rw [List.length_drop]; simp only [Array.length_toList]; exact Nat.lt_sub_of_add_lt (by omega : k + a < s.size)
  rw [List.take_succ_eq_append_getElem hl, List.getElem_drop]; rfl
theorem take_drop_len (s : ByteArray) (a k : Nat) (h : a + k ≤ s.size) : ((s.data.toList.drop a).take k).length = k := by
  rw [List.length_take, List.length_drop]; simp only [Array.length_toList]; exact Nat.min_eq_left (Nat.le_sub_of_add_le (by omega : k + a ≤ s.size))

set_option maxHeartbeats 400000 in
theorem rget_ok (s : ByteArray) (hs : s.size ≤ 9223372036854775807) (a wd : Nat) (h1 : 1 ≤ wd) (h8 : wd ≤ 8) (h : a + wd ≤ s.size) (w : World) :
    Calls Try.prog 49 #[.string s, .int .i64 (a : Int), .int .i64 (wd : Int)] w fun e w' => e = .returned (.tuple #[.int .u64 (val ((s.data.toList.drop a).take wd) : Int), .int .i64 0]) ∧ w = w' := by
  have a1 : ¬ (wd : Int) < 1 := by omega
  have a8 : ¬ 8 < (wd : Int) := by omega
  have a0 : ¬ (a : Int) < 0 := by omega
  have al : ¬ (s.size : Int) < (a : Int) := by omega
  have ak : ¬ (s.size : Int) - (a : Int) < (wd : Int) := by omega
  go_enter Try.func49, Try.ntmps49
  go_wp2
  go_loop [8, 9, 10] (fun m b i => ∃ k p : Nat, k ≤ wd ∧ i = .int .i64 k ∧ b = .int .u64 (p : Int) ∧ Hid (p = 256 ^ k % 18446744073709551616) ∧ p < 18446744073709551616 ∧ m = .int .u64 (val ((s.data.toList.drop a).take k) : Int)) (fun _ _ i => wd - (intOf i).toNat)
  case atStart => exact ⟨0, 1, Nat.zero_le _, rfl, rfl, (by simp : 1 = 256 ^ 0 % 18446744073709551616), by omega, rfl⟩
  case round =>
    obtain ⟨k, p, hk, rfl, rfl, hp, hpb, rfl⟩ := hrel
    by_cases hlt : k < wd
    · have hin : a + k < s.size := by omega
      go_wp2
      obtain ⟨hb1, hb2⟩ := by_step k p hp.out
      go_round
      case rel => exact ⟨k + 1, p * 256 % 18446744073709551616, by omega, by go_num, by rw [hb1], hb2, Nat.mod_lt _ (by decide), by rw [mul_step _ k p _ (take_drop_len s a k (by omega)) (by omega) hp.out, ← take_drop_snoc s a k hin]⟩
      case measure => simp [intOf]; omega
    · obtain rfl : k = wd := by omega
      go_wp2
      go_ret2
      exact ⟨rfl, rfl⟩
end FM
end Go.Proofs.Ytdjlflinepefbaa
