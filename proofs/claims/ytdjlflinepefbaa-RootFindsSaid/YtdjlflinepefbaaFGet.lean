/- What scoria/field.Get and the functions that it calls answer, for every text, place and width. No condition. -/
import Derived.Test.YtdjlflinepefbaaFPut
namespace Go.Proofs.Ytdjlflinepefbaa
open Go.RowKit
namespace FM
set_option linter.unusedVariables false
set_option linter.unusedSimpArgs false

theorem ret_u64 {a b : Int} (h : a = b) : Ending.returned (.int .u64 a) = .returned (.int .u64 b) := by rw [h]
theorem val_one (b : UInt8) : val [b] = b.toNat := by simp [val]
theorem or_step (l : List UInt8) (k : Nat) (b : UInt8) (hl : l.length = k) (hk : k < 8) :
    bits .or .u64 (val l : Int) (IntKind.u64.wrap (IntKind.u64.wrap (b.toNat : Int) * 2 ^ (8 * k))) = (val (l ++ [b]) : Int) := by
  have hb := b.toNat_lt
  have hv := val_lt l
  have hv2 := val_lt (l ++ [b])
  have hlen : (l ++ [b]).length = k + 1 := by simp [hl]
  have he : val (l ++ [b]) = val l + 256 ^ k * b.toNat := by rw [val_append, hl, val_one]
  have h8 : (256 : Nat) ^ (k + 1) ≤ 256 ^ 8 := Nat.pow_le_pow_right (by decide) (by omega)
  have hp : (2 : Nat) ^ (8 * k) = 256 ^ k := by rw [Nat.pow_mul]
  have e1 : IntKind.u64.wrap (b.toNat : Int) = (b.toNat : Int) := IntWalk.u64_in _ ⟨by omega, by omega⟩
  have e2 : ((b.toNat : Int) * 2 ^ (8 * k)) = ((256 ^ k * b.toNat : Nat) : Int) := by
    rw [← hp, Int.natCast_mul, Int.mul_comm]; simp
  rw [hlen] at hv2
  rw [e1, e2, IntWalk.u64_in _ ⟨by omega, by omega⟩, he]
  rw [u64_or_nat _ _ (by omega) (by omega)]
  congr 1
  rw [Nat.or_comm, Nat.add_comm, ← hp]
  exact (Nat.two_pow_add_eq_or_of_lt (by rw [hp, ← hl]; exact hv) _).symm
theorem take_snoc (s : ByteArray) (k : Nat) (h : k < s.size) : s.data.toList.take (k + 1) = s.data.toList.take k ++ [s[k]] := by
  rw [List.take_succ_eq_append_getElem (by simpa using h)]; rfl
theorem take_all (s : ByteArray) (k : Nat) (h : s.size ≤ k) : s.data.toList.take k = s.data.toList := List.take_of_length_le (by simpa using h)
theorem take_len (s : ByteArray) (k : Nat) (h : k ≤ s.size) : (s.data.toList.take k).length = k := by
  rw [List.length_take]; simp only [Array.length_toList]; exact Nat.min_eq_left h

set_option maxHeartbeats 400000 in
theorem number_any (s : ByteArray) (w : World) (hs : s.size ≤ 8) :
    Calls Try.prog 57 #[.string s] w fun e w' => e = .returned (.int .u64 (val s.data.toList : Int)) ∧ w = w' := by
  go_enter Try.func57, Try.ntmps57
  go_wp2
  go_loop [3, 7] (fun n i => ∃ k : Nat, k ≤ s.size ∧ i = .int .i64 k ∧ n = .int .u64 (val (s.data.toList.take k) : Int)) (fun _ i => s.size - (intOf i).toNat)
  case atStart => exact ⟨0, Nat.zero_le _, rfl, rfl⟩
  case round =>
    obtain ⟨k, hk, rfl, rfl⟩ := hrel
    by_cases hlt : k < s.size
    · go_wp2
      go_round
      case rel => exact ⟨k + 1, by omega, by go_num, by rw [or_step _ k _ (take_len s k hk) (by omega), ← take_snoc s k hlt]⟩
      case measure => simp [intOf]; omega
    · go_wp2
      go_ret
      exact ⟨ret_u64 (by rw [take_all s k (by omega)]), rfl⟩

theorem cut_list (s : ByteArray) (a b : Nat) : (s.extract a (a + b)).data.toList = (s.data.toList.drop a).take b := by
  simp [ByteArray.data_extract, Array.toList_extract, List.extract_eq_take_drop]

/-- 's[a:a+b]' of a string. -/
theorem run_cut (s : ByteArray) (a b : Nat) (h : a + b ≤ s.size) (w : World) :
    (Instr.slice 9 (.string s) (some (.int .i64 (a : Int))) (some (.int .i64 ((a : Int) + (b : Int)))) none).run Try.prog w = .ok (.string (s.extract a (a + b))) w := by
  rw [run_slice_string w 9 s .i64 .i64 (a : Int) ((a : Int) + (b : Int)) Try.underlying9 (by omega) (by omega) (by omega)]
  have e : ((a : Int) + (b : Int)).toNat = a + b := by omega
  rw [e, Int.toNat_natCast]

set_option maxHeartbeats 400000 in
theorem get_arg (s : ByteArray) (at_ wide : Int) (h : (wide < 1 ∨ 8 < wide) ∨ at_ < 0) (w : World) :
    Calls Try.prog 48 #[.string s, .int .i64 at_, .int .i64 wide] w fun e w' => e = .returned (.tuple #[.int .u64 0, .int .i64 1]) ∧ w = w' := by
  by_cases hw : wide < 1 ∨ 8 < wide
  · have H := Lib.hid hw
    clear h hw
    go_enter Try.func48, Try.ntmps48
    go_wp2_with (go_at_call 44; refine (noWidth_yes wide H.out w).mono ?_; rintro e w' ⟨rfl, rfl⟩)
    go_ret2
    exact ⟨rfl, rfl⟩
  · have h1 : 1 ≤ wide := by omega
    have h8 : wide ≤ 8 := by omega
    have hl : at_ < 0 := by omega
    clear h hw
    go_enter Try.func48, Try.ntmps48
    go_wp2_with (go_at_call 44; refine (noWidth_no wide h1 h8 w).mono ?_; rintro e w' ⟨rfl, rfl⟩)
    go_ret2
    exact ⟨rfl, rfl⟩
set_option maxHeartbeats 400000 in
theorem get_short (s : ByteArray) (hs : s.size ≤ 9223372036854775807) (at_ wide : Int) (h1 : 1 ≤ wide) (h8 : wide ≤ 8) (h0 : 0 ≤ at_) (h : (s.size : Int) - wide < at_) (w : World) :
    Calls Try.prog 48 #[.string s, .int .i64 at_, .int .i64 wide] w fun e w' => e = .returned (.tuple #[.int .u64 0, .int .i64 5]) ∧ w = w' := by
  go_enter Try.func48, Try.ntmps48
  go_wp2_with (go_at_call 44; refine (noWidth_no wide h1 h8 w).mono ?_; rintro e w' ⟨rfl, rfl⟩)
  go_ret2
  exact ⟨rfl, rfl⟩
set_option maxHeartbeats 400000 in
theorem get_ok (s : ByteArray) (hs : s.size ≤ 9223372036854775807) (a wd : Nat) (h1 : 1 ≤ wd) (h8 : wd ≤ 8) (h : a + wd ≤ s.size) (w : World) :
    Calls Try.prog 48 #[.string s, .int .i64 (a : Int), .int .i64 (wd : Int)] w fun e w' => e = .returned (.tuple #[.int .u64 (val ((s.data.toList.drop a).take wd) : Int), .int .i64 0]) ∧ w = w' := by
  have hsz : (s.extract a (a + wd)).size ≤ 8 := by simp [ByteArray.size_extract]; omega
  have hsl := run_cut s a wd h
  have HS := Lib.hid hsz
  clear hsz
  go_enter Try.func48, Try.ntmps48
  go_wp2_with (first | (go_at_call 44; refine (noWidth_no (wd : Int) (by omega) (by omega) w).mono ?_; rintro e w' ⟨rfl, rfl⟩) | (go_at_call 57; refine (number_any _ w HS.out).mono ?_; rintro e w' ⟨rfl, rfl⟩))
  go_ret2
  exact ⟨rfl, rfl⟩
end FM
end Go.Proofs.Ytdjlflinepefbaa
