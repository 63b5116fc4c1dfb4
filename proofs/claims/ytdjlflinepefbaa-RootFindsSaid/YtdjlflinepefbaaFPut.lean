/- What scoria/field.Put and the functions that it calls answer, for every number of 64 bits and every width. No condition. -/
import Derived.Test.YtdjlflinepefbaaProg
import Derived.Test.YtdjlflinepefbaaMath
import Derived.WalkKit
import Derived.Handy
import Derived.Laws.BytesArg
import Derived.Lib.Hide
namespace Go.Proofs.Ytdjlflinepefbaa
open Go.RowKit
namespace FM
set_option linter.unusedVariables false
set_option linter.unusedSimpArgs false

theorem ret_bool {a b : Bool} (h : a = b) : Ending.returned (.bool a) = .returned (.bool b) := by rw [h]

theorem noWidth_any (wide : Int) (w : World) : Calls Try.prog 44 #[.int .i64 wide] w fun e w' => e = .returned (.bool (decide (wide < 1) || decide (8 < wide))) ∧ w = w' := by
  go_enter Try.func44, Try.ntmps44
  go_wp2
  all_goals go_ret
  · exact ⟨rfl, rfl⟩
  · rename_i h
    have h' : wide < 1 := by omega
    exact ⟨by simp [h'], rfl⟩

/-- A row of bytes in a new block, as a string. -/
theorem conv_row (w : World) (xs : List Int) (ys : List Value) (c : Nat) :
    (convert 61 9 (.slice (some ⟨w.heap.size, 0, none⟩) xs.length c)).run Try.prog (w.alloc (.cells (xs.map (Value.int .u8) ++ ys).toArray 114)) = .ok (.string (strOfNums xs)) (w.alloc (.cells (xs.map (Value.int .u8) ++ ys).toArray 114)) := by
  refine run_convert_bytes_arg _ 61 5 Try.underlying61 Try.underlying5 w.heap.size 0 xs.length c xs rfl ?_ 9 Try.underlying9
  intro i hi
  simp only [Nat.zero_add]
  rw [World.cell?_alloc_new]
  simp [List.getElem?_append_left, hi]

theorem strOfNums_str (l : List Nat) : strOfNums (l.map fun x : Nat => (x : Int)) = str (l.map fun x : Nat => UInt8.ofNat x) := by
  simp [strOfNums, str]

set_option maxHeartbeats 400000 in
theorem lay_1 (n : Nat) (hn : n < 18446744073709551616) (w : World) : Calls Try.prog 54 #[.int .u64 (n : Int), .int .i64 1] w fun e w' => e = .returned (.string (str (fb n 1))) ∧ Below w.heap.size w w' := by
  have hk := conv_row w [(n : Int) % 256] [.int .u8 0, .int .u8 0, .int .u8 0, .int .u8 0, .int .u8 0, .int .u8 0, .int .u8 0] 8
  have hs : strOfNums [(n : Int) % 256] = str (fb n 1) := by
    have h := strOfNums_str [n % 256]
    simp only [fb, Nat.div_div_eq_div_mul]
    simpa using h
  rw [hs] at hk
  clear hs
  simp only [List.map_cons, List.map_nil, List.cons_append, List.nil_append, List.length_cons, List.length_nil, Nat.zero_add, Nat.reduceAdd] at hk
  go_enter Try.func54, Try.ntmps54
  go_wp2
  go_ret
  exact ⟨rfl, by go_grown⟩

set_option maxHeartbeats 400000 in
theorem lay_2 (n : Nat) (hn : n < 18446744073709551616) (w : World) : Calls Try.prog 54 #[.int .u64 (n : Int), .int .i64 2] w fun e w' => e = .returned (.string (str (fb n 2))) ∧ Below w.heap.size w w' := by
  have hk := conv_row w [(n : Int) % 256, (n : Int) / 256 % 256] [.int .u8 0, .int .u8 0, .int .u8 0, .int .u8 0, .int .u8 0, .int .u8 0] 8
  have hs : strOfNums [(n : Int) % 256, (n : Int) / 256 % 256] = str (fb n 2) := by
    have h := strOfNums_str [n % 256, n / 256 % 256]
    simp only [fb, Nat.div_div_eq_div_mul]
    simpa using h
  rw [hs] at hk
  clear hs
  simp only [List.map_cons, List.map_nil, List.cons_append, List.nil_append, List.length_cons, List.length_nil, Nat.zero_add, Nat.reduceAdd] at hk
  go_enter Try.func54, Try.ntmps54
  go_wp2
  go_ret
  exact ⟨rfl, by go_grown⟩

set_option maxHeartbeats 400000 in
theorem lay_3 (n : Nat) (hn : n < 18446744073709551616) (w : World) : Calls Try.prog 54 #[.int .u64 (n : Int), .int .i64 3] w fun e w' => e = .returned (.string (str (fb n 3))) ∧ Below w.heap.size w w' := by
  have hk := conv_row w [(n : Int) % 256, (n : Int) / 256 % 256, (n : Int) / 65536 % 256] [.int .u8 0, .int .u8 0, .int .u8 0, .int .u8 0, .int .u8 0] 8
  have hs : strOfNums [(n : Int) % 256, (n : Int) / 256 % 256, (n : Int) / 65536 % 256] = str (fb n 3) := by
    have h := strOfNums_str [n % 256, n / 256 % 256, n / 65536 % 256]
    simp only [fb, Nat.div_div_eq_div_mul]
    simpa using h
  rw [hs] at hk
  clear hs
  simp only [List.map_cons, List.map_nil, List.cons_append, List.nil_append, List.length_cons, List.length_nil, Nat.zero_add, Nat.reduceAdd] at hk
  go_enter Try.func54, Try.ntmps54
  go_wp2
  go_ret
  exact ⟨rfl, by go_grown⟩

set_option maxHeartbeats 400000 in
theorem lay_4 (n : Nat) (hn : n < 18446744073709551616) (w : World) : Calls Try.prog 54 #[.int .u64 (n : Int), .int .i64 4] w fun e w' => e = .returned (.string (str (fb n 4))) ∧ Below w.heap.size w w' := by
  have hk := conv_row w [(n : Int) % 256, (n : Int) / 256 % 256, (n : Int) / 65536 % 256, (n : Int) / 16777216 % 256] [.int .u8 0, .int .u8 0, .int .u8 0, .int .u8 0] 8
  have hs : strOfNums [(n : Int) % 256, (n : Int) / 256 % 256, (n : Int) / 65536 % 256, (n : Int) / 16777216 % 256] = str (fb n 4) := by
    have h := strOfNums_str [n % 256, n / 256 % 256, n / 65536 % 256, n / 16777216 % 256]
    simp only [fb, Nat.div_div_eq_div_mul]
    simpa using h
  rw [hs] at hk
  clear hs
  simp only [List.map_cons, List.map_nil, List.cons_append, List.nil_append, List.length_cons, List.length_nil, Nat.zero_add, Nat.reduceAdd] at hk
  go_enter Try.func54, Try.ntmps54
  go_wp2
  go_ret
  exact ⟨rfl, by go_grown⟩

set_option maxHeartbeats 400000 in
theorem lay_5 (n : Nat) (hn : n < 18446744073709551616) (w : World) : Calls Try.prog 54 #[.int .u64 (n : Int), .int .i64 5] w fun e w' => e = .returned (.string (str (fb n 5))) ∧ Below w.heap.size w w' := by
  have hk := conv_row w [(n : Int) % 256, (n : Int) / 256 % 256, (n : Int) / 65536 % 256, (n : Int) / 16777216 % 256, (n : Int) / 4294967296 % 256] [.int .u8 0, .int .u8 0, .int .u8 0] 8
  have hs : strOfNums [(n : Int) % 256, (n : Int) / 256 % 256, (n : Int) / 65536 % 256, (n : Int) / 16777216 % 256, (n : Int) / 4294967296 % 256] = str (fb n 5) := by
    have h := strOfNums_str [n % 256, n / 256 % 256, n / 65536 % 256, n / 16777216 % 256, n / 4294967296 % 256]
    simp only [fb, Nat.div_div_eq_div_mul]
    simpa using h
  rw [hs] at hk
  clear hs
  simp only [List.map_cons, List.map_nil, List.cons_append, List.nil_append, List.length_cons, List.length_nil, Nat.zero_add, Nat.reduceAdd] at hk
  go_enter Try.func54, Try.ntmps54
  go_wp2
  go_ret
  exact ⟨rfl, by go_grown⟩

set_option maxHeartbeats 400000 in
theorem lay_6 (n : Nat) (hn : n < 18446744073709551616) (w : World) : Calls Try.prog 54 #[.int .u64 (n : Int), .int .i64 6] w fun e w' => e = .returned (.string (str (fb n 6))) ∧ Below w.heap.size w w' := by
  have hk := conv_row w [(n : Int) % 256, (n : Int) / 256 % 256, (n : Int) / 65536 % 256, (n : Int) / 16777216 % 256, (n : Int) / 4294967296 % 256, (n : Int) / 1099511627776 % 256] [.int .u8 0, .int .u8 0] 8
  have hs : strOfNums [(n : Int) % 256, (n : Int) / 256 % 256, (n : Int) / 65536 % 256, (n : Int) / 16777216 % 256, (n : Int) / 4294967296 % 256, (n : Int) / 1099511627776 % 256] = str (fb n 6) := by
    have h := strOfNums_str [n % 256, n / 256 % 256, n / 65536 % 256, n / 16777216 % 256, n / 4294967296 % 256, n / 1099511627776 % 256]
    simp only [fb, Nat.div_div_eq_div_mul]
    simpa using h
  rw [hs] at hk
  clear hs
  simp only [List.map_cons, List.map_nil, List.cons_append, List.nil_append, List.length_cons, List.length_nil, Nat.zero_add, Nat.reduceAdd] at hk
  go_enter Try.func54, Try.ntmps54
  go_wp2
  go_ret
  exact ⟨rfl, by go_grown⟩

set_option maxHeartbeats 400000 in
theorem lay_7 (n : Nat) (hn : n < 18446744073709551616) (w : World) : Calls Try.prog 54 #[.int .u64 (n : Int), .int .i64 7] w fun e w' => e = .returned (.string (str (fb n 7))) ∧ Below w.heap.size w w' := by
  have hk := conv_row w [(n : Int) % 256, (n : Int) / 256 % 256, (n : Int) / 65536 % 256, (n : Int) / 16777216 % 256, (n : Int) / 4294967296 % 256, (n : Int) / 1099511627776 % 256, (n : Int) / 281474976710656 % 256] [.int .u8 0] 8
  have hs : strOfNums [(n : Int) % 256, (n : Int) / 256 % 256, (n : Int) / 65536 % 256, (n : Int) / 16777216 % 256, (n : Int) / 4294967296 % 256, (n : Int) / 1099511627776 % 256, (n : Int) / 281474976710656 % 256] = str (fb n 7) := by
    have h := strOfNums_str [n % 256, n / 256 % 256, n / 65536 % 256, n / 16777216 % 256, n / 4294967296 % 256, n / 1099511627776 % 256, n / 281474976710656 % 256]
    simp only [fb, Nat.div_div_eq_div_mul]
    simpa using h
  rw [hs] at hk
  clear hs
  simp only [List.map_cons, List.map_nil, List.cons_append, List.nil_append, List.length_cons, List.length_nil, Nat.zero_add, Nat.reduceAdd] at hk
  go_enter Try.func54, Try.ntmps54
  go_wp2
  go_ret
  exact ⟨rfl, by go_grown⟩

set_option maxHeartbeats 400000 in
theorem lay_8 (n : Nat) (hn : n < 18446744073709551616) (w : World) : Calls Try.prog 54 #[.int .u64 (n : Int), .int .i64 8] w fun e w' => e = .returned (.string (str (fb n 8))) ∧ Below w.heap.size w w' := by
  have hk := conv_row w [(n : Int) % 256, (n : Int) / 256 % 256, (n : Int) / 65536 % 256, (n : Int) / 16777216 % 256, (n : Int) / 4294967296 % 256, (n : Int) / 1099511627776 % 256, (n : Int) / 281474976710656 % 256, (n : Int) / 72057594037927936] [] 8
  have hs : strOfNums [(n : Int) % 256, (n : Int) / 256 % 256, (n : Int) / 65536 % 256, (n : Int) / 16777216 % 256, (n : Int) / 4294967296 % 256, (n : Int) / 1099511627776 % 256, (n : Int) / 281474976710656 % 256, (n : Int) / 72057594037927936] = str (fb n 8) := by
    have h := strOfNums_str [n % 256, n / 256 % 256, n / 65536 % 256, n / 16777216 % 256, n / 4294967296 % 256, n / 1099511627776 % 256, n / 281474976710656 % 256, n / 72057594037927936]
    have e8 : n / 72057594037927936 % 256 = n / 72057594037927936 := by omega
    simp only [fb, Nat.div_div_eq_div_mul, Nat.reduceMul, e8]
    simpa using h
  rw [hs] at hk
  clear hs
  simp only [List.map_cons, List.map_nil, List.cons_append, List.nil_append, List.length_cons, List.length_nil, Nat.zero_add, Nat.reduceAdd] at hk
  go_enter Try.func54, Try.ntmps54
  go_wp2
  go_ret
  exact ⟨rfl, by go_grown⟩

theorem fits_yes (n wd : Nat) (hn : n < 18446744073709551616) (h1 : 1 ≤ wd) (h8 : wd ≤ 8) (hf : n < 256 ^ wd) (w : World) : Calls Try.prog 53 #[.int .u64 (n : Int), .int .i64 (wd : Int)] w fun e w' => e = .returned (.bool true) ∧ w = w' := by
  obtain rfl | rfl | rfl | rfl | rfl | rfl | rfl | rfl : wd = 1 ∨ wd = 2 ∨ wd = 3 ∨ wd = 4 ∨ wd = 5 ∨ wd = 6 ∨ wd = 7 ∨ wd = 8 := by omega
  all_goals simp only [Nat.reducePow] at hf
  all_goals go_enter Try.func53, Try.ntmps53
  all_goals go_wp2
  all_goals go_ret
  all_goals refine ⟨ret_bool ?_, rfl⟩
  all_goals (first | (rw [beq_iff_eq]; omega) | (rw [beq_eq_false_iff_ne]; omega))

theorem fits_no (n wd : Nat) (hn : n < 18446744073709551616) (h1 : 1 ≤ wd) (h8 : wd ≤ 8) (hf : 256 ^ wd ≤ n) (w : World) : Calls Try.prog 53 #[.int .u64 (n : Int), .int .i64 (wd : Int)] w fun e w' => e = .returned (.bool false) ∧ w = w' := by
  obtain rfl | rfl | rfl | rfl | rfl | rfl | rfl | rfl : wd = 1 ∨ wd = 2 ∨ wd = 3 ∨ wd = 4 ∨ wd = 5 ∨ wd = 6 ∨ wd = 7 ∨ wd = 8 := by omega
  all_goals simp only [Nat.reducePow] at hf
  all_goals go_enter Try.func53, Try.ntmps53
  all_goals go_wp2
  all_goals go_ret
  all_goals refine ⟨ret_bool ?_, rfl⟩
  all_goals (first | (rw [beq_iff_eq]; omega) | (rw [beq_eq_false_iff_ne]; omega))

theorem noWidth_no (wide : Int) (h1 : 1 ≤ wide) (h8 : wide ≤ 8) (w : World) : Calls Try.prog 44 #[.int .i64 wide] w fun e w' => e = .returned (.bool false) ∧ w = w' := by
  refine (noWidth_any wide w).mono ?_
  rintro e w' ⟨rfl, rfl⟩
  exact ⟨ret_bool (by rw [decide_eq_false (by omega), decide_eq_false (by omega)]; rfl), rfl⟩
theorem noWidth_yes (wide : Int) (h : wide < 1 ∨ 8 < wide) (w : World) : Calls Try.prog 44 #[.int .i64 wide] w fun e w' => e = .returned (.bool true) ∧ w = w' := by
  refine (noWidth_any wide w).mono ?_
  rintro e w' ⟨rfl, rfl⟩
  refine ⟨ret_bool ?_, rfl⟩
  rw [Bool.or_eq_true, decide_eq_true_iff, decide_eq_true_iff]; exact h

theorem lay_any (n wd : Nat) (hn : n < 18446744073709551616) (h1 : 1 ≤ wd) (h8 : wd ≤ 8) (w : World) : Calls Try.prog 54 #[.int .u64 (n : Int), .int .i64 (wd : Int)] w fun e w' => e = .returned (.string (str (fb n wd))) ∧ Below w.heap.size w w' := by
  obtain rfl | rfl | rfl | rfl | rfl | rfl | rfl | rfl : wd = 1 ∨ wd = 2 ∨ wd = 3 ∨ wd = 4 ∨ wd = 5 ∨ wd = 6 ∨ wd = 7 ∨ wd = 8 := by omega
  · exact lay_1 n hn w
  · exact lay_2 n hn w
  · exact lay_3 n hn w
  · exact lay_4 n hn w
  · exact lay_5 n hn w
  · exact lay_6 n hn w
  · exact lay_7 n hn w
  · exact lay_8 n hn w

set_option maxHeartbeats 400000 in
theorem put_arg (n wide : Int) (h : wide < 1 ∨ 8 < wide) (w : World) : Calls Try.prog 45 #[.int .u64 n, .int .i64 wide] w fun e w' => e = .returned (.tuple #[.string (str []), .int .i64 1]) ∧ w = w' := by
  have H := Lib.hid h
  clear h
  go_enter Try.func45, Try.ntmps45
  go_wp2_with (go_at_call 44; refine (noWidth_yes wide H.out w).mono ?_; rintro e w' ⟨rfl, rfl⟩)
  go_ret2
  exact ⟨rfl, rfl⟩
set_option maxHeartbeats 400000 in
theorem put_long (n wd : Nat) (hn : n < 18446744073709551616) (h1 : 1 ≤ wd) (h8 : wd ≤ 8) (hf : 256 ^ wd ≤ n) (w : World) : Calls Try.prog 45 #[.int .u64 (n : Int), .int .i64 (wd : Int)] w fun e w' => e = .returned (.tuple #[.string (str []), .int .i64 2]) ∧ w = w' := by
  go_enter Try.func45, Try.ntmps45
  go_wp2_with (first | (go_at_call 44; refine (noWidth_no (wd : Int) (by omega) (by omega) w).mono ?_; rintro e w' ⟨rfl, rfl⟩) | (go_at_call 53; refine (fits_no n wd hn h1 h8 hf w).mono ?_; rintro e w' ⟨rfl, rfl⟩))
  go_ret2
  exact ⟨rfl, rfl⟩
set_option maxHeartbeats 400000 in
theorem put_ok (n wd : Nat) (hn : n < 18446744073709551616) (h1 : 1 ≤ wd) (h8 : wd ≤ 8) (hf : n < 256 ^ wd) (w : World) : Calls Try.prog 45 #[.int .u64 (n : Int), .int .i64 (wd : Int)] w fun e w' => e = .returned (.tuple #[.string (str (fb n wd)), .int .i64 0]) ∧ Below w.heap.size w w' := by
  go_enter Try.func45, Try.ntmps45
  go_wp2_with (first | (go_at_call 44; refine (noWidth_no (wd : Int) (by omega) (by omega) w).mono ?_; rintro e w' ⟨rfl, rfl⟩) | (go_at_call 53; refine (fits_yes n wd hn h1 h8 hf w).mono ?_; rintro e w' ⟨rfl, rfl⟩) | (go_at_call 54; refine (lay_any n wd hn h1 h8 w).mono ?_; rintro e w' ⟨rfl, hb⟩))
  go_ret2
  exact ⟨rfl, hb⟩
end FM
end Go.Proofs.Ytdjlflinepefbaa
