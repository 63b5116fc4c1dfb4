/- 3 texts laid together: each says at its head what it proves. No condition but those that each theorem names. -/
import Derived.Test.YtdjlflinepefbabGreatProg
import Derived.Test.YtdjlflinepefbabGreatQ06
import Derived.WalkKit
import Derived.Handy
import Derived.Laws.BytesArg
import Derived.Lib.Hide
import Derived.ProofKit
import Derived.OpenShut
import Derived.ShutString
import Derived.ChangeOld
import Derived.Below
import Derived.SizedLaws

/- What scoria/field.Put and the functions that it calls answer, for every number of 64 bits and every width. No condition. -/
namespace Go.Proofs.YtdjlflinepefbabGreat
open Go.RowKit
namespace FM
set_option linter.unusedVariables false
set_option linter.unusedSimpArgs false

theorem ret_bool {a b : Bool} (h : a = b) : Ending.returned (.bool a) = .returned (.bool b) := by rw [h]

theorem noWidth_any (wide : Int) (w : World) : Calls Tryz.prog 132 #[.int .i64 wide] w fun e w' => e = .returned (.bool (decide (wide < 1) || decide (8 < wide))) ∧ w = w' := by
  go_enter Tryz.func132, Tryz.ntmps132
  go_wp2
  all_goals go_ret
  · exact ⟨rfl, rfl⟩
  · rename_i h
    have h' : wide < 1 := by omega
    exact ⟨by simp [h'], rfl⟩

/-- A row of bytes in a new block, as a string. -/
theorem conv_row (w : World) (xs : List Int) (ys : List Value) (c : Nat) :
    (convert 215 9 (.slice (some ⟨w.heap.size, 0, none⟩) xs.length c)).run Tryz.prog (w.alloc (.cells (xs.map (Value.int .u8) ++ ys).toArray 280)) = .ok (.string (strOfNums xs)) (w.alloc (.cells (xs.map (Value.int .u8) ++ ys).toArray 280)) := by
  refine run_convert_bytes_arg _ 215 5 Tryz.underlying215 Tryz.underlying5 w.heap.size 0 xs.length c xs rfl ?_ 9 Tryz.underlying9
  intro i hi
  simp only [Nat.zero_add]
  rw [World.cell?_alloc_new]
  simp [List.getElem?_append_left, hi]

theorem strOfNums_str (l : List Nat) : strOfNums (l.map fun x : Nat => (x : Int)) = str (l.map fun x : Nat => UInt8.ofNat x) := by
  simp [strOfNums, str]

set_option maxHeartbeats 400000 in
theorem lay_1 (n : Nat) (hn : n < 18446744073709551616) (w : World) : Calls Tryz.prog 176 #[.int .u64 (n : Int), .int .i64 1] w fun e w' => e = .returned (.string (str (fb n 1))) ∧ Below w.heap.size w w' := by
  have hk := conv_row w [(n : Int) % 256] [.int .u8 0, .int .u8 0, .int .u8 0, .int .u8 0, .int .u8 0, .int .u8 0, .int .u8 0] 8
  have hs : strOfNums [(n : Int) % 256] = str (fb n 1) := by
    have h := strOfNums_str [n % 256]
    simp only [fb, Nat.div_div_eq_div_mul]
    simpa using h
  rw [hs] at hk
  clear hs
  simp only [List.map_cons, List.map_nil, List.cons_append, List.nil_append, List.length_cons, List.length_nil, Nat.zero_add, Nat.reduceAdd] at hk
  go_enter Tryz.func176, Tryz.ntmps176
  go_wp2
  go_ret
  exact ⟨rfl, by go_grown⟩

set_option maxHeartbeats 400000 in
theorem lay_2 (n : Nat) (hn : n < 18446744073709551616) (w : World) : Calls Tryz.prog 176 #[.int .u64 (n : Int), .int .i64 2] w fun e w' => e = .returned (.string (str (fb n 2))) ∧ Below w.heap.size w w' := by
  have hk := conv_row w [(n : Int) % 256, (n : Int) / 256 % 256] [.int .u8 0, .int .u8 0, .int .u8 0, .int .u8 0, .int .u8 0, .int .u8 0] 8
  have hs : strOfNums [(n : Int) % 256, (n : Int) / 256 % 256] = str (fb n 2) := by
    have h := strOfNums_str [n % 256, n / 256 % 256]
    simp only [fb, Nat.div_div_eq_div_mul]
    simpa using h
  rw [hs] at hk
  clear hs
  simp only [List.map_cons, List.map_nil, List.cons_append, List.nil_append, List.length_cons, List.length_nil, Nat.zero_add, Nat.reduceAdd] at hk
  go_enter Tryz.func176, Tryz.ntmps176
  go_wp2
  go_ret
  exact ⟨rfl, by go_grown⟩

set_option maxHeartbeats 400000 in
theorem lay_3 (n : Nat) (hn : n < 18446744073709551616) (w : World) : Calls Tryz.prog 176 #[.int .u64 (n : Int), .int .i64 3] w fun e w' => e = .returned (.string (str (fb n 3))) ∧ Below w.heap.size w w' := by
  have hk := conv_row w [(n : Int) % 256, (n : Int) / 256 % 256, (n : Int) / 65536 % 256] [.int .u8 0, .int .u8 0, .int .u8 0, .int .u8 0, .int .u8 0] 8
  have hs : strOfNums [(n : Int) % 256, (n : Int) / 256 % 256, (n : Int) / 65536 % 256] = str (fb n 3) := by
    have h := strOfNums_str [n % 256, n / 256 % 256, n / 65536 % 256]
    simp only [fb, Nat.div_div_eq_div_mul]
    simpa using h
  rw [hs] at hk
  clear hs
  simp only [List.map_cons, List.map_nil, List.cons_append, List.nil_append, List.length_cons, List.length_nil, Nat.zero_add, Nat.reduceAdd] at hk
  go_enter Tryz.func176, Tryz.ntmps176
  go_wp2
  go_ret
  exact ⟨rfl, by go_grown⟩

set_option maxHeartbeats 400000 in
theorem lay_4 (n : Nat) (hn : n < 18446744073709551616) (w : World) : Calls Tryz.prog 176 #[.int .u64 (n : Int), .int .i64 4] w fun e w' => e = .returned (.string (str (fb n 4))) ∧ Below w.heap.size w w' := by
  have hk := conv_row w [(n : Int) % 256, (n : Int) / 256 % 256, (n : Int) / 65536 % 256, (n : Int) / 16777216 % 256] [.int .u8 0, .int .u8 0, .int .u8 0, .int .u8 0] 8
  have hs : strOfNums [(n : Int) % 256, (n : Int) / 256 % 256, (n : Int) / 65536 % 256, (n : Int) / 16777216 % 256] = str (fb n 4) := by
    have h := strOfNums_str [n % 256, n / 256 % 256, n / 65536 % 256, n / 16777216 % 256]
    simp only [fb, Nat.div_div_eq_div_mul]
    simpa using h
  rw [hs] at hk
  clear hs
  simp only [List.map_cons, List.map_nil, List.cons_append, List.nil_append, List.length_cons, List.length_nil, Nat.zero_add, Nat.reduceAdd] at hk
  go_enter Tryz.func176, Tryz.ntmps176
  go_wp2
  go_ret
  exact ⟨rfl, by go_grown⟩

set_option maxHeartbeats 400000 in
theorem lay_5 (n : Nat) (hn : n < 18446744073709551616) (w : World) : Calls Tryz.prog 176 #[.int .u64 (n : Int), .int .i64 5] w fun e w' => e = .returned (.string (str (fb n 5))) ∧ Below w.heap.size w w' := by
  have hk := conv_row w [(n : Int) % 256, (n : Int) / 256 % 256, (n : Int) / 65536 % 256, (n : Int) / 16777216 % 256, (n : Int) / 4294967296 % 256] [.int .u8 0, .int .u8 0, .int .u8 0] 8
  have hs : strOfNums [(n : Int) % 256, (n : Int) / 256 % 256, (n : Int) / 65536 % 256, (n : Int) / 16777216 % 256, (n : Int) / 4294967296 % 256] = str (fb n 5) := by
    have h := strOfNums_str [n % 256, n / 256 % 256, n / 65536 % 256, n / 16777216 % 256, n / 4294967296 % 256]
    simp only [fb, Nat.div_div_eq_div_mul]
    simpa using h
  rw [hs] at hk
  clear hs
  simp only [List.map_cons, List.map_nil, List.cons_append, List.nil_append, List.length_cons, List.length_nil, Nat.zero_add, Nat.reduceAdd] at hk
  go_enter Tryz.func176, Tryz.ntmps176
  go_wp2
  go_ret
  exact ⟨rfl, by go_grown⟩

set_option maxHeartbeats 400000 in
theorem lay_6 (n : Nat) (hn : n < 18446744073709551616) (w : World) : Calls Tryz.prog 176 #[.int .u64 (n : Int), .int .i64 6] w fun e w' => e = .returned (.string (str (fb n 6))) ∧ Below w.heap.size w w' := by
  have hk := conv_row w [(n : Int) % 256, (n : Int) / 256 % 256, (n : Int) / 65536 % 256, (n : Int) / 16777216 % 256, (n : Int) / 4294967296 % 256, (n : Int) / 1099511627776 % 256] [.int .u8 0, .int .u8 0] 8
  have hs : strOfNums [(n : Int) % 256, (n : Int) / 256 % 256, (n : Int) / 65536 % 256, (n : Int) / 16777216 % 256, (n : Int) / 4294967296 % 256, (n : Int) / 1099511627776 % 256] = str (fb n 6) := by
    have h := strOfNums_str [n % 256, n / 256 % 256, n / 65536 % 256, n / 16777216 % 256, n / 4294967296 % 256, n / 1099511627776 % 256]
    simp only [fb, Nat.div_div_eq_div_mul]
    simpa using h
  rw [hs] at hk
  clear hs
  simp only [List.map_cons, List.map_nil, List.cons_append, List.nil_append, List.length_cons, List.length_nil, Nat.zero_add, Nat.reduceAdd] at hk
  go_enter Tryz.func176, Tryz.ntmps176
  go_wp2
  go_ret
  exact ⟨rfl, by go_grown⟩

set_option maxHeartbeats 400000 in
theorem lay_7 (n : Nat) (hn : n < 18446744073709551616) (w : World) : Calls Tryz.prog 176 #[.int .u64 (n : Int), .int .i64 7] w fun e w' => e = .returned (.string (str (fb n 7))) ∧ Below w.heap.size w w' := by
  have hk := conv_row w [(n : Int) % 256, (n : Int) / 256 % 256, (n : Int) / 65536 % 256, (n : Int) / 16777216 % 256, (n : Int) / 4294967296 % 256, (n : Int) / 1099511627776 % 256, (n : Int) / 281474976710656 % 256] [.int .u8 0] 8
  have hs : strOfNums [(n : Int) % 256, (n : Int) / 256 % 256, (n : Int) / 65536 % 256, (n : Int) / 16777216 % 256, (n : Int) / 4294967296 % 256, (n : Int) / 1099511627776 % 256, (n : Int) / 281474976710656 % 256] = str (fb n 7) := by
    have h := strOfNums_str [n % 256, n / 256 % 256, n / 65536 % 256, n / 16777216 % 256, n / 4294967296 % 256, n / 1099511627776 % 256, n / 281474976710656 % 256]
    simp only [fb, Nat.div_div_eq_div_mul]
    simpa using h
  rw [hs] at hk
  clear hs
  simp only [List.map_cons, List.map_nil, List.cons_append, List.nil_append, List.length_cons, List.length_nil, Nat.zero_add, Nat.reduceAdd] at hk
  go_enter Tryz.func176, Tryz.ntmps176
  go_wp2
  go_ret
  exact ⟨rfl, by go_grown⟩

set_option maxHeartbeats 400000 in
theorem lay_8 (n : Nat) (hn : n < 18446744073709551616) (w : World) : Calls Tryz.prog 176 #[.int .u64 (n : Int), .int .i64 8] w fun e w' => e = .returned (.string (str (fb n 8))) ∧ Below w.heap.size w w' := by
  have hk := conv_row w [(n : Int) % 256, (n : Int) / 256 % 256, (n : Int) / 65536 % 256, (n : Int) / 16777216 % 256, (n : Int) / 4294967296 % 256, (n : Int) / 1099511627776 % 256, (n : Int) / 281474976710656 % 256, (n : Int) / 72057594037927936] [] 8
  have hs : strOfNums [(n : Int) % 256, (n : Int) / 256 % 256, (n : Int) / 65536 % 256, (n : Int) / 16777216 % 256, (n : Int) / 4294967296 % 256, (n : Int) / 1099511627776 % 256, (n : Int) / 281474976710656 % 256, (n : Int) / 72057594037927936] = str (fb n 8) := by
    have h := strOfNums_str [n % 256, n / 256 % 256, n / 65536 % 256, n / 16777216 % 256, n / 4294967296 % 256, n / 1099511627776 % 256, n / 281474976710656 % 256, n / 72057594037927936]
    have e8 : n / 72057594037927936 % 256 = n / 72057594037927936 := by omega
    simp only [fb, Nat.div_div_eq_div_mul, Nat.reduceMul, e8]
    simpa using h
  rw [hs] at hk
  clear hs
  simp only [List.map_cons, List.map_nil, List.cons_append, List.nil_append, List.length_cons, List.length_nil, Nat.zero_add, Nat.reduceAdd] at hk
  go_enter Tryz.func176, Tryz.ntmps176
  go_wp2
  go_ret
  exact ⟨rfl, by go_grown⟩

theorem fits_yes (n wd : Nat) (hn : n < 18446744073709551616) (h1 : 1 ≤ wd) (h8 : wd ≤ 8) (hf : n < 256 ^ wd) (w : World) : Calls Tryz.prog 175 #[.int .u64 (n : Int), .int .i64 (wd : Int)] w fun e w' => e = .returned (.bool true) ∧ w = w' := by
  obtain rfl | rfl | rfl | rfl | rfl | rfl | rfl | rfl : wd = 1 ∨ wd = 2 ∨ wd = 3 ∨ wd = 4 ∨ wd = 5 ∨ wd = 6 ∨ wd = 7 ∨ wd = 8 := by omega
  all_goals simp only [Nat.reducePow] at hf
  all_goals go_enter Tryz.func175, Tryz.ntmps175
  all_goals go_wp2
  all_goals go_ret
  all_goals refine ⟨ret_bool ?_, rfl⟩
  all_goals (first | (rw [beq_iff_eq]; omega) | (rw [beq_eq_false_iff_ne]; omega))

theorem fits_no (n wd : Nat) (hn : n < 18446744073709551616) (h1 : 1 ≤ wd) (h8 : wd ≤ 8) (hf : 256 ^ wd ≤ n) (w : World) : Calls Tryz.prog 175 #[.int .u64 (n : Int), .int .i64 (wd : Int)] w fun e w' => e = .returned (.bool false) ∧ w = w' := by
  obtain rfl | rfl | rfl | rfl | rfl | rfl | rfl | rfl : wd = 1 ∨ wd = 2 ∨ wd = 3 ∨ wd = 4 ∨ wd = 5 ∨ wd = 6 ∨ wd = 7 ∨ wd = 8 := by omega
  all_goals simp only [Nat.reducePow] at hf
  all_goals go_enter Tryz.func175, Tryz.ntmps175
  all_goals go_wp2
  all_goals go_ret
  all_goals refine ⟨ret_bool ?_, rfl⟩
  all_goals (first | (rw [beq_iff_eq]; omega) | (rw [beq_eq_false_iff_ne]; omega))

theorem noWidth_no (wide : Int) (h1 : 1 ≤ wide) (h8 : wide ≤ 8) (w : World) : Calls Tryz.prog 132 #[.int .i64 wide] w fun e w' => e = .returned (.bool false) ∧ w = w' := by
  refine (noWidth_any wide w).mono ?_
  rintro e w' ⟨rfl, rfl⟩
  exact ⟨ret_bool (by rw [decide_eq_false (by omega), decide_eq_false (by omega)]; rfl), rfl⟩
theorem noWidth_yes (wide : Int) (h : wide < 1 ∨ 8 < wide) (w : World) : Calls Tryz.prog 132 #[.int .i64 wide] w fun e w' => e = .returned (.bool true) ∧ w = w' := by
  refine (noWidth_any wide w).mono ?_
  rintro e w' ⟨rfl, rfl⟩
  refine ⟨ret_bool ?_, rfl⟩
  rw [Bool.or_eq_true, decide_eq_true_iff, decide_eq_true_iff]; exact h

theorem lay_any (n wd : Nat) (hn : n < 18446744073709551616) (h1 : 1 ≤ wd) (h8 : wd ≤ 8) (w : World) : Calls Tryz.prog 176 #[.int .u64 (n : Int), .int .i64 (wd : Int)] w fun e w' => e = .returned (.string (str (fb n wd))) ∧ Below w.heap.size w w' := by
  obtain rfl | rfl | rfl | rfl | rfl | rfl | rfl | rfl : wd = 1 ∨ wd = 2 ∨ wd = 3 ∨ wd = 4 ∨ wd = 5 ∨ wd = 6 ∨ wd = 7 ∨ wd = 8 := by omega
  · exact lay_1 n hn w
  · exact lay_2 n hn w
  · exact lay_3 n hn w
  · exact lay_4 n hn w
  · exact lay_5 n hn w
  · exact lay_6 n hn w
  · exact lay_7 n hn w
  · exact lay_8 n hn w

set_option maxHeartbeats 400000 in
theorem put_arg (n wide : Int) (h : wide < 1 ∨ 8 < wide) (w : World) : Calls Tryz.prog 133 #[.int .u64 n, .int .i64 wide] w fun e w' => e = .returned (.tuple #[.string (str []), .int .i64 1]) ∧ w = w' := by
  have H := Lib.hid h
  clear h
  go_enter Tryz.func133, Tryz.ntmps133
  go_wp2_with (go_at_call 132; refine (noWidth_yes wide H.out w).mono ?_; rintro e w' ⟨rfl, rfl⟩)
  go_ret2
  exact ⟨rfl, rfl⟩
set_option maxHeartbeats 400000 in
theorem put_long (n wd : Nat) (hn : n < 18446744073709551616) (h1 : 1 ≤ wd) (h8 : wd ≤ 8) (hf : 256 ^ wd ≤ n) (w : World) : Calls Tryz.prog 133 #[.int .u64 (n : Int), .int .i64 (wd : Int)] w fun e w' => e = .returned (.tuple #[.string (str []), .int .i64 2]) ∧ w = w' := by
  go_enter Tryz.func133, Tryz.ntmps133
  go_wp2_with (first | (go_at_call 132; refine (noWidth_no (wd : Int) (by omega) (by omega) w).mono ?_; rintro e w' ⟨rfl, rfl⟩) | (go_at_call 175; refine (fits_no n wd hn h1 h8 hf w).mono ?_; rintro e w' ⟨rfl, rfl⟩))
  go_ret2
  exact ⟨rfl, rfl⟩
set_option maxHeartbeats 400000 in
theorem put_ok (n wd : Nat) (hn : n < 18446744073709551616) (h1 : 1 ≤ wd) (h8 : wd ≤ 8) (hf : n < 256 ^ wd) (w : World) : Calls Tryz.prog 133 #[.int .u64 (n : Int), .int .i64 (wd : Int)] w fun e w' => e = .returned (.tuple #[.string (str (fb n wd)), .int .i64 0]) ∧ Below w.heap.size w w' := by
  go_enter Tryz.func133, Tryz.ntmps133
  go_wp2_with (first | (go_at_call 132; refine (noWidth_no (wd : Int) (by omega) (by omega) w).mono ?_; rintro e w' ⟨rfl, rfl⟩) | (go_at_call 175; refine (fits_yes n wd hn h1 h8 hf w).mono ?_; rintro e w' ⟨rfl, rfl⟩) | (go_at_call 176; refine (lay_any n wd hn h1 h8 w).mono ?_; rintro e w' ⟨rfl, hb⟩))
  go_ret2
  exact ⟨rfl, hb⟩
end FM
end Go.Proofs.YtdjlflinepefbabGreat

/- How arguments are opened: a row of integers; an array of two strings. No condition but those that each theorem names. -/
namespace Go.Proofs.YtdjlflinepefbabGreat.FM
open Go.RowKit
set_option linter.unusedVariables false

/-- A slice of integers that came in: nil, or a row of cells that hold the numbers zs, the first len of them its elements. -/
def IsRow (k : IntKind) (w : World) (a : Option Addr) (len cap : Nat) (zs : List Int) : Prop :=
  (a = none ∧ len = 0 ∧ cap = 0 ∧ zs = []) ∨
  ∃ x, a = some x ∧ len ≤ cap ∧ cap ≤ maxLen ∧ zs.length = cap ∧ (∀ i, i < zs.length → w.cell? (x.add i) = some (.int k (zs.getD i 0))) ∧ ∀ n ∈ zs, (Lit.int k n).wf = true

theorem open_strs2 {H : Type} {enc : TypeId × Value → H} {P : Program} {w : World} {base b0 : Nat} {spare : Nat → Bool} {held : Bool} {r : Reach} {t e : TypeId} {v : Value} {d : DataW H} {p : List MemPlace}
    (ht : P.underlying t = some (.array 2 e)) (he : P.underlying e = some .string) (hc : P.cellsOf t = 2) (hce : P.cellsOf e = 1)
    (hv : Value.okWide P w r b0 t v) (h : DataW.Trod enc P w base spare held t v d p) :
    ∃ a b : ByteArray, v = .agg #[.string a, .string b] ∧ d = .agg [.lit (.string a.data.toList), .lit (.string b.data.toList)] := by
  simp only [Value.okWide, ht] at hv
  obtain ⟨cs, rfl, hsz, _⟩ := hv
  rw [hc] at hsz
  obtain ⟨c0, c1, rfl⟩ : ∃ c0 c1, cs = #[c0, c1] := by
    rcases cs with ⟨_ | ⟨c0, _ | ⟨c1, _ | _⟩⟩⟩ <;> simp at hsz
    exact ⟨c0, c1, rfl⟩
  obtain ⟨fuel, hf⟩ := h
  obtain ⟨xs, m, rfl, hx, hl, hxn, hget⟩ := DataW.trod_array ht hf
  have g0 := hget 0 (by decide)
  have g1 := hget 1 (by decide)
  rw [hce] at g0 g1
  simp [Value.cells] at g0 g1
  have l0 : (0 : Nat) < xs.length := by omega
  have l1 : (1 : Nat) < xs.length := by omega
  rw [List.getElem?_eq_getElem l0] at g0
  rw [List.getElem?_eq_getElem l1] at g1
  obtain ⟨a, ha, hxa, _⟩ := DataW.trod_string he g0
  obtain ⟨b, hb, hxb, _⟩ := DataW.trod_string he g1
  simp at ha hb
  subst ha hb
  refine ⟨a, b, rfl, ?_⟩
  obtain ⟨x0, x1, rfl⟩ : ∃ x0 x1, xs = [x0, x1] := by
    rcases xs with _ | ⟨x0, _ | ⟨x1, _ | _⟩⟩ <;> simp at hxn
    exact ⟨x0, x1, rfl⟩
  simp at hxa hxb hx
  rw [hx.1, hxa, hxb]

theorem sized_strs2 {H : Type} {P : Program} {ts : List TypeId} {ds : List (DataW H)} (h : (DataW.weightsEach P ts ds).all (· ≤ reachBytes) = true) {j : Nat} {t e : TypeId} {a b : ByteArray}
    (ht : ts[j]? = some t) (hd : ds[j]? = some (.agg [.lit (.string a.data.toList), .lit (.string b.data.toList)])) (hu : P.underlying t = some (.array 2 e)) :
    a.size ≤ 140737488351232 ∧ b.size ≤ 140737488351232 := by
  have h1 := List.all_eq_true.1 h _ (DataW.weights_mem_each ht hd a.data.toList.length (by simp [DataW.weights, hu, DataW.weightsAll]))
  have h2 := List.all_eq_true.1 h _ (DataW.weights_mem_each ht hd b.data.toList.length (by simp [DataW.weights, hu, DataW.weightsAll]))
  have h1' := of_decide_eq_true h1
  have h2' := of_decide_eq_true h2
  simp only [reachBytes, Array.length_toList] at h1' h2'
  exact ⟨h1', h2'⟩
end Go.Proofs.YtdjlflinepefbabGreat.FM

/- How a slice of integers that came in is read, cell by cell; and what slices.ContainsFunc answers over field.noWidth. No condition but those that each theorem names. -/
namespace Go.Proofs.YtdjlflinepefbabGreat
open Go.RowKit
namespace FM
set_option linter.unusedVariables false
set_option linter.unusedSimpArgs false

/-- The slice at a of len elements reads as Z 0, Z 1, ..; nothing is said of an empty one's address. -/
def Row (k : IntKind) (w : World) (a : Option Addr) (len : Nat) (Z : Nat → Int) : Prop :=
  len = 0 ∨ ∃ b off, a = some ⟨b, off, none⟩ ∧ b < w.heap.size ∧ ∀ i, i < len → w.cell? ⟨b, off + i, none⟩ = some (.int k (Z i))

theorem IsRow.row {k : IntKind} {w : World} {a : Option Addr} {len cap : Nat} {zs : List Int} (h : IsRow k w a len cap zs) : Row k w a len (fun i => zs.getD i 0) ∧ len ≤ cap ∧ ∀ i, i < len → (Lit.int k (zs.getD i 0)).wf = true := by
  rcases h with ⟨rfl, rfl, rfl, rfl⟩ | ⟨x, rfl, hl, hm, hz, hcell, hwf⟩
  · exact ⟨.inl rfl, Nat.le_refl _, fun i hi => by omega⟩
  · refine ⟨?_, hl, fun i hi => ?_⟩
    · by_cases h0 : len = 0
      · exact .inl h0
      · obtain ⟨b, off, spot⟩ := x
        have hc := hcell 0 (by omega)
        have hspot : spot = none := by simpa [Addr.add] using World.cell?_spot hc
        subst hspot
        refine .inr ⟨b, off, rfl, ?_, fun i hi => ?_⟩
        · have := World.block_lt_of_cell? w _ hc
          simpa [Addr.add] using this
        · have := hcell i (by omega)
          rwa [Addr.add_lit] at this
    · have hi' : i < zs.length := by omega
      have := hwf zs[i] (List.getElem_mem hi')
      simpa [List.getD, hi'] using this

theorem Row.kept {k : IntKind} {w w' : World} {a : Option Addr} {len : Nat} {Z : Nat → Int} (h : Row k w a len Z) {B : Nat} (hb : Below B w w') (hB : w.heap.size ≤ B) : Row k w' a len Z := by
  rcases h with h | ⟨b, off, rfl, hlt, hc⟩
  · exact .inl h
  · exact .inr ⟨b, off, rfl, Nat.lt_of_lt_of_le hlt hb.size, fun i hi => by rw [hb.cell (by simpa using Nat.lt_of_lt_of_le hlt hB)]; exact hc i hi⟩

/-- The first place at which something holds. -/
theorem first_place (p : Nat → Prop) : ∀ n, (∃ i, i < n ∧ p i) → ∃ j, j < n ∧ p j ∧ ∀ i, i < j → ¬ p i := by
  intro n
  induction n with
  | zero => rintro ⟨i, hi, _⟩; omega
  | succ n ih =>
    rintro ⟨i, hi, hp⟩
    by_cases hx : ∃ i, i < n ∧ p i
    · obtain ⟨j, hj, h⟩ := ih hx
      exact ⟨j, by omega, h⟩
    · have e : i = n := by
        by_cases h : i < n
        · exact absurd ⟨i, h, hp⟩ hx
        · omega
      subst e
      exact ⟨i, hi, hp, fun q hq hpq => hx ⟨q, hq, hpq⟩⟩

def Bad (x : Int) : Prop := x < 1 ∨ 8 < x
theorem not_bad {x : Int} (h : ¬ Bad x) : 1 ≤ x ∧ x ≤ 8 := by unfold Bad at h; omega

set_option maxHeartbeats 800000 in
theorem index_none (a : Option Addr) (len cap : Nat) (Z : Nat → Int) (hl : len ≤ 300) (w : World) (hr : Row .i64 w a len Z) (hok : ∀ i, i < len → ¬ Bad (Z i)) :
    Calls Tryz.prog 174 #[.slice a len cap, .func (.func 132) #[] #[]] w fun e w' => e = .returned (.int .i64 (-1)) ∧ w = w' := by
  have HOK := Lib.hid hok
  have HR := Lib.hid hr
  clear hok hr
  go_enter Tryz.func174, Tryz.ntmps174
  go_wp2
  go_loop [8] (fun i => ∃ k : Nat, k ≤ len ∧ i = .int .i64 k) (fun i => len - (intOf i).toNat)
  case atStart => exact ⟨0, Nat.zero_le _, rfl⟩
  case round =>
    obtain ⟨k, hk, rfl⟩ := hrel
    by_cases hlt : k < len
    · rcases HR.out with h0 | ⟨b, off, rfl, hb, hc⟩
      · omega
      · have hck := hc k hlt
        obtain ⟨g1, g8⟩ := not_bad (HOK.out k hlt)
        clear hc
        go_wp2_with (go_at_call 132; refine (noWidth_no _ g1 g8 _).mono ?_; rintro e w' ⟨rfl, rfl⟩)
        go_round
        case rel => exact ⟨k + 1, by omega, by go_num⟩
        case measure => simp [intOf]; omega
    · go_wp2
      go_ret
      exact ⟨rfl, rfl⟩

set_option maxHeartbeats 800000 in
theorem index_some (a : Option Addr) (len cap j : Nat) (Z : Nat → Int) (hl : len ≤ 300) (w : World) (hr : Row .i64 w a len Z) (hj : j < len) (hbad : Bad (Z j)) (hok : ∀ i, i < j → ¬ Bad (Z i)) :
    Calls Tryz.prog 174 #[.slice a len cap, .func (.func 132) #[] #[]] w fun e w' => e = .returned (.int .i64 (j : Int)) ∧ w = w' := by
  have HOK := Lib.hid hok
  have HR := Lib.hid hr
  have HB := Lib.hid hbad
  clear hok hr hbad
  go_enter Tryz.func174, Tryz.ntmps174
  go_wp2
  go_loop [8] (fun i => ∃ k : Nat, k ≤ j ∧ i = .int .i64 k) (fun i => len - (intOf i).toNat)
  case atStart => exact ⟨0, Nat.zero_le _, rfl⟩
  case round =>
    obtain ⟨k, hk, rfl⟩ := hrel
    have hlt : k < len := by omega
    rcases HR.out with h0 | ⟨b, off, rfl, hb, hc⟩
    · omega
    · have hck := hc k hlt
      by_cases hkj : k < j
      · obtain ⟨g1, g8⟩ := not_bad (HOK.out k hkj)
        clear hc
        go_wp2_with (go_at_call 132; refine (noWidth_no _ g1 g8 _).mono ?_; rintro e w' ⟨rfl, rfl⟩)
        go_round
        case rel => exact ⟨k + 1, by omega, by go_num⟩
        case measure => simp [intOf]; omega
      · obtain rfl : k = j := by omega
        clear hc
        go_wp2_with (go_at_call 132; refine (noWidth_yes _ HB.out _).mono ?_; rintro e w' ⟨rfl, rfl⟩)
        go_ret
        exact ⟨rfl, rfl⟩

theorem contains_none (a : Option Addr) (len cap : Nat) (Z : Nat → Int) (hl : len ≤ 300) (w : World) (hr : Row .i64 w a len Z) (hok : ∀ i, i < len → ¬ Bad (Z i)) :
    Calls Tryz.prog 131 #[.slice a len cap, .func (.func 132) #[] #[]] w fun e w' => e = .returned (.bool false) ∧ w = w' := by
  have HC := Lib.hid (index_none a len cap Z hl w hr hok)
  clear hok hr
  go_enter Tryz.func131, Tryz.ntmps131
  go_wp2_with fail
  refine HC.out.mono ?_
  rintro e w1 ⟨rfl, rfl⟩
  go_wp2
  go_ret
  exact ⟨rfl, rfl⟩
theorem contains_some (a : Option Addr) (len cap : Nat) (Z : Nat → Int) (hl : len ≤ 300) (w : World) (hr : Row .i64 w a len Z) (hbad : ∃ i, i < len ∧ Bad (Z i)) :
    Calls Tryz.prog 131 #[.slice a len cap, .func (.func 132) #[] #[]] w fun e w' => e = .returned (.bool true) ∧ w = w' := by
  obtain ⟨j, hj, hb, hn⟩ := first_place (fun i => Bad (Z i)) len hbad
  have HC := Lib.hid (index_some a len cap j Z hl w hr hj hb hn)
  clear hbad hr hn hb
  go_enter Tryz.func131, Tryz.ntmps131
  go_wp2_with fail
  refine HC.out.mono ?_
  rintro e w1 ⟨rfl, rfl⟩
  go_wp2
  go_ret
  exact ⟨rfl, rfl⟩
end FM
end Go.Proofs.YtdjlflinepefbabGreat
