/- 4 texts laid together: each says at its head what it proves. No condition but those that each theorem names. -/
import Derived.Test.YtdjlflinepefbabGreatQ41
import Derived.Test.YtdjlflinepefbabGreatQ42
import Derived.Test.YtdjlflinepefbabGreatQ40
import Derived.Deep.QuietTactic
import Derived.BigQuiet
import Derived.WalkSmall

/- What page.Write answers: of every page. Condition: no body is longer than 2^47 bytes. -/
namespace Go.Proofs.YtdjlflinepefbabGreat
open Go.RowKit
namespace PG
open FM CM
set_option linter.unusedVariables false
set_option linter.unusedSimpArgs false

/-- The numbers of a page's row. -/
def Nm (k s y q n : Nat) : Nat → Int
  | 0 => k
  | 1 => s
  | 2 => y
  | 3 => q
  | _ => n
theorem rowl_rowb (k s y q : Nat) (b : ByteArray) : rowl (Nm k s y q b.size) Wd 5 = rowb ⟨k, s, y, q, b⟩ := by
  simp [rowl, rowb, Nm, Wd]
theorem u64_in (n : Nat) (h : n < 18446744073709551616) : IntKind.u64.wrap (n : Int) = (n : Int) := by
  exact IntWalk.u64_in _ ⟨by omega, by omega⟩
theorem write_no (p : Pg) (h : ¬ May p) (w : World) : Calls Tryz.prog 65 #[.agg #[.int .i64 p.kind, .int .i64 p.space, .int .i64 p.key, .int .i64 p.seq, .string p.body]] w fun e w' => e = .returned (.tuple #[.string ⟨#[]⟩, .int .i64 1]) ∧ Below w.heap.size w w' := by
  have HM := Lib.hid (maybe_no p h)
  obtain ⟨k, s, y, q, b⟩ := p
  clear h
  go_enter Tryz.func65, Tryz.ntmps65
  go_wp2_with fail
  refine (HM.out _).mono ?_
  rintro e w1 ⟨rfl, hb1⟩
  have hb : Below w.heap.size w w1 := (below_box w _).trans (hb1.mono (below_box w _).size)
  go_wp2
  go_ret2
  exact ⟨rfl, hb⟩

set_option maxHeartbeats 2000000 in
theorem write_yes (p : Pg) (h : May p) (w : World) : Calls Tryz.prog 65 #[.agg #[.int .i64 p.kind, .int .i64 p.space, .int .i64 p.key, .int .i64 p.seq, .string p.body]] w fun e w' => e = .returned (.tuple #[.string (str (bytes p)), .int .i64 0]) ∧ Below w.heap.size w w' := by
  have HM := Lib.hid (maybe_yes p h)
  obtain ⟨k, s, y, q, b⟩ := p
  obtain ⟨⟨k1, k2⟩, ⟨s1, s2⟩, ⟨y1, y2⟩, ⟨q1, q2⟩, hb⟩ := h
  obtain ⟨k, rfl⟩ := Int.eq_ofNat_of_zero_le (show 0 ≤ k by have : (1 : Int) ≤ k := k1; omega)
  obtain ⟨s, rfl⟩ := Int.eq_ofNat_of_zero_le (show 0 ≤ s from s1)
  obtain ⟨y, rfl⟩ := Int.eq_ofNat_of_zero_le (show 0 ≤ y from y1)
  obtain ⟨q, rfl⟩ := Int.eq_ofNat_of_zero_le (show 0 ≤ q from q1)
  have k3 : (k : Int) ≤ 4 := k2
  have s3 : (s : Int) ≤ 65535 := s2
  have y3 : (y : Int) ≤ 4294967295 := y2
  have q3 : (q : Int) ≤ 281474976710655 := q2
  have b3 : b.size ≤ 100 := hb
  have e1 := u64_in k (by omega)
  have e2 := u64_in s (by omega)
  have e3 := u64_in y (by omega)
  have e4 := u64_in q (by omega)
  have e5 := u64_in b.size (by omega)
  have HR : Hid (∀ (w : World) (a c : Option Addr) (ca cc : Nat), Row .u64 w a 5 (Nm k s y q b.size) → Row .i64 w c 5 Wd → Calls Tryz.prog 94 #[.slice a 5 ca, .slice c 5 cc] w fun e w' => e = .returned (.tuple #[.string (str (rowb ⟨k, s, y, q, b⟩)), .int .i64 0]) ∧ Below w.heap.size w w') := by
    intro w a c ca cc h1 h2
    have := row_good a c 5 ca cc (Nm k s y q b.size) Wd (by decide) w h1 h2 (fun i hi => by
      obtain rfl | rfl | rfl | rfl | rfl : i = 0 ∨ i = 1 ∨ i = 2 ∨ i = 3 ∨ i = 4 := by omega
      all_goals (simp only [Nm]; omega)) wd_ok 5 (Nat.le_refl _) (fun i hi => by
      obtain rfl | rfl | rfl | rfl | rfl : i = 0 ∨ i = 1 ∨ i = 2 ∨ i = 3 ∨ i = 4 := by omega
      · show k < 256 ^ 1; omega
      · show s < 256 ^ 2; omega
      · show y < 256 ^ 4; omega
      · show q < 256 ^ 6; omega
      · show b.size < 256 ^ 1; omega) (fun h => by omega)
    refine this.mono fun e w' h => ?_
    have := h.1 rfl
    rw [rowl_rowb] at this
    exact this
  have h1 : str (bytes ⟨k, s, y, q, b⟩) = str (sealed ((⟨#[83, 99]⟩ : ByteArray) ++ str (rowb ⟨k, s, y, q, b⟩) ++ b).data.toList) := by
    unfold bytes lay
    simp [str]
  rw [h1]
  obtain ⟨R, hR⟩ : ∃ R, R = str (rowb ⟨k, s, y, q, b⟩) := ⟨_, rfl⟩
  have hRs : R.size = 14 := by rw [hR, str_size, rowb_len]
  rw [← hR] at HR ⊢
  have a1 : ∀ w' : World, (Op.stringOp .add ⟨#[83, 99]⟩ R).run Tryz.prog w' = .ok (.string (⟨#[83, 99]⟩ ++ R)) w' := fun w' => run_string_add_sum w' _ _ (by rw [hRs]; decide)
  obtain ⟨X, hX⟩ : ∃ X, X = (⟨#[83, 99]⟩ : ByteArray) ++ R := ⟨_, rfl⟩
  have hXs : X.size = 16 := by rw [hX, ByteArray.size_append, hRs]; rfl
  rw [← hX] at a1 ⊢
  have a2 : ∀ w' : World, (Op.stringOp .add X b).run Tryz.prog w' = .ok (.string (X ++ b)) w' := fun w' => run_string_add_sum w' _ _ (by rw [hXs]; omega)
  have HS := Lib.hid (seal_any (X ++ b) (by rw [ByteArray.size_append, hXs]; omega))
  obtain ⟨Y, hY⟩ : ∃ Y, Y = X ++ b := ⟨_, rfl⟩
  rw [← hY] at a2 HS ⊢
  obtain ⟨w0, hw0⟩ : ∃ w0, w0 = w.alloc (.cells #[.int .i64 k, .int .i64 s, .int .i64 y, .int .i64 q, .string b] 117) := ⟨_, rfl⟩
  have hz0 : w0.heap.size = w.heap.size + 1 := by rw [hw0]; simp
  have hc : ∀ i, w0.cell? ⟨w.heap.size, i, none⟩ = (#[Value.int .i64 k, .int .i64 s, .int .i64 y, .int .i64 q, .string b] : Array Value)[i]? := fun i => by rw [hw0]; exact World.cell?_alloc_new _ _ _ _
  have HC := Lib.hid hc
  have HB0 := Lib.hid (below_box w (.cells #[.int .i64 k, .int .i64 s, .int .i64 y, .int .i64 q, .string b] 117))
  rw [← hw0] at HB0
  have HW0 := Lib.hid hw0
  clear hX hXs hY hR hRs h1 hw0 hc
  go_enter Tryz.func65, Tryz.ntmps65
  go_wp2_with fail
  rw [← HW0.out]
  refine (HM.out _).mono ?_
  rintro e w1 ⟨rfl, hb1⟩
  have c0 : w1.cell? ⟨w.heap.size, 0, none⟩ = some (.int .i64 k) := (hb1.cell (p := ⟨w.heap.size, 0, none⟩) (by rw [hz0]; exact Nat.lt_succ_self _)).trans (HC.out 0)
  have c1 : w1.cell? ⟨w.heap.size, 1, none⟩ = some (.int .i64 s) := (hb1.cell (p := ⟨w.heap.size, 1, none⟩) (by rw [hz0]; exact Nat.lt_succ_self _)).trans (HC.out 1)
  have c2 : w1.cell? ⟨w.heap.size, 2, none⟩ = some (.int .i64 y) := (hb1.cell (p := ⟨w.heap.size, 2, none⟩) (by rw [hz0]; exact Nat.lt_succ_self _)).trans (HC.out 2)
  have c3 : w1.cell? ⟨w.heap.size, 3, none⟩ = some (.int .i64 q) := (hb1.cell (p := ⟨w.heap.size, 3, none⟩) (by rw [hz0]; exact Nat.lt_succ_self _)).trans (HC.out 3)
  have c4 : w1.cell? ⟨w.heap.size, 4, none⟩ = some (.string b) := (hb1.cell (p := ⟨w.heap.size, 4, none⟩) (by rw [hz0]; exact Nat.lt_succ_self _)).trans (HC.out 4)
  have HB1 : Hid (Below w.heap.size w w1) := Lib.hid (HB0.out.trans (hb1.mono HB0.out.size))
  have hl1 : w.heap.size < w1.heap.size := by have := hb1.size; rw [hz0] at this; exact this
  clear hb1
  go_wp2_with fail
  refine (widths_any _).mono ?_
  rintro e w2 ⟨rfl, hr2, hb2⟩
  have hr2' : Row .i64 w2 (some ⟨w1.heap.size + 1, 0, none⟩) 5 Wd := by simpa using hr2
  have HR2 := Lib.hid hr2'
  have HB2 : Hid (Below w1.heap.size w1 w2) := Lib.hid ((below_box w1 _).trans (hb2.mono (below_box w1 _).size))
  have hn2 := Lib.hid ((row5 .u64 w1 172 _ _ _ _ _ (Nm k s y q b.size) rfl rfl rfl rfl rfl).kept hb2 (Nat.le_refl _))
  clear hr2 hr2' hb2
  go_wp2_with fail
  refine (HR.out _ _ _ _ _ hn2.out HR2.out).mono ?_
  rintro e w3 ⟨rfl, hb3⟩
  have hb13 := HB2.out.trans (hb3.mono HB2.out.size)
  have d4 : w3.cell? ⟨w.heap.size, 4, none⟩ = some (.string b) := (hb13.cell (p := ⟨w.heap.size, 4, none⟩) hl1).trans c4
  have HB3 := Lib.hid (HB1.out.trans (hb13.mono HB1.out.size))
  clear hb13 hb3 c0 c1 c2 c3 c4
  go_wp2_with fail
  refine (HS.out _).mono ?_
  rintro e w4 ⟨rfl, hb4⟩
  have HB4 := Lib.hid (HB3.out.trans (hb4.mono HB3.out.size))
  clear hb4
  go_wp2
  go_ret2
  exact ⟨rfl, HB4.out⟩
end PG
end Go.Proofs.YtdjlflinepefbabGreat

/- What strings.CutPrefix answers for the mark of a page. No condition but that no text is longer than 2^47 bytes. -/
namespace Go.Proofs.YtdjlflinepefbabGreat
open Go.RowKit
namespace PG
open FM
set_option linter.unusedVariables false
set_option linter.unusedSimpArgs false

theorem ext2 (s : ByteArray) : (s.extract 0 2).toList = s.data.toList.take 2 := by
  rw [ByteArray.toList_eq]
  simp [ByteArray.data_extract, List.extract_eq_take_drop]
theorem ext_from (s : ByteArray) (a : Nat) : s.extract a s.size = str (s.data.toList.drop a) := by
  apply ByteArray.ext
  apply Array.toList_inj.1
  simp only [ByteArray.data_extract, Array.toList_extract, List.extract_eq_take_drop, str]
  exact List.take_of_length_le (by rw [List.length_drop]; simp)

theorem has_yes (s : ByteArray) (h : s.data.toList.take 2 = [83, 99]) (w : World) : Calls Tryz.prog 197 #[.string s, .string ⟨#[83, 99]⟩] w fun e w' => e = .returned (.bool true) ∧ w = w' := by
  have hs : 2 ≤ s.size := by
    have := congrArg List.length h
    rw [List.length_take, len_size] at this
    simp at this
    omega
  have hs' : (2 : Int) ≤ (s.size : Int) := by omega
  have e1 : (s.extract 0 2).toList = [83, 99] := by rw [ext2, h]
  clear h
  go_enter Tryz.func197, Tryz.ntmps197
  go_wp2
  go_ret
  exact ⟨rfl, rfl⟩
theorem has_no (s : ByteArray) (h : s.data.toList.take 2 ≠ [83, 99]) (w : World) : Calls Tryz.prog 197 #[.string s, .string ⟨#[83, 99]⟩] w fun e w' => e = .returned (.bool false) ∧ w = w' := by
  by_cases hs : 2 ≤ s.size
  · have hs' : (2 : Int) ≤ (s.size : Int) := by omega
    have e1 : ¬ (s.extract 0 2).toList = [83, 99] := by rw [ext2]; exact h
    clear h
    go_enter Tryz.func197, Tryz.ntmps197
    go_wp2
    go_ret
    refine ⟨?_, rfl⟩
    show Ending.returned (.bool ((s.extract 0 2).toList == [83, 99])) = _
    rw [beq_eq_false_iff_ne.2 e1]
  · have hs' : ¬ (2 : Int) ≤ (s.size : Int) := by omega
    clear h
    go_enter Tryz.func197, Tryz.ntmps197
    go_wp2
    go_ret
    exact ⟨rfl, rfl⟩
theorem cutl_yes (s : ByteArray) (h : s.data.toList.take 2 = [83, 99]) (w : World) : Calls Tryz.prog 182 #[.string s, .string ⟨#[83, 99]⟩] w fun e w' => e = .returned (.tuple #[.string (str (s.data.toList.drop 2)), .bool true]) ∧ w = w' := by
  have HH := Lib.hid (has_yes s h)
  have hs : 2 ≤ s.size := by
    have := congrArg List.length h
    rw [List.length_take, len_size] at this
    simp at this
    omega
  have hs' : (2 : Int) ≤ (s.size : Int) := by omega
  rw [← ext_from s 2]
  clear h
  go_enter Tryz.func182, Tryz.ntmps182
  go_wp2_with fail
  refine (HH.out _).mono ?_
  rintro e w1 ⟨rfl, rfl⟩
  go_wp2
  go_ret2
  exact ⟨rfl, rfl⟩
theorem cutl_no (s : ByteArray) (h : s.data.toList.take 2 ≠ [83, 99]) (w : World) : Calls Tryz.prog 182 #[.string s, .string ⟨#[83, 99]⟩] w fun e w' => e = .returned (.tuple #[.string s, .bool false]) ∧ w = w' := by
  have HH := Lib.hid (has_no s h)
  clear h
  go_enter Tryz.func182, Tryz.ntmps182
  go_wp2_with fail
  refine (HH.out _).mono ?_
  rintro e w1 ⟨rfl, rfl⟩
  go_wp2
  go_ret2
  exact ⟨rfl, rfl⟩
theorem cut_yes (s : ByteArray) (h : s.data.toList.take 2 = [83, 99]) (w : World) : Calls Tryz.prog 146 #[.string s, .string ⟨#[83, 99]⟩] w fun e w' => e = .returned (.tuple #[.string (str (s.data.toList.drop 2)), .bool true]) ∧ w = w' := by
  have HH := Lib.hid (cutl_yes s h)
  clear h
  go_enter Tryz.func146, Tryz.ntmps146
  go_wp2_with fail
  refine (HH.out _).mono ?_
  rintro e w1 ⟨rfl, rfl⟩
  go_wp2
  go_ret2
  exact ⟨rfl, rfl⟩
theorem cut_no (s : ByteArray) (h : s.data.toList.take 2 ≠ [83, 99]) (w : World) : Calls Tryz.prog 146 #[.string s, .string ⟨#[83, 99]⟩] w fun e w' => e = .returned (.tuple #[.string s, .bool false]) ∧ w = w' := by
  have HH := Lib.hid (cutl_no s h)
  clear h
  go_enter Tryz.func146, Tryz.ntmps146
  go_wp2_with fail
  refine (HH.out _).mono ?_
  rintro e w1 ⟨rfl, rfl⟩
  go_wp2
  go_ret2
  exact ⟨rfl, rfl⟩
end PG
end Go.Proofs.YtdjlflinepefbabGreat

/- What scoria/field.Get and the functions that it calls answer, for every text, place and width. No condition. -/
namespace Go.Proofs.YtdjlflinepefbabGreat
open Go.RowKit
namespace FM
set_option linter.unusedVariables false
set_option linter.unusedSimpArgs false

theorem ret_u64 {a b : Int} (h : a = b) : Ending.returned (.int .u64 a) = .returned (.int .u64 b) := by rw [h]
theorem val_one (b : UInt8) : val [b] = b.toNat := by simp [val]
theorem or_step (l : List UInt8) (k : Nat) (b : UInt8) (hl : l.length = k) (hk : k < 8) :
    bits .or .u64 (val l : Int) (IntKind.u64.wrap (IntKind.u64.wrap (b.toNat : Int) * 2 ^ (8 * k))) = (val (l ++ [b]) : Int) := by
  have hb := b.toNat_lt
  have hv := val_lt l
  have hv2 := val_lt (l ++ [b])
  have hlen : (l ++ [b]).length = k + 1 := by simp [hl]
  have he : val (l ++ [b]) = val l + 256 ^ k * b.toNat := by rw [val_append, hl, val_one]
  have h8 : (256 : Nat) ^ (k + 1) ≤ 256 ^ 8 := Nat.pow_le_pow_right (by decide) (by omega)
  have hp : (2 : Nat) ^ (8 * k) = 256 ^ k := by rw [Nat.pow_mul]
  have e1 : IntKind.u64.wrap (b.toNat : Int) = (b.toNat : Int) := IntWalk.u64_in _ ⟨by omega, by omega⟩
  have e2 : ((b.toNat : Int) * 2 ^ (8 * k)) = ((256 ^ k * b.toNat : Nat) : Int) := by
    rw [← hp, Int.natCast_mul, Int.mul_comm]; simp
  rw [hlen] at hv2
  rw [e1, e2, IntWalk.u64_in _ ⟨by omega, by omega⟩, he]
  rw [u64_or_nat _ _ (by omega) (by omega)]
  congr 1
  rw [Nat.or_comm, Nat.add_comm, ← hp]
  exact (Nat.two_pow_add_eq_or_of_lt (by rw [hp, ← hl]; exact hv) _).symm
theorem take_snoc (s : ByteArray) (k : Nat) (h : k < s.size) : s.data.toList.take (k + 1) = s.data.toList.take k ++ [s[k]] := by
  rw [List.take_succ_eq_append_getElem (by simpa using h)]; rfl
theorem take_all (s : ByteArray) (k : Nat) (h : s.size ≤ k) : s.data.toList.take k = s.data.toList := List.take_of_length_le (by simpa using h)
theorem take_len (s : ByteArray) (k : Nat) (h : k ≤ s.size) : (s.data.toList.take k).length = k := by
  rw [List.length_take]; simp only [Array.length_toList]; exact Nat.min_eq_left h

set_option maxHeartbeats 400000 in
theorem number_any (s : ByteArray) (w : World) (hs : s.size ≤ 8) :
    Calls Tryz.prog 198 #[.string s] w fun e w' => e = .returned (.int .u64 (val s.data.toList : Int)) ∧ w = w' := by
  go_enter Tryz.func198, Tryz.ntmps198
  go_wp2
  go_loop [3, 7] (fun n i => ∃ k : Nat, k ≤ s.size ∧ i = .int .i64 k ∧ n = .int .u64 (val (s.data.toList.take k) : Int)) (fun _ i => s.size - (intOf i).toNat)
  case atStart => exact ⟨0, Nat.zero_le _, rfl, rfl⟩
  case round =>
    obtain ⟨k, hk, rfl, rfl⟩ := hrel
    by_cases hlt : k < s.size
    · go_wp2
      go_round
      case rel => exact ⟨k + 1, by omega, by go_num, by rw [or_step _ k _ (take_len s k hk) (by omega), ← take_snoc s k hlt]⟩
      case measure => simp [intOf]; omega
    · go_wp2
      go_ret
      exact ⟨ret_u64 (by rw [take_all s k (by omega)]), rfl⟩

theorem cut_list (s : ByteArray) (a b : Nat) : (s.extract a (a + b)).data.toList = (s.data.toList.drop a).take b := by
  simp [ByteArray.data_extract, Array.toList_extract, List.extract_eq_take_drop]

/-- 's[a:a+b]' of a string. -/
theorem run_cut (s : ByteArray) (a b : Nat) (h : a + b ≤ s.size) (w : World) :
    (Instr.slice 9 (.string s) (some (.int .i64 (a : Int))) (some (.int .i64 ((a : Int) + (b : Int)))) none).run Tryz.prog w = .ok (.string (s.extract a (a + b))) w := by
  rw [run_slice_string w 9 s .i64 .i64 (a : Int) ((a : Int) + (b : Int)) Tryz.underlying9 (by omega) (by omega) (by omega)]
  have e : ((a : Int) + (b : Int)).toNat = a + b := by omega
  rw [e, Int.toNat_natCast]

set_option maxHeartbeats 400000 in
theorem get_arg (s : ByteArray) (at_ wide : Int) (h : (wide < 1 ∨ 8 < wide) ∨ at_ < 0) (w : World) :
    Calls Tryz.prog 183 #[.string s, .int .i64 at_, .int .i64 wide] w fun e w' => e = .returned (.tuple #[.int .u64 0, .int .i64 1]) ∧ w = w' := by
  by_cases hw : wide < 1 ∨ 8 < wide
  · have H := Lib.hid hw
    clear h hw
    go_enter Tryz.func183, Tryz.ntmps183
    go_wp2_with (go_at_call 132; refine (noWidth_yes wide H.out w).mono ?_; rintro e w' ⟨rfl, rfl⟩)
    go_ret2
    exact ⟨rfl, rfl⟩
  · have h1 : 1 ≤ wide := by omega
    have h8 : wide ≤ 8 := by omega
    have hl : at_ < 0 := by omega
    clear h hw
    go_enter Tryz.func183, Tryz.ntmps183
    go_wp2_with (go_at_call 132; refine (noWidth_no wide h1 h8 w).mono ?_; rintro e w' ⟨rfl, rfl⟩)
    go_ret2
    exact ⟨rfl, rfl⟩
set_option maxHeartbeats 400000 in
theorem get_short (s : ByteArray) (hs : s.size ≤ 9223372036854775807) (at_ wide : Int) (h1 : 1 ≤ wide) (h8 : wide ≤ 8) (h0 : 0 ≤ at_) (h : (s.size : Int) - wide < at_) (w : World) :
    Calls Tryz.prog 183 #[.string s, .int .i64 at_, .int .i64 wide] w fun e w' => e = .returned (.tuple #[.int .u64 0, .int .i64 5]) ∧ w = w' := by
  go_enter Tryz.func183, Tryz.ntmps183
  go_wp2_with (go_at_call 132; refine (noWidth_no wide h1 h8 w).mono ?_; rintro e w' ⟨rfl, rfl⟩)
  go_ret2
  exact ⟨rfl, rfl⟩
set_option maxHeartbeats 400000 in
theorem get_ok (s : ByteArray) (hs : s.size ≤ 9223372036854775807) (a wd : Nat) (h1 : 1 ≤ wd) (h8 : wd ≤ 8) (h : a + wd ≤ s.size) (w : World) :
    Calls Tryz.prog 183 #[.string s, .int .i64 (a : Int), .int .i64 (wd : Int)] w fun e w' => e = .returned (.tuple #[.int .u64 (val ((s.data.toList.drop a).take wd) : Int), .int .i64 0]) ∧ w = w' := by
  have hsz : (s.extract a (a + wd)).size ≤ 8 := by simp [ByteArray.size_extract]; omega
  have hsl := run_cut s a wd h
  have HS := Lib.hid hsz
  clear hsz
  go_enter Tryz.func183, Tryz.ntmps183
  go_wp2_with (first | (go_at_call 132; refine (noWidth_no (wd : Int) (by omega) (by omega) w).mono ?_; rintro e w' ⟨rfl, rfl⟩) | (go_at_call 198; refine (number_any _ w HS.out).mono ?_; rintro e w' ⟨rfl, rfl⟩))
  go_ret2
  exact ⟨rfl, rfl⟩
end FM
end Go.Proofs.YtdjlflinepefbabGreat

/- What scoria/field.Take answers, for every text and every list of at most 300 widths. No other condition. -/
namespace Go.Proofs.YtdjlflinepefbabGreat
open Go.RowKit
namespace FM
set_option linter.unusedVariables false
set_option linter.unusedSimpArgs false

theorem info_u64 : (Tryz.prog.info? 172).map (fun i => (i.zero, i.size, i.bytes)) = some (some (.int .u64 0), 1, 8) := by kernel_rfl

/-- Where field k of a row begins. -/
def pos (Z : Nat → Int) : Nat → Nat
  | 0 => 0
  | k + 1 => pos Z k + (Z k).toNat
/-- The number of field k of the row at the front of l. -/
def num (l : List UInt8) (Z : Nat → Int) (k : Nat) : Nat := val ((l.drop (pos Z k)).take (Z k).toNat)
def nums (l : List UInt8) (Z : Nat → Int) (k : Nat) : List Value := (List.range k).map fun i => Value.int .u64 (num l Z i : Int)
theorem nums_succ (l : List UInt8) (Z : Nat → Int) (k : Nat) : nums l Z (k + 1) = nums l Z k ++ [Value.int .u64 (num l Z k : Int)] := by
  simp [nums, List.range_succ]
theorem nums_len (l : List UInt8) (Z : Nat → Int) (k : Nat) : (nums l Z k).length = k := by simp [nums]
theorem pos_mono (Z : Nat → Int) {i j : Nat} (h : i ≤ j) : pos Z i ≤ pos Z j := by
  induction j with
  | zero => obtain rfl : i = 0 := by omega
            exact Nat.le_refl _
  | succ j ih =>
    by_cases e : i = j + 1
    · rw [e]; exact Nat.le_refl _
    · exact Nat.le_trans (ih (by omega)) (Nat.le_add_right _ _)

/-- A new cell of one value reads as that value. -/
theorem one_cell (w : World) (x : Value) (t : TypeId) : ∀ j u, [x][j]? = some u → (w.alloc (.cells #[x] t)).cell? ((⟨w.heap.size, 0, none⟩ : Addr).add j) = some u := by
  intro j u h
  match j, h with
  | 0, h => simp at h; subst h; simp [Addr.add, World.cell?_alloc_new]
  | j + 1, h => simp at h

set_option maxHeartbeats 400000 in
theorem take_arg (s : ByteArray) (a : Option Addr) (len cap : Nat) (Z : Nat → Int) (hl : len ≤ 300) (w : World) (hr : Row .i64 w a len Z) (hbad : ∃ i, i < len ∧ Bad (Z i)) :
    Calls Tryz.prog 147 #[.string s, .slice a len cap] w fun e w' => e = .returned (.tuple #[.slice none 0 0, .string ⟨#[]⟩, .int .i64 1]) ∧ w = w' := by
  have HC := Lib.hid (contains_some a len cap Z hl w hr hbad)
  clear hbad hr
  go_enter Tryz.func147, Tryz.ntmps147
  go_wp2_with fail
  refine HC.out.mono ?_
  rintro e w1 ⟨rfl, rfl⟩
  go_wp2
  go_ret3
  exact ⟨rfl, rfl⟩

/-- How Take ends where J of the len fields stand in the text. -/
def TakeEnd (s : ByteArray) (Z : Nat → Int) (len J : Nat) (w : World) (e : Ending) (w' : World) : Prop :=
  (J = len → ∃ v, e = .returned (.tuple #[v, .string (s.extract (pos Z len) s.size), .int .i64 0]) ∧ w'.ownsRow w.heap.size 172 1 v len (nums s.data.toList Z len) ∧ Below w.heap.size w w') ∧
  (J < len → e = .returned (.tuple #[.slice none 0 0, .string ⟨#[]⟩, .int .i64 5]) ∧ Below w.heap.size w w')

set_option maxHeartbeats 1600000 in
theorem take_good (s : ByteArray) (hs : s.size ≤ 140737488351232) (a : Option Addr) (len cap : Nat) (Z : Nat → Int) (hl : len ≤ 300) (w : World) (hr : Row .i64 w a len Z) (hok : ∀ i, i < len → ¬ Bad (Z i))
    (J : Nat) (hJ : J ≤ len) (hin : pos Z J ≤ s.size) (hout : J < len → s.size < pos Z (J + 1)) :
    Calls Tryz.prog 147 #[.string s, .slice a len cap] w (TakeEnd s Z len J w) := by
  obtain ⟨i0, hi, hz0, hz1, hz2⟩ := info_parts info_u64
  have HC := Lib.hid (contains_none a len cap Z hl w hr hok)
  have HOK := Lib.hid hok
  have HR := Lib.hid hr
  have HO := Lib.hid hout
  clear hok hr hout
  go_enter Tryz.func147, Tryz.ntmps147
  go_wp2_with fail
  refine HC.out.mono ?_
  rintro e w1 ⟨rfl, rfl⟩
  go_wp2
  go_loopw [4, 7, 16] (fun v p i wr => ∃ k q : Nat, k ≤ J ∧ i = .int .i64 k ∧ p = .int .i64 (q : Int) ∧ Hid (q = pos Z k) ∧ q ≤ s.size ∧ wr.ownsRow w.heap.size 172 1 v k (nums s.data.toList Z k) ∧ Below w.heap.size w wr) (fun _ _ i _ => len - (intOf i).toNat)
  case atStart => exact ⟨0, 0, Nat.zero_le _, rfl, rfl, (rfl : 0 = pos Z 0), Nat.zero_le _, World.ownsRow_nil _ _ _ _, Below.refl _ _⟩
  case round =>
    obtain ⟨k, q, hk, rfl, rfl, hq, hqs, hown, hbel⟩ := hrel
    have hsz := hbel.size
    by_cases hlt : k < len
    · rcases HR.out with h0 | ⟨b, off, rfl, hb, hc⟩
      · omega
      · have hck : wr.cell? ⟨b, off + k, none⟩ = some (.int .i64 (Z k)) := by rw [hbel.cell (by simpa using hb)]; exact hc k hlt
        obtain ⟨g1, g8⟩ := not_bad (HOK.out k hlt)
        obtain ⟨n, hn⟩ := Int.eq_ofNat_of_zero_le (show 0 ≤ Z k by omega)
        rw [hn] at hck g1 g8
        have f1 : 1 ≤ n := by omega
        have f8 : n ≤ 8 := by omega
        have hpos : Hid (pos Z (k + 1) = q + n) := by show pos Z k + (Z k).toNat = q + n; rw [hn, hq.out]; rfl
        have HN := Lib.hid hn
        clear hc hn g1 g8
        by_cases hkJ : k < J
        · have hfit : q + n ≤ s.size := by rw [← hpos.out]; exact Nat.le_trans (pos_mono Z hkJ) hin
          go_wp2_with fail
          refine (get_ok s (by omega) q n f1 f8 hfit _).mono ?_
          rintro e w2 ⟨rfl, rfl⟩
          go_wp2_with (at_builtin; refine wpList_append_own _ rfl _ _ 173 rfl w.heap.size 172 i0 (.int .u64 0) 1 8 Tryz.underlying173 hi hz0 hz1 hz2 rfl (by decide) _ _ _ rfl (hown.alloc _) ⟨wr.heap.size, 0, none⟩ 1 1 [.int .u64 (val ((s.data.toList.drop q).take n) : Int)] rfl rfl ?c1 ?c2 ?c3 ?c4 ?c5 ?_)
          case c1 => exact one_cell _ _ _
          case c2 => intro u hu; simp at hu; subst hu; rfl
          case c3 => unfold maxLen; omega
          case c4 => omega
          case c5 => simp; omega
          intro v' w1 hown' hgrow _
          have hnum : num s.data.toList Z k = val ((s.data.toList.drop q).take n) := by unfold num; rw [← hq.out, HN.out]; rfl
          rw [← hnum, ← nums_succ] at hown'
          have hbel' : Below w.heap.size w w1 := (hbel.alloc hsz _).grown hgrow (by simp; omega) (fun j hj => (hown.lt j hj).1)
          have HOw := Lib.hid hown'
          clear hown' hown hgrow hnum
          go_wp2
          go_roundw
          case rel => exact ⟨k + 1, q + n, by omega, by go_num, by go_num, hpos.out.symm, hfit, HOw.out, hbel'⟩
          case measure => simp [intOf]; omega
        · obtain rfl : k = J := by omega
          have hfit : s.size < q + n := by rw [← hpos.out]; exact HO.out hlt
          go_wp2_with fail
          refine (get_short s (by omega) (q : Int) (n : Int) (by omega) (by omega) (by omega) (by omega) _).mono ?_
          rintro e w2 ⟨rfl, rfl⟩
          go_wp2
          go_ret3
          exact ⟨fun h => by omega, fun _ => ⟨rfl, hbel⟩⟩
    · obtain rfl : k = len := by omega
      obtain rfl : J = k := by omega
      have hq0 : (0 : Int) ≤ (q : Int) := by omega
      have hq1 : (q : Int) ≤ (s.size : Int) := by omega
      have HQ := Lib.hid hq.out
      go_wp2
      go_quiet (fail)
      go_wp2
      go_ret3
      exact ⟨fun _ => ⟨_, by rw [← HQ.out]; rfl, hown, below_drewN hbel _⟩, fun h => by omega⟩

/-- How many of the fields stand in a text of so many bytes. -/
theorem place_of (Z : Nat → Int) (len size : Nat) : ∃ J, J ≤ len ∧ pos Z J ≤ size ∧ (J < len → size < pos Z (J + 1)) := by
  induction len with
  | zero => exact ⟨0, Nat.le_refl _, Nat.zero_le _, fun h => by omega⟩
  | succ n ih =>
    obtain ⟨J, h1, h2, h3⟩ := ih
    by_cases hJ : J < n
    · exact ⟨J, by omega, h2, fun _ => h3 hJ⟩
    · obtain rfl : J = n := by omega
      by_cases hf : pos Z (J + 1) ≤ size
      · exact ⟨J + 1, Nat.le_refl _, hf, fun h => by omega⟩
      · exact ⟨J, by omega, h2, fun _ => by omega⟩
end FM
end Go.Proofs.YtdjlflinepefbabGreat
