/- What scoriaref05.May, put, get and Name answer. Conditions: those that each theorem names. -/
import Derived.Test.YtolcacmkageidaaPgB
import Derived.Test.YtolcacmkageidaaRefPut
import Derived.Test.YtolcacmkageidaaRefGet
namespace Go.Proofs.Ytolcacmkageidaa
open Go.RowKit
namespace PG
open FM
set_option linter.unusedVariables false
set_option linter.unusedSimpArgs false

set_option maxHeartbeats 2000000 in
theorem rmay_yes (p : Pg) (h : May p) (w : World) : Calls Try.prog 22 #[.agg #[.int .i64 p.kind, .int .i64 p.space, .int .i64 p.key, .int .i64 p.seq, .string p.body]] w fun e w' => e = .returned (.bool true) ∧ Below w.heap.size w w' := by
  obtain ⟨k, s, y, q, b⟩ := p
  obtain ⟨⟨k1, k2⟩, ⟨s1, s2⟩, ⟨y1, y2⟩, ⟨q1, q2⟩, hb⟩ := h
  have k3 : 1 ≤ k := k1
  have k4 : k ≤ 4 := k2
  have s3 : 0 ≤ s := s1
  have s4 : s ≤ 65535 := s2
  have y3 : 0 ≤ y := y1
  have y4 : y ≤ 4294967295 := y2
  have q3 : 0 ≤ q := q1
  have q4 : q ≤ 281474976710655 := q2
  have b3 : (b.size : Int) ≤ 100 := by have : b.size ≤ 100 := hb; omega
  clear k1 k2 s1 s2 y1 y2 q1 q2 hb
  go_enter Try.func22, Try.ntmps22
  go_wp2
  go_ret
  exact ⟨rfl, below_box _ _⟩
set_option maxHeartbeats 4000000 in
theorem rmay_no (p : Pg) (h : ¬ May p) (w : World) : Calls Try.prog 22 #[.agg #[.int .i64 p.kind, .int .i64 p.space, .int .i64 p.key, .int .i64 p.seq, .string p.body]] w fun e w' => e = .returned (.bool false) ∧ Below w.heap.size w w' := by
  obtain ⟨k, s, y, q, b⟩ := p
  have HH : Hid (¬ ((1 ≤ k ∧ k ≤ 4) ∧ (0 ≤ s ∧ s ≤ 65535) ∧ (0 ≤ y ∧ y ≤ 4294967295) ∧ (0 ≤ q ∧ q ≤ 281474976710655) ∧ b.size ≤ 100)) := Lib.hid h
  clear h
  go_enter Try.func22, Try.ntmps22
  go_wp2
  all_goals go_ret
  · have hb : ¬ (b.size : Int) ≤ 100 := fun h6 => HH.out ⟨⟨by assumption, by assumption⟩, ⟨by assumption, by assumption⟩, ⟨by assumption, by assumption⟩, ⟨by assumption, by assumption⟩, by omega⟩
    refine ⟨?_, below_box _ _⟩
    show Ending.returned (.bool (decide ((b.size : Int) ≤ 100))) = _
    rw [decide_eq_false hb]
  all_goals exact ⟨rfl, below_box _ _⟩

/-- A number's field. -/
theorem rput1 (n wd : Nat) (hn : n < 18446744073709551616) (h1 : 1 ≤ wd) (h8 : wd ≤ 8) (hf : n < 256 ^ wd) (w : World) :
    Calls Try.prog 24 #[.int .i64 (n : Int), .int .i64 (wd : Int)] w fun e w' => e = .returned (.string (str (fb n wd))) ∧ Below w.heap.size w w' := by
  have HP := Lib.hid (rput_ok n wd hn h1 h8 hf)
  have e1 : IntKind.u64.wrap (n : Int) = (n : Int) := IntWalk.u64_in _ ⟨by omega, by omega⟩
  clear hf
  go_enter Try.func24, Try.ntmps24
  go_wp2_with fail
  refine (HP.out _).mono ?_
  rintro e w1 ⟨rfl, hb1⟩
  go_wp2
  go_ret
  exact ⟨rfl, hb1⟩
theorem rget1 (s : ByteArray) (hs : s.size ≤ 140737488355328) (a wd : Nat) (h1 : 1 ≤ wd) (h8 : wd ≤ 6) (h : a + wd ≤ s.size) (w : World) :
    Calls Try.prog 28 #[.string s, .int .i64 (a : Int), .int .i64 (wd : Int)] w fun e w' => e = .returned (.int .i64 (val ((s.data.toList.drop a).take wd) : Int)) ∧ w = w' := by
  have HP := Lib.hid (rget_ok s (by omega) a wd h1 (by omega) h)
  have hv := val_lt ((s.data.toList.drop a).take wd)
  have hl : ((s.data.toList.drop a).take wd).length ≤ 6 := by rw [List.length_take]; omega
  have hv2 : val ((s.data.toList.drop a).take wd) < 256 ^ 6 := Nat.lt_of_lt_of_le hv (Nat.pow_le_pow_right (by decide) hl)
  obtain ⟨v, hvv⟩ : ∃ v, v = val ((s.data.toList.drop a).take wd) := ⟨_, rfl⟩
  rw [← hvv] at HP hv2 ⊢
  have e1 : IntKind.i64.wrap (v : Int) = (v : Int) := IntWalk.i64_in _ ⟨by omega, by omega⟩
  clear hv hl hvv
  go_enter Try.func28, Try.ntmps28
  go_wp2_with fail
  refine (HP.out _).mono ?_
  rintro e w1 ⟨rfl, rfl⟩
  go_wp2
  go_ret
  exact ⟨rfl, rfl⟩
set_option maxHeartbeats 1000000 in
theorem rname_any (k : Int) (w : World) : Calls Try.prog 17 #[.int .i64 k] w fun e w' => e = .returned (.string (nm k)) ∧ Below w.heap.size w w' := by
  by_cases h : 1 ≤ k ∧ k ≤ 4
  · obtain rfl | rfl | rfl | rfl : k = 1 ∨ k = 2 ∨ k = 3 ∨ k = 4 := by omega
    all_goals clear h
    all_goals go_enter Try.func17, Try.ntmps17
    all_goals go_wp2
    all_goals go_ret
    all_goals exact ⟨rfl, below_box _ _⟩
  · rw [nm_bad h]
    have HH := Lib.hid h
    clear h
    go_enter Try.func17, Try.ntmps17
    go_wp2
    all_goals go_ret
    all_goals exact ⟨rfl, Below.refl _ _⟩
end PG
end Go.Proofs.Ytolcacmkageidaa
