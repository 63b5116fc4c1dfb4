/- The law LeafHalves holds: its Go text answers true for every input, and leaves its arguments as they were. No condition beyond the statement's own. -/
import Derived.Test.YtmndbdkodijlbaaRows
import Derived.Test.YtmndbdkodijlbaaLfQ
import Derived.Test.YtmndbdkodijlbaaOpen9
import Derived.Test.YtmndbdkodijlbaaOpen
import Derived.ProofKit
import Derived.OpenShut
import Derived.ShutString
import Derived.ChangeOld
import Derived.Below
import Derived.SizedLaws
namespace Go.Proofs.Ytmndbdkodijlbaa.leafHalves
open Go.ChangeShapes Go.WideShapes Go.ChangeAt Go.RowKit
open Go.ChangeMaps (open_string shut_string)
open Go.Proofs.Ytmndbdkodijlbaa.FM
set_option linter.unusedVariables false
set_option linter.unusedSimpArgs false

theorem own : ownKnob Try.prog.godebug = none := by kernel_rfl
theorem laidOut : laidOutB Try.prog = true := by kernel_rfl

open MM EX OP LF FM

/-- The place at which a list of n is cut, from the least one on. -/
theorem half_place (a : Int) (n m : Nat) (d : Int) (hd : d = (n : Int) - (2 * (m : Int) - 1)) (hn : n ≤ 8) (hp : 2 * m ≤ n) (hm : 1 ≤ m) : ∃ k : Nat, wrap64 ((m : Int) + (wrap64 (wrap64 (a.tmod d + (n : Int)) - (2 * (m : Int) - 1))).tmod d) = (k : Int) ∧ m ≤ k ∧ k + m ≤ n := by
  have hp : (0 : Int) < d := by omega
  have h1 := Int.tmod_lt_of_pos a hp
  have h2 := Int.lt_tmod_of_pos a hp
  generalize a.tmod d = q at h1 h2 ⊢
  have e1 : wrap64 (q + (n : Int)) = q + (n : Int) := IntWalk.wrap64_in _ ⟨by omega, by omega⟩
  have e2 : wrap64 (q + (n : Int) - (2 * (m : Int) - 1)) = q + (n : Int) - (2 * (m : Int) - 1) := IntWalk.wrap64_in _ ⟨by omega, by omega⟩
  rw [e1, e2, Int.tmod_eq_emod_of_nonneg (by omega)]
  have h3 := Int.emod_nonneg (q + (n : Int) - (2 * (m : Int) - 1)) (by omega : d ≠ 0)
  have h4 := Int.emod_lt_of_pos (q + (n : Int) - (2 * (m : Int) - 1)) hp
  generalize (q + (n : Int) - (2 * (m : Int) - 1)) % d = r at h3 h4 ⊢
  rw [IntWalk.wrap64_in _ ⟨by omega, by omega⟩]
  refine ⟨((m : Int) + r).toNat, ?_, ?_, ?_⟩ <;> omega
theorem leafy_part {L : List EX.Ext} (h : Leafy L) {i : Nat} (h1 : 1 ≤ i) (h2 : i + 1 ≤ L.length) : Leafy (L.take i) ∧ Leafy (L.drop i) := by
  have h8 := h.1.2
  refine ⟨⟨by rw [List.length_take]; omega, h.2.sub (List.take_sublist _ _)⟩, ⟨by rw [List.length_drop]; omega, h.2.sub (List.drop_sublist _ _)⟩⟩
theorem kidy_part {K : List LF.Kid} (h : Kidy K) {i : Nat} (h1 : 2 ≤ i) (h2 : i + 2 ≤ K.length) : Kidy (K.take i) ∧ Kidy (K.drop i) := by
  have h8 := h.1.2
  have tk : ∀ j, j < i → (K.take i).getD j default = K.getD j default := by
    intro j hj
    rw [List.getD_eq_getElem?_getD, List.getD_eq_getElem?_getD, List.getElem?_take_of_lt hj]
  have dr : ∀ j, (K.drop i).getD j default = K.getD (i + j) default := by
    intro j
    rw [List.getD_eq_getElem?_getD, List.getD_eq_getElem?_getD, List.getElem?_drop]
  refine ⟨⟨by rw [List.length_take]; omega, fun j hj => ?_⟩, ⟨by rw [List.length_drop]; omega, fun j hj => ?_⟩⟩
  · rw [List.length_take] at hj
    obtain ⟨o1, o2, o3⟩ := h.2 j (by omega)
    refine ⟨by rw [tk j (by omega)]; exact o1, fun h0 => by rw [tk j (by omega), tk (j - 1) (by omega)]; exact o2 h0, fun k hk => by rw [tk j (by omega), tk k (by omega)]; exact o3 k hk⟩
  · rw [List.length_drop] at hj
    obtain ⟨o1, o2, o3⟩ := h.2 (i + j) (by omega)
    refine ⟨by rw [dr]; exact o1, fun h0 => by rw [dr, dr, show i + (j - 1) = i + j - 1 from by omega]; exact o2 (by omega), fun k hk => by rw [dr, dr]; exact o3 (i + k) (by omega)⟩
set_option maxHeartbeats 1000000 in
theorem big (a0 : Option Addr) (len0 cap0 : Nat) (a1 : Option Addr) (len1 cap1 : Nat) (a2 : Int) (w : World) (hbig : ¬ (len0 ≤ 60 ∧ len1 ≤ 60)) :
    Calls Try.prog 8 #[.slice a0 len0 cap0, .slice a1 len1 cap1, .int .i64 a2] w fun e w' => e = .returned (.bool true) ∧ Below w.heap.size w w' := by
  by_cases h0 : 60 < len0
  · have h0' : (60 : Int) < (len0 : Int) := by omega
    clear hbig h0
    go_enter Try.func8, Try.ntmps8
    go_wp2_with fail
    refine (LF.awake_any _).mono ?_
    rintro r w2 ⟨rfl, hb2⟩
    go_wp2
    go_ret
    exact ⟨rfl, hb2⟩
  · have h0' : decide ((60 : Int) < (len0 : Int)) = false := decide_eq_false (by omega)
    have h1' : (60 : Int) < (len1 : Int) := by omega
    clear hbig h0
    go_enter Try.func8, Try.ntmps8
    go_wp2_with fail
    refine (LF.awake_any _).mono ?_
    rintro r w2 ⟨rfl, hb2⟩
    go_wp2
    go_ret
    exact ⟨rfl, hb2⟩
set_option maxHeartbeats 8000000 in
theorem h_no_no (a0 : Option Addr) (len0 cap0 : Nat) (a1 : Option Addr) (len1 cap1 : Nat) (a2 : Int) (w : World) (hm0 : len0 ≤ 60) (hm1 : len1 ≤ 60)
    (HE1 : Hid (∀ w1, Below w.heap.size w w1 → Calls Try.prog 10 #[.slice a0 len0 cap0] w1 fun r w' => r = .returned (.tuple #[.string ⟨#[]⟩, .int .i64 1]) ∧ Below w1.heap.size w1 w'))
    (HK1 : Hid (∀ w1, Below w.heap.size w w1 → Calls Try.prog 13 #[.slice a1 len1 cap1] w1 fun r w' => r = .returned (.tuple #[.string ⟨#[]⟩, .int .i64 1]) ∧ Below w1.heap.size w1 w')) :
    Calls Try.prog 8 #[.slice a0 len0 cap0, .slice a1 len1 cap1, .int .i64 a2] w fun e w' => e = .returned (.bool true) ∧ Below w.heap.size w w' := by
  have hf0 : decide ((60 : Int) < (len0 : Int)) = false := decide_eq_false (by omega)
  have hf1 : decide ((60 : Int) < (len1 : Int)) = false := decide_eq_false (by omega)
  have B0 : Hid (Below w.heap.size w w) := Lib.hid (Below.refl _ _)
  clear hm0 hm1
  go_enter Try.func8, Try.ntmps8
  go_wp2_with fail
  refine (HE1.out _ B0.out).mono ?_
  rintro r u0 ⟨rfl, hb1⟩
  have BE := Lib.hid (bkept B0.out hb1)
  clear hb1
  go_wp2_with fail
  refine (HK1.out _ BE.out).mono ?_
  rintro r u1 ⟨rfl, hb1⟩
  have BK := Lib.hid (bkept BE.out hb1)
  clear hb1
  go_wp2_with fail
  refine (LF.awake_any _).mono ?_
  rintro r z ⟨rfl, hb2⟩
  have BZ := Lib.hid (bkept BK.out hb2)
  clear hb2
  go_wp2
  go_ret
  exact ⟨rfl, BZ.out⟩
set_option maxHeartbeats 8000000 in
theorem h_no_ok (a0 : Option Addr) (len0 cap0 : Nat) (a1 : Option Addr) (len1 cap1 : Nat) (a2 : Int) (w : World) (hm0 : len0 ≤ 60) (hm1 : len1 ≤ 60)
    (HE1 : Hid (∀ w1, Below w.heap.size w w1 → Calls Try.prog 10 #[.slice a0 len0 cap0] w1 fun r w' => r = .returned (.tuple #[.string ⟨#[]⟩, .int .i64 1]) ∧ Below w1.heap.size w1 w'))
    (S1 : ByteArray) (HK1 : Hid (∀ w1, Below w.heap.size w w1 → Calls Try.prog 13 #[.slice a1 len1 cap1] w1 fun r w' => r = .returned (.tuple #[.string S1, .int .i64 0]) ∧ Below w1.heap.size w1 w'))
    (hs1 : ¬ 3 < len1) :
    Calls Try.prog 8 #[.slice a0 len0 cap0, .slice a1 len1 cap1, .int .i64 a2] w fun e w' => e = .returned (.bool true) ∧ Below w.heap.size w w' := by
  have hf0 : decide ((60 : Int) < (len0 : Int)) = false := decide_eq_false (by omega)
  have hf1 : decide ((60 : Int) < (len1 : Int)) = false := decide_eq_false (by omega)
  have B0 : Hid (Below w.heap.size w w) := Lib.hid (Below.refl _ _)
  have hx1 : decide ((3 : Int) < (len1 : Int)) = false := decide_eq_false (by omega)
  clear hm0 hm1 hs1
  go_enter Try.func8, Try.ntmps8
  go_wp2_with fail
  refine (HE1.out _ B0.out).mono ?_
  rintro r u0 ⟨rfl, hb1⟩
  have BE := Lib.hid (bkept B0.out hb1)
  clear hb1
  go_wp2_with fail
  refine (HK1.out _ BE.out).mono ?_
  rintro r u1 ⟨rfl, hb1⟩
  have BK := Lib.hid (bkept BE.out hb1)
  clear hb1
  go_wp2_with fail
  refine (LF.awake_any _).mono ?_
  rintro r z ⟨rfl, hb2⟩
  have BZ := Lib.hid (bkept BK.out hb2)
  clear hb2
  go_wp2
  go_ret
  exact ⟨rfl, BZ.out⟩
set_option maxHeartbeats 8000000 in
theorem h_no_two (a0 : Option Addr) (len0 cap0 : Nat) (a1 : Option Addr) (len1 cap1 : Nat) (a2 : Int) (w : World) (hm0 : len0 ≤ 60) (hm1 : len1 ≤ 60)
    (HE1 : Hid (∀ w1, Below w.heap.size w w1 → Calls Try.prog 10 #[.slice a0 len0 cap0] w1 fun r w' => r = .returned (.tuple #[.string ⟨#[]⟩, .int .i64 1]) ∧ Below w1.heap.size w1 w'))
    (S1 : ByteArray) (HK1 : Hid (∀ w1, Below w.heap.size w w1 → Calls Try.prog 13 #[.slice a1 len1 cap1] w1 fun r w' => r = .returned (.tuple #[.string S1, .int .i64 0]) ∧ Below w1.heap.size w1 w'))
    (hs1 : 3 < len1) (k1 : Nat) (hk1 : wrap64 ((2 : Int) + (wrap64 (wrap64 (a2.tmod ((len1 : Int) - 3) + (len1 : Int)) - 3)).tmod ((len1 : Int) - 3)) = (k1 : Int)) (hl1 : k1 < len1) (hc1 : len1 ≤ cap1)
    (b1 o1 : Nat) (ha1 : a1 = some ⟨b1, o1, none⟩)
    (T1 : ByteArray) (HK2 : Hid (∀ w1, Below w.heap.size w w1 → Calls Try.prog 13 #[.slice (some ⟨b1, o1, none⟩) k1 cap1] w1 fun r w' => r = .returned (.tuple #[.string T1, .int .i64 0]) ∧ Below w1.heap.size w1 w'))
    (U1 : ByteArray) (HK3 : Hid (∀ w1, Below w.heap.size w w1 → Calls Try.prog 13 #[.slice (some ⟨b1, o1 + k1 * 2, none⟩) (len1 - k1) (cap1 - k1)] w1 fun r w' => r = .returned (.tuple #[.string U1, .int .i64 0]) ∧ Below w1.heap.size w1 w')) :
    Calls Try.prog 8 #[.slice a0 len0 cap0, .slice a1 len1 cap1, .int .i64 a2] w fun e w' => e = .returned (.bool true) ∧ Below w.heap.size w w' := by
  have hf0 : decide ((60 : Int) < (len0 : Int)) = false := decide_eq_false (by omega)
  have hf1 : decide ((60 : Int) < (len1 : Int)) = false := decide_eq_false (by omega)
  have B0 : Hid (Below w.heap.size w w) := Lib.hid (Below.refl _ _)
  have hx1 : (3 : Int) < (len1 : Int) := by omega
  have hd1 : wrap64 ((len1 : Int) - 3) = (len1 : Int) - 3 := IntWalk.wrap64_in _ ⟨by omega, by omega⟩
  have hz1 : ¬ ((len1 : Int) - 3 = 0) := by omega
  have hl1' : (k1 : Int) ≤ (len1 : Int) := by omega
  have hc1' : (k1 : Int) ≤ (cap1 : Int) := by omega
  have hcn1 : ¬ (cap1 = k1) := by omega
  have hcl1 : (len1 : Int) ≤ (cap1 : Int) := by omega
  subst ha1
  clear hm0 hm1 hs1 hl1 hc1
  go_enter Try.func8, Try.ntmps8
  go_wp2_with fail
  refine (HE1.out _ B0.out).mono ?_
  rintro r u0 ⟨rfl, hb1⟩
  have BE := Lib.hid (bkept B0.out hb1)
  clear hb1
  go_wp2_with fail
  refine (HK1.out _ BE.out).mono ?_
  rintro r u1 ⟨rfl, hb1⟩
  have BK := Lib.hid (bkept BE.out hb1)
  clear hb1
  go_wp2_with fail
  refine (HK2.out _ BK.out).mono ?_
  rintro r v1 ⟨rfl, hb1⟩
  have CK := Lib.hid (bkept BK.out hb1)
  clear hb1
  go_wp2_with fail
  refine (HK3.out _ CK.out).mono ?_
  rintro r y1 ⟨rfl, hb1⟩
  have DK := Lib.hid (bkept CK.out hb1)
  clear hb1
  go_wp2_with fail
  refine (LF.awake_any _).mono ?_
  rintro r z ⟨rfl, hb2⟩
  have BZ := Lib.hid (bkept DK.out hb2)
  clear hb2
  go_wp2
  go_ret
  exact ⟨rfl, BZ.out⟩
set_option maxHeartbeats 8000000 in
theorem h_ok_no (a0 : Option Addr) (len0 cap0 : Nat) (a1 : Option Addr) (len1 cap1 : Nat) (a2 : Int) (w : World) (hm0 : len0 ≤ 60) (hm1 : len1 ≤ 60)
    (S0 : ByteArray) (HE1 : Hid (∀ w1, Below w.heap.size w w1 → Calls Try.prog 10 #[.slice a0 len0 cap0] w1 fun r w' => r = .returned (.tuple #[.string S0, .int .i64 0]) ∧ Below w1.heap.size w1 w'))
    (hs0 : ¬ 1 < len0)
    (HK1 : Hid (∀ w1, Below w.heap.size w w1 → Calls Try.prog 13 #[.slice a1 len1 cap1] w1 fun r w' => r = .returned (.tuple #[.string ⟨#[]⟩, .int .i64 1]) ∧ Below w1.heap.size w1 w')) :
    Calls Try.prog 8 #[.slice a0 len0 cap0, .slice a1 len1 cap1, .int .i64 a2] w fun e w' => e = .returned (.bool true) ∧ Below w.heap.size w w' := by
  have hf0 : decide ((60 : Int) < (len0 : Int)) = false := decide_eq_false (by omega)
  have hf1 : decide ((60 : Int) < (len1 : Int)) = false := decide_eq_false (by omega)
  have B0 : Hid (Below w.heap.size w w) := Lib.hid (Below.refl _ _)
  have hx0 : decide ((1 : Int) < (len0 : Int)) = false := decide_eq_false (by omega)
  clear hm0 hm1 hs0
  go_enter Try.func8, Try.ntmps8
  go_wp2_with fail
  refine (HE1.out _ B0.out).mono ?_
  rintro r u0 ⟨rfl, hb1⟩
  have BE := Lib.hid (bkept B0.out hb1)
  clear hb1
  go_wp2_with fail
  refine (HK1.out _ BE.out).mono ?_
  rintro r u1 ⟨rfl, hb1⟩
  have BK := Lib.hid (bkept BE.out hb1)
  clear hb1
  go_wp2_with fail
  refine (LF.awake_any _).mono ?_
  rintro r z ⟨rfl, hb2⟩
  have BZ := Lib.hid (bkept BK.out hb2)
  clear hb2
  go_wp2
  go_ret
  exact ⟨rfl, BZ.out⟩
set_option maxHeartbeats 8000000 in
theorem h_ok_ok (a0 : Option Addr) (len0 cap0 : Nat) (a1 : Option Addr) (len1 cap1 : Nat) (a2 : Int) (w : World) (hm0 : len0 ≤ 60) (hm1 : len1 ≤ 60)
    (S0 : ByteArray) (HE1 : Hid (∀ w1, Below w.heap.size w w1 → Calls Try.prog 10 #[.slice a0 len0 cap0] w1 fun r w' => r = .returned (.tuple #[.string S0, .int .i64 0]) ∧ Below w1.heap.size w1 w'))
    (hs0 : ¬ 1 < len0)
    (S1 : ByteArray) (HK1 : Hid (∀ w1, Below w.heap.size w w1 → Calls Try.prog 13 #[.slice a1 len1 cap1] w1 fun r w' => r = .returned (.tuple #[.string S1, .int .i64 0]) ∧ Below w1.heap.size w1 w'))
    (hs1 : ¬ 3 < len1) :
    Calls Try.prog 8 #[.slice a0 len0 cap0, .slice a1 len1 cap1, .int .i64 a2] w fun e w' => e = .returned (.bool true) ∧ Below w.heap.size w w' := by
  have hf0 : decide ((60 : Int) < (len0 : Int)) = false := decide_eq_false (by omega)
  have hf1 : decide ((60 : Int) < (len1 : Int)) = false := decide_eq_false (by omega)
  have B0 : Hid (Below w.heap.size w w) := Lib.hid (Below.refl _ _)
  have hx0 : decide ((1 : Int) < (len0 : Int)) = false := decide_eq_false (by omega)
  have hx1 : decide ((3 : Int) < (len1 : Int)) = false := decide_eq_false (by omega)
  clear hm0 hm1 hs0 hs1
  go_enter Try.func8, Try.ntmps8
  go_wp2_with fail
  refine (HE1.out _ B0.out).mono ?_
  rintro r u0 ⟨rfl, hb1⟩
  have BE := Lib.hid (bkept B0.out hb1)
  clear hb1
  go_wp2_with fail
  refine (HK1.out _ BE.out).mono ?_
  rintro r u1 ⟨rfl, hb1⟩
  have BK := Lib.hid (bkept BE.out hb1)
  clear hb1
  go_wp2_with fail
  refine (LF.awake_any _).mono ?_
  rintro r z ⟨rfl, hb2⟩
  have BZ := Lib.hid (bkept BK.out hb2)
  clear hb2
  go_wp2
  go_ret
  exact ⟨rfl, BZ.out⟩
set_option maxHeartbeats 8000000 in
theorem h_ok_two (a0 : Option Addr) (len0 cap0 : Nat) (a1 : Option Addr) (len1 cap1 : Nat) (a2 : Int) (w : World) (hm0 : len0 ≤ 60) (hm1 : len1 ≤ 60)
    (S0 : ByteArray) (HE1 : Hid (∀ w1, Below w.heap.size w w1 → Calls Try.prog 10 #[.slice a0 len0 cap0] w1 fun r w' => r = .returned (.tuple #[.string S0, .int .i64 0]) ∧ Below w1.heap.size w1 w'))
    (hs0 : ¬ 1 < len0)
    (S1 : ByteArray) (HK1 : Hid (∀ w1, Below w.heap.size w w1 → Calls Try.prog 13 #[.slice a1 len1 cap1] w1 fun r w' => r = .returned (.tuple #[.string S1, .int .i64 0]) ∧ Below w1.heap.size w1 w'))
    (hs1 : 3 < len1) (k1 : Nat) (hk1 : wrap64 ((2 : Int) + (wrap64 (wrap64 (a2.tmod ((len1 : Int) - 3) + (len1 : Int)) - 3)).tmod ((len1 : Int) - 3)) = (k1 : Int)) (hl1 : k1 < len1) (hc1 : len1 ≤ cap1)
    (b1 o1 : Nat) (ha1 : a1 = some ⟨b1, o1, none⟩)
    (T1 : ByteArray) (HK2 : Hid (∀ w1, Below w.heap.size w w1 → Calls Try.prog 13 #[.slice (some ⟨b1, o1, none⟩) k1 cap1] w1 fun r w' => r = .returned (.tuple #[.string T1, .int .i64 0]) ∧ Below w1.heap.size w1 w'))
    (U1 : ByteArray) (HK3 : Hid (∀ w1, Below w.heap.size w w1 → Calls Try.prog 13 #[.slice (some ⟨b1, o1 + k1 * 2, none⟩) (len1 - k1) (cap1 - k1)] w1 fun r w' => r = .returned (.tuple #[.string U1, .int .i64 0]) ∧ Below w1.heap.size w1 w')) :
    Calls Try.prog 8 #[.slice a0 len0 cap0, .slice a1 len1 cap1, .int .i64 a2] w fun e w' => e = .returned (.bool true) ∧ Below w.heap.size w w' := by
  have hf0 : decide ((60 : Int) < (len0 : Int)) = false := decide_eq_false (by omega)
  have hf1 : decide ((60 : Int) < (len1 : Int)) = false := decide_eq_false (by omega)
  have B0 : Hid (Below w.heap.size w w) := Lib.hid (Below.refl _ _)
  have hx0 : decide ((1 : Int) < (len0 : Int)) = false := decide_eq_false (by omega)
  have hx1 : (3 : Int) < (len1 : Int) := by omega
  have hd1 : wrap64 ((len1 : Int) - 3) = (len1 : Int) - 3 := IntWalk.wrap64_in _ ⟨by omega, by omega⟩
  have hz1 : ¬ ((len1 : Int) - 3 = 0) := by omega
  have hl1' : (k1 : Int) ≤ (len1 : Int) := by omega
  have hc1' : (k1 : Int) ≤ (cap1 : Int) := by omega
  have hcn1 : ¬ (cap1 = k1) := by omega
  have hcl1 : (len1 : Int) ≤ (cap1 : Int) := by omega
  subst ha1
  clear hm0 hm1 hs0 hs1 hl1 hc1
  go_enter Try.func8, Try.ntmps8
  go_wp2_with fail
  refine (HE1.out _ B0.out).mono ?_
  rintro r u0 ⟨rfl, hb1⟩
  have BE := Lib.hid (bkept B0.out hb1)
  clear hb1
  go_wp2_with fail
  refine (HK1.out _ BE.out).mono ?_
  rintro r u1 ⟨rfl, hb1⟩
  have BK := Lib.hid (bkept BE.out hb1)
  clear hb1
  go_wp2_with fail
  refine (HK2.out _ BK.out).mono ?_
  rintro r v1 ⟨rfl, hb1⟩
  have CK := Lib.hid (bkept BK.out hb1)
  clear hb1
  go_wp2_with fail
  refine (HK3.out _ CK.out).mono ?_
  rintro r y1 ⟨rfl, hb1⟩
  have DK := Lib.hid (bkept CK.out hb1)
  clear hb1
  go_wp2_with fail
  refine (LF.awake_any _).mono ?_
  rintro r z ⟨rfl, hb2⟩
  have BZ := Lib.hid (bkept DK.out hb2)
  clear hb2
  go_wp2
  go_ret
  exact ⟨rfl, BZ.out⟩
set_option maxHeartbeats 8000000 in
theorem h_two_no (a0 : Option Addr) (len0 cap0 : Nat) (a1 : Option Addr) (len1 cap1 : Nat) (a2 : Int) (w : World) (hm0 : len0 ≤ 60) (hm1 : len1 ≤ 60)
    (S0 : ByteArray) (HE1 : Hid (∀ w1, Below w.heap.size w w1 → Calls Try.prog 10 #[.slice a0 len0 cap0] w1 fun r w' => r = .returned (.tuple #[.string S0, .int .i64 0]) ∧ Below w1.heap.size w1 w'))
    (hs0 : 1 < len0) (k0 : Nat) (hk0 : wrap64 ((1 : Int) + (wrap64 (wrap64 (a2.tmod ((len0 : Int) - 1) + (len0 : Int)) - 1)).tmod ((len0 : Int) - 1)) = (k0 : Int)) (hl0 : k0 < len0) (hc0 : len0 ≤ cap0)
    (b0 o0 : Nat) (ha0 : a0 = some ⟨b0, o0, none⟩)
    (T0 : ByteArray) (HE2 : Hid (∀ w1, Below w.heap.size w w1 → Calls Try.prog 10 #[.slice (some ⟨b0, o0, none⟩) k0 cap0] w1 fun r w' => r = .returned (.tuple #[.string T0, .int .i64 0]) ∧ Below w1.heap.size w1 w'))
    (U0 : ByteArray) (HE3 : Hid (∀ w1, Below w.heap.size w w1 → Calls Try.prog 10 #[.slice (some ⟨b0, o0 + k0 * 4, none⟩) (len0 - k0) (cap0 - k0)] w1 fun r w' => r = .returned (.tuple #[.string U0, .int .i64 0]) ∧ Below w1.heap.size w1 w'))
    (HK1 : Hid (∀ w1, Below w.heap.size w w1 → Calls Try.prog 13 #[.slice a1 len1 cap1] w1 fun r w' => r = .returned (.tuple #[.string ⟨#[]⟩, .int .i64 1]) ∧ Below w1.heap.size w1 w')) :
    Calls Try.prog 8 #[.slice a0 len0 cap0, .slice a1 len1 cap1, .int .i64 a2] w fun e w' => e = .returned (.bool true) ∧ Below w.heap.size w w' := by
  have hf0 : decide ((60 : Int) < (len0 : Int)) = false := decide_eq_false (by omega)
  have hf1 : decide ((60 : Int) < (len1 : Int)) = false := decide_eq_false (by omega)
  have B0 : Hid (Below w.heap.size w w) := Lib.hid (Below.refl _ _)
  have hx0 : (1 : Int) < (len0 : Int) := by omega
  have hd0 : wrap64 ((len0 : Int) - 1) = (len0 : Int) - 1 := IntWalk.wrap64_in _ ⟨by omega, by omega⟩
  have hz0 : ¬ ((len0 : Int) - 1 = 0) := by omega
  have hl0' : (k0 : Int) ≤ (len0 : Int) := by omega
  have hc0' : (k0 : Int) ≤ (cap0 : Int) := by omega
  have hcn0 : ¬ (cap0 = k0) := by omega
  have hcl0 : (len0 : Int) ≤ (cap0 : Int) := by omega
  subst ha0
  clear hm0 hm1 hs0 hl0 hc0
  go_enter Try.func8, Try.ntmps8
  go_wp2_with fail
  refine (HE1.out _ B0.out).mono ?_
  rintro r u0 ⟨rfl, hb1⟩
  have BE := Lib.hid (bkept B0.out hb1)
  clear hb1
  go_wp2_with fail
  refine (HE2.out _ BE.out).mono ?_
  rintro r v0 ⟨rfl, hb1⟩
  have CE := Lib.hid (bkept BE.out hb1)
  clear hb1
  go_wp2_with fail
  refine (HE3.out _ CE.out).mono ?_
  rintro r y0 ⟨rfl, hb1⟩
  have DE := Lib.hid (bkept CE.out hb1)
  clear hb1
  go_wp2_with fail
  refine (HK1.out _ DE.out).mono ?_
  rintro r u1 ⟨rfl, hb1⟩
  have BK := Lib.hid (bkept DE.out hb1)
  clear hb1
  go_wp2_with fail
  refine (LF.awake_any _).mono ?_
  rintro r z ⟨rfl, hb2⟩
  have BZ := Lib.hid (bkept BK.out hb2)
  clear hb2
  go_wp2
  go_ret
  exact ⟨rfl, BZ.out⟩
set_option maxHeartbeats 8000000 in
theorem h_two_ok (a0 : Option Addr) (len0 cap0 : Nat) (a1 : Option Addr) (len1 cap1 : Nat) (a2 : Int) (w : World) (hm0 : len0 ≤ 60) (hm1 : len1 ≤ 60)
    (S0 : ByteArray) (HE1 : Hid (∀ w1, Below w.heap.size w w1 → Calls Try.prog 10 #[.slice a0 len0 cap0] w1 fun r w' => r = .returned (.tuple #[.string S0, .int .i64 0]) ∧ Below w1.heap.size w1 w'))
    (hs0 : 1 < len0) (k0 : Nat) (hk0 : wrap64 ((1 : Int) + (wrap64 (wrap64 (a2.tmod ((len0 : Int) - 1) + (len0 : Int)) - 1)).tmod ((len0 : Int) - 1)) = (k0 : Int)) (hl0 : k0 < len0) (hc0 : len0 ≤ cap0)
    (b0 o0 : Nat) (ha0 : a0 = some ⟨b0, o0, none⟩)
    (T0 : ByteArray) (HE2 : Hid (∀ w1, Below w.heap.size w w1 → Calls Try.prog 10 #[.slice (some ⟨b0, o0, none⟩) k0 cap0] w1 fun r w' => r = .returned (.tuple #[.string T0, .int .i64 0]) ∧ Below w1.heap.size w1 w'))
    (U0 : ByteArray) (HE3 : Hid (∀ w1, Below w.heap.size w w1 → Calls Try.prog 10 #[.slice (some ⟨b0, o0 + k0 * 4, none⟩) (len0 - k0) (cap0 - k0)] w1 fun r w' => r = .returned (.tuple #[.string U0, .int .i64 0]) ∧ Below w1.heap.size w1 w'))
    (S1 : ByteArray) (HK1 : Hid (∀ w1, Below w.heap.size w w1 → Calls Try.prog 13 #[.slice a1 len1 cap1] w1 fun r w' => r = .returned (.tuple #[.string S1, .int .i64 0]) ∧ Below w1.heap.size w1 w'))
    (hs1 : ¬ 3 < len1) :
    Calls Try.prog 8 #[.slice a0 len0 cap0, .slice a1 len1 cap1, .int .i64 a2] w fun e w' => e = .returned (.bool true) ∧ Below w.heap.size w w' := by
  have hf0 : decide ((60 : Int) < (len0 : Int)) = false := decide_eq_false (by omega)
  have hf1 : decide ((60 : Int) < (len1 : Int)) = false := decide_eq_false (by omega)
  have B0 : Hid (Below w.heap.size w w) := Lib.hid (Below.refl _ _)
  have hx0 : (1 : Int) < (len0 : Int) := by omega
  have hd0 : wrap64 ((len0 : Int) - 1) = (len0 : Int) - 1 := IntWalk.wrap64_in _ ⟨by omega, by omega⟩
  have hz0 : ¬ ((len0 : Int) - 1 = 0) := by omega
  have hl0' : (k0 : Int) ≤ (len0 : Int) := by omega
  have hc0' : (k0 : Int) ≤ (cap0 : Int) := by omega
  have hcn0 : ¬ (cap0 = k0) := by omega
  have hcl0 : (len0 : Int) ≤ (cap0 : Int) := by omega
  subst ha0
  have hx1 : decide ((3 : Int) < (len1 : Int)) = false := decide_eq_false (by omega)
  clear hm0 hm1 hs0 hs1 hl0 hc0
  go_enter Try.func8, Try.ntmps8
  go_wp2_with fail
  refine (HE1.out _ B0.out).mono ?_
  rintro r u0 ⟨rfl, hb1⟩
  have BE := Lib.hid (bkept B0.out hb1)
  clear hb1
  go_wp2_with fail
  refine (HE2.out _ BE.out).mono ?_
  rintro r v0 ⟨rfl, hb1⟩
  have CE := Lib.hid (bkept BE.out hb1)
  clear hb1
  go_wp2_with fail
  refine (HE3.out _ CE.out).mono ?_
  rintro r y0 ⟨rfl, hb1⟩
  have DE := Lib.hid (bkept CE.out hb1)
  clear hb1
  go_wp2_with fail
  refine (HK1.out _ DE.out).mono ?_
  rintro r u1 ⟨rfl, hb1⟩
  have BK := Lib.hid (bkept DE.out hb1)
  clear hb1
  go_wp2_with fail
  refine (LF.awake_any _).mono ?_
  rintro r z ⟨rfl, hb2⟩
  have BZ := Lib.hid (bkept BK.out hb2)
  clear hb2
  go_wp2
  go_ret
  exact ⟨rfl, BZ.out⟩
set_option maxHeartbeats 8000000 in
theorem h_two_two (a0 : Option Addr) (len0 cap0 : Nat) (a1 : Option Addr) (len1 cap1 : Nat) (a2 : Int) (w : World) (hm0 : len0 ≤ 60) (hm1 : len1 ≤ 60)
    (S0 : ByteArray) (HE1 : Hid (∀ w1, Below w.heap.size w w1 → Calls Try.prog 10 #[.slice a0 len0 cap0] w1 fun r w' => r = .returned (.tuple #[.string S0, .int .i64 0]) ∧ Below w1.heap.size w1 w'))
    (hs0 : 1 < len0) (k0 : Nat) (hk0 : wrap64 ((1 : Int) + (wrap64 (wrap64 (a2.tmod ((len0 : Int) - 1) + (len0 : Int)) - 1)).tmod ((len0 : Int) - 1)) = (k0 : Int)) (hl0 : k0 < len0) (hc0 : len0 ≤ cap0)
    (b0 o0 : Nat) (ha0 : a0 = some ⟨b0, o0, none⟩)
    (T0 : ByteArray) (HE2 : Hid (∀ w1, Below w.heap.size w w1 → Calls Try.prog 10 #[.slice (some ⟨b0, o0, none⟩) k0 cap0] w1 fun r w' => r = .returned (.tuple #[.string T0, .int .i64 0]) ∧ Below w1.heap.size w1 w'))
    (U0 : ByteArray) (HE3 : Hid (∀ w1, Below w.heap.size w w1 → Calls Try.prog 10 #[.slice (some ⟨b0, o0 + k0 * 4, none⟩) (len0 - k0) (cap0 - k0)] w1 fun r w' => r = .returned (.tuple #[.string U0, .int .i64 0]) ∧ Below w1.heap.size w1 w'))
    (S1 : ByteArray) (HK1 : Hid (∀ w1, Below w.heap.size w w1 → Calls Try.prog 13 #[.slice a1 len1 cap1] w1 fun r w' => r = .returned (.tuple #[.string S1, .int .i64 0]) ∧ Below w1.heap.size w1 w'))
    (hs1 : 3 < len1) (k1 : Nat) (hk1 : wrap64 ((2 : Int) + (wrap64 (wrap64 (a2.tmod ((len1 : Int) - 3) + (len1 : Int)) - 3)).tmod ((len1 : Int) - 3)) = (k1 : Int)) (hl1 : k1 < len1) (hc1 : len1 ≤ cap1)
    (b1 o1 : Nat) (ha1 : a1 = some ⟨b1, o1, none⟩)
    (T1 : ByteArray) (HK2 : Hid (∀ w1, Below w.heap.size w w1 → Calls Try.prog 13 #[.slice (some ⟨b1, o1, none⟩) k1 cap1] w1 fun r w' => r = .returned (.tuple #[.string T1, .int .i64 0]) ∧ Below w1.heap.size w1 w'))
    (U1 : ByteArray) (HK3 : Hid (∀ w1, Below w.heap.size w w1 → Calls Try.prog 13 #[.slice (some ⟨b1, o1 + k1 * 2, none⟩) (len1 - k1) (cap1 - k1)] w1 fun r w' => r = .returned (.tuple #[.string U1, .int .i64 0]) ∧ Below w1.heap.size w1 w')) :
    Calls Try.prog 8 #[.slice a0 len0 cap0, .slice a1 len1 cap1, .int .i64 a2] w fun e w' => e = .returned (.bool true) ∧ Below w.heap.size w w' := by
  have hf0 : decide ((60 : Int) < (len0 : Int)) = false := decide_eq_false (by omega)
  have hf1 : decide ((60 : Int) < (len1 : Int)) = false := decide_eq_false (by omega)
  have B0 : Hid (Below w.heap.size w w) := Lib.hid (Below.refl _ _)
  have hx0 : (1 : Int) < (len0 : Int) := by omega
  have hd0 : wrap64 ((len0 : Int) - 1) = (len0 : Int) - 1 := IntWalk.wrap64_in _ ⟨by omega, by omega⟩
  have hz0 : ¬ ((len0 : Int) - 1 = 0) := by omega
  have hl0' : (k0 : Int) ≤ (len0 : Int) := by omega
  have hc0' : (k0 : Int) ≤ (cap0 : Int) := by omega
  have hcn0 : ¬ (cap0 = k0) := by omega
  have hcl0 : (len0 : Int) ≤ (cap0 : Int) := by omega
  subst ha0
  have hx1 : (3 : Int) < (len1 : Int) := by omega
  have hd1 : wrap64 ((len1 : Int) - 3) = (len1 : Int) - 3 := IntWalk.wrap64_in _ ⟨by omega, by omega⟩
  have hz1 : ¬ ((len1 : Int) - 3 = 0) := by omega
  have hl1' : (k1 : Int) ≤ (len1 : Int) := by omega
  have hc1' : (k1 : Int) ≤ (cap1 : Int) := by omega
  have hcn1 : ¬ (cap1 = k1) := by omega
  have hcl1 : (len1 : Int) ≤ (cap1 : Int) := by omega
  subst ha1
  clear hm0 hm1 hs0 hs1 hl0 hc0 hl1 hc1
  go_enter Try.func8, Try.ntmps8
  go_wp2_with fail
  refine (HE1.out _ B0.out).mono ?_
  rintro r u0 ⟨rfl, hb1⟩
  have BE := Lib.hid (bkept B0.out hb1)
  clear hb1
  go_wp2_with fail
  refine (HE2.out _ BE.out).mono ?_
  rintro r v0 ⟨rfl, hb1⟩
  have CE := Lib.hid (bkept BE.out hb1)
  clear hb1
  go_wp2_with fail
  refine (HE3.out _ CE.out).mono ?_
  rintro r y0 ⟨rfl, hb1⟩
  have DE := Lib.hid (bkept CE.out hb1)
  clear hb1
  go_wp2_with fail
  refine (HK1.out _ DE.out).mono ?_
  rintro r u1 ⟨rfl, hb1⟩
  have BK := Lib.hid (bkept DE.out hb1)
  clear hb1
  go_wp2_with fail
  refine (HK2.out _ BK.out).mono ?_
  rintro r v1 ⟨rfl, hb1⟩
  have CK := Lib.hid (bkept BK.out hb1)
  clear hb1
  go_wp2_with fail
  refine (HK3.out _ CK.out).mono ?_
  rintro r y1 ⟨rfl, hb1⟩
  have DK := Lib.hid (bkept CK.out hb1)
  clear hb1
  go_wp2_with fail
  refine (LF.awake_any _).mono ?_
  rintro r z ⟨rfl, hb2⟩
  have BZ := Lib.hid (bkept DK.out hb2)
  clear hb2
  go_wp2
  go_ret
  exact ⟨rfl, BZ.out⟩
theorem walk (a0 : Option Addr) (len0 cap0 : Nat) (L0 : List EX.Ext) (a1 : Option Addr) (len1 cap1 : Nat) (L1 : List LF.Kid) (a2 : Int) (w : World) (hl0 : len0 = L0.length) (lm0 : len0 ≤ maxLen) (w0 : EX.Exs w a0 L0) (wf0 : ∀ e ∈ L0, EX.WfE e) (lc0 : len0 ≤ cap0) (hl1 : len1 = L1.length) (lm1 : len1 ≤ maxLen) (w1 : LF.Kds w a1 L1) (wf1 : ∀ e ∈ L1, OP.WfK e) (lc1 : len1 ≤ cap1) (w2 : (Lit.int .i64 a2).wf = true) :
    Calls Try.prog 8 #[.slice a0 len0 cap0, .slice a1 len1 cap1, .int .i64 a2] w fun e w' => e = .returned (.bool true) ∧ Below w.heap.size w w' := by
  by_cases hbig : len0 ≤ 60 ∧ len1 ≤ 60
  · obtain ⟨hm0, hm1⟩ := hbig
    by_cases v0 : Leafy L0
    · have ha1 : Hid (∀ u, Below w.heap.size w u → Calls Try.prog 10 #[.slice a0 len0 cap0] u fun r w' => r = .returned (.tuple #[.string (str (nodeB eB L0)), .int .i64 0]) ∧ Below u.heap.size u w') := Lib.hid fun u hu => Leaf_ok L0 len0 cap0 hl0 lm0 a0 u (w0.below hu) v0
      by_cases hs0 : 1 < len0
      · obtain ⟨b0, o0, rfl, hb0, hc0⟩ : ∃ b off, a0 = some ⟨b, off, none⟩ ∧ b < w.heap.size ∧ ∀ (i : Nat) (x : EX.Ext), L0[i]? = some x → Cells4 w b (off + i * 4) x := by
          rcases w0 with h | h
          · rw [h] at hl0; simp at hl0; omega
          · exact h
        have h8 : len0 ≤ 8 := by rw [hl0]; exact v0.1.2
        obtain ⟨k0, hk0, g1, g2⟩ := half_place a2 len0 1 ((len0 : Int) - 1) (by omega) h8 (by omega) (by decide)
        obtain ⟨p1, p2⟩ := leafy_part v0 g1 (by rw [← hl0]; exact g2)
        have x1 : Exs w (some ⟨b0, o0, none⟩) (L0.take k0) := .inr ⟨b0, o0, rfl, hb0, fun i x hi => hc0 i x (by rw [List.getElem?_take] at hi; split at hi; exact hi; cases hi)⟩
        have x2 : Exs w (some ⟨b0, o0 + k0 * 4, none⟩) (L0.drop k0) := .inr ⟨b0, o0 + k0 * 4, rfl, hb0, fun i x hi => by rw [List.getElem?_drop] at hi; have := hc0 (k0 + i) x hi; rwa [show o0 + (k0 + i) * 4 = o0 + k0 * 4 + i * 4 from by omega] at this⟩
        have ha2 : Hid (∀ u, Below w.heap.size w u → Calls Try.prog 10 #[.slice (some ⟨b0, o0, none⟩) k0 cap0] u fun r w' => r = .returned (.tuple #[.string (str (nodeB eB (L0.take k0))), .int .i64 0]) ∧ Below u.heap.size u w') := Lib.hid fun u hu => Leaf_ok _ k0 cap0 (by rw [List.length_take]; omega) (by unfold maxLen; omega) _ u (x1.below hu) p1
        have ha3 : Hid (∀ u, Below w.heap.size w u → Calls Try.prog 10 #[.slice (some ⟨b0, o0 + k0 * 4, none⟩) (len0 - k0) (cap0 - k0)] u fun r w' => r = .returned (.tuple #[.string (str (nodeB eB (L0.drop k0))), .int .i64 0]) ∧ Below u.heap.size u w') := Lib.hid fun u hu => Leaf_ok _ (len0 - k0) (cap0 - k0) (by rw [List.length_drop]; omega) (by unfold maxLen; omega) _ u (x2.below hu) p2
        by_cases v1 : Kidy L1
        · have hb1 : Hid (∀ u, Below w.heap.size w u → Calls Try.prog 13 #[.slice a1 len1 cap1] u fun r w' => r = .returned (.tuple #[.string (str (nodeB kB L1)), .int .i64 0]) ∧ Below u.heap.size u w') := Lib.hid fun u hu => Inner_ok L1 len1 cap1 hl1 lm1 lc1 a1 u (w1.below hu) v1
          by_cases hs1 : 3 < len1
          · obtain ⟨b1, o1, rfl, hb1_, hc1⟩ : ∃ b off, a1 = some ⟨b, off, none⟩ ∧ b < w.heap.size ∧ ∀ (i : Nat) (x : LF.Kid), L1[i]? = some x → Cells2 w b (off + i * 2) x := by
              rcases w1 with h | h
              · rw [h] at hl1; simp at hl1; omega
              · exact h
            have h9 : len1 ≤ 8 := by rw [hl1]; exact v1.1.2
            obtain ⟨k1, hk1, e1, e2⟩ := half_place a2 len1 2 ((len1 : Int) - 3) (by omega) h9 (by omega) (by decide)
            obtain ⟨q1, q2⟩ := kidy_part v1 e1 (by rw [← hl1]; exact e2)
            have y1 : Kds w (some ⟨b1, o1, none⟩) (L1.take k1) := .inr ⟨b1, o1, rfl, hb1_, fun i x hi => hc1 i x (by rw [List.getElem?_take] at hi; split at hi; exact hi; cases hi)⟩
            have y2 : Kds w (some ⟨b1, o1 + k1 * 2, none⟩) (L1.drop k1) := .inr ⟨b1, o1 + k1 * 2, rfl, hb1_, fun i x hi => by rw [List.getElem?_drop] at hi; have := hc1 (k1 + i) x hi; rwa [show o1 + (k1 + i) * 2 = o1 + k1 * 2 + i * 2 from by omega] at this⟩
            have hb2 : Hid (∀ u, Below w.heap.size w u → Calls Try.prog 13 #[.slice (some ⟨b1, o1, none⟩) k1 cap1] u fun r w' => r = .returned (.tuple #[.string (str (nodeB kB (L1.take k1))), .int .i64 0]) ∧ Below u.heap.size u w') := Lib.hid fun u hu => Inner_ok _ k1 cap1 (by rw [List.length_take]; omega) (by unfold maxLen; omega) (by omega) _ u (y1.below hu) q1
            have hb3 : Hid (∀ u, Below w.heap.size w u → Calls Try.prog 13 #[.slice (some ⟨b1, o1 + k1 * 2, none⟩) (len1 - k1) (cap1 - k1)] u fun r w' => r = .returned (.tuple #[.string (str (nodeB kB (L1.drop k1))), .int .i64 0]) ∧ Below u.heap.size u w') := Lib.hid fun u hu => Inner_ok _ (len1 - k1) (cap1 - k1) (by rw [List.length_drop]; omega) (by unfold maxLen; omega) (by omega) _ u (y2.below hu) q2
            exact h_two_two (some ⟨b0, o0, none⟩) len0 cap0 (some ⟨b1, o1, none⟩) len1 cap1 a2 w hm0 hm1 _ ha1 hs0 k0 hk0 (by omega) lc0 b0 o0 rfl _ ha2 _ ha3 _ hb1 hs1 k1 hk1 (by omega) lc1 b1 o1 rfl _ hb2 _ hb3
          · exact h_two_ok (some ⟨b0, o0, none⟩) len0 cap0 a1 len1 cap1 a2 w hm0 hm1 _ ha1 hs0 k0 hk0 (by omega) lc0 b0 o0 rfl _ ha2 _ ha3 _ hb1 hs1
        · have hb1 : Hid (∀ u, Below w.heap.size w u → Calls Try.prog 13 #[.slice a1 len1 cap1] u fun r w' => r = .returned (.tuple #[.string ⟨#[]⟩, .int .i64 1]) ∧ Below u.heap.size u w') := Lib.hid fun u hu => Inner_no L1 len1 cap1 hl1 lm1 lc1 a1 u (w1.below hu) v1
          exact h_two_no (some ⟨b0, o0, none⟩) len0 cap0 a1 len1 cap1 a2 w hm0 hm1 _ ha1 hs0 k0 hk0 (by omega) lc0 b0 o0 rfl _ ha2 _ ha3 hb1
      · by_cases v1 : Kidy L1
        · have hb1 : Hid (∀ u, Below w.heap.size w u → Calls Try.prog 13 #[.slice a1 len1 cap1] u fun r w' => r = .returned (.tuple #[.string (str (nodeB kB L1)), .int .i64 0]) ∧ Below u.heap.size u w') := Lib.hid fun u hu => Inner_ok L1 len1 cap1 hl1 lm1 lc1 a1 u (w1.below hu) v1
          by_cases hs1 : 3 < len1
          · obtain ⟨b1, o1, rfl, hb1_, hc1⟩ : ∃ b off, a1 = some ⟨b, off, none⟩ ∧ b < w.heap.size ∧ ∀ (i : Nat) (x : LF.Kid), L1[i]? = some x → Cells2 w b (off + i * 2) x := by
              rcases w1 with h | h
              · rw [h] at hl1; simp at hl1; omega
              · exact h
            have h9 : len1 ≤ 8 := by rw [hl1]; exact v1.1.2
            obtain ⟨k1, hk1, e1, e2⟩ := half_place a2 len1 2 ((len1 : Int) - 3) (by omega) h9 (by omega) (by decide)
            obtain ⟨q1, q2⟩ := kidy_part v1 e1 (by rw [← hl1]; exact e2)
            have y1 : Kds w (some ⟨b1, o1, none⟩) (L1.take k1) := .inr ⟨b1, o1, rfl, hb1_, fun i x hi => hc1 i x (by rw [List.getElem?_take] at hi; split at hi; exact hi; cases hi)⟩
            have y2 : Kds w (some ⟨b1, o1 + k1 * 2, none⟩) (L1.drop k1) := .inr ⟨b1, o1 + k1 * 2, rfl, hb1_, fun i x hi => by rw [List.getElem?_drop] at hi; have := hc1 (k1 + i) x hi; rwa [show o1 + (k1 + i) * 2 = o1 + k1 * 2 + i * 2 from by omega] at this⟩
            have hb2 : Hid (∀ u, Below w.heap.size w u → Calls Try.prog 13 #[.slice (some ⟨b1, o1, none⟩) k1 cap1] u fun r w' => r = .returned (.tuple #[.string (str (nodeB kB (L1.take k1))), .int .i64 0]) ∧ Below u.heap.size u w') := Lib.hid fun u hu => Inner_ok _ k1 cap1 (by rw [List.length_take]; omega) (by unfold maxLen; omega) (by omega) _ u (y1.below hu) q1
            have hb3 : Hid (∀ u, Below w.heap.size w u → Calls Try.prog 13 #[.slice (some ⟨b1, o1 + k1 * 2, none⟩) (len1 - k1) (cap1 - k1)] u fun r w' => r = .returned (.tuple #[.string (str (nodeB kB (L1.drop k1))), .int .i64 0]) ∧ Below u.heap.size u w') := Lib.hid fun u hu => Inner_ok _ (len1 - k1) (cap1 - k1) (by rw [List.length_drop]; omega) (by unfold maxLen; omega) (by omega) _ u (y2.below hu) q2
            exact h_ok_two a0 len0 cap0 (some ⟨b1, o1, none⟩) len1 cap1 a2 w hm0 hm1 _ ha1 hs0 _ hb1 hs1 k1 hk1 (by omega) lc1 b1 o1 rfl _ hb2 _ hb3
          · exact h_ok_ok a0 len0 cap0 a1 len1 cap1 a2 w hm0 hm1 _ ha1 hs0 _ hb1 hs1
        · have hb1 : Hid (∀ u, Below w.heap.size w u → Calls Try.prog 13 #[.slice a1 len1 cap1] u fun r w' => r = .returned (.tuple #[.string ⟨#[]⟩, .int .i64 1]) ∧ Below u.heap.size u w') := Lib.hid fun u hu => Inner_no L1 len1 cap1 hl1 lm1 lc1 a1 u (w1.below hu) v1
          exact h_ok_no a0 len0 cap0 a1 len1 cap1 a2 w hm0 hm1 _ ha1 hs0 hb1
    · have ha1 : Hid (∀ u, Below w.heap.size w u → Calls Try.prog 10 #[.slice a0 len0 cap0] u fun r w' => r = .returned (.tuple #[.string ⟨#[]⟩, .int .i64 1]) ∧ Below u.heap.size u w') := Lib.hid fun u hu => Leaf_no L0 len0 cap0 hl0 lm0 a0 u (w0.below hu) wf0 v0
      by_cases v1 : Kidy L1
      · have hb1 : Hid (∀ u, Below w.heap.size w u → Calls Try.prog 13 #[.slice a1 len1 cap1] u fun r w' => r = .returned (.tuple #[.string (str (nodeB kB L1)), .int .i64 0]) ∧ Below u.heap.size u w') := Lib.hid fun u hu => Inner_ok L1 len1 cap1 hl1 lm1 lc1 a1 u (w1.below hu) v1
        by_cases hs1 : 3 < len1
        · obtain ⟨b1, o1, rfl, hb1_, hc1⟩ : ∃ b off, a1 = some ⟨b, off, none⟩ ∧ b < w.heap.size ∧ ∀ (i : Nat) (x : LF.Kid), L1[i]? = some x → Cells2 w b (off + i * 2) x := by
            rcases w1 with h | h
            · rw [h] at hl1; simp at hl1; omega
            · exact h
          have h9 : len1 ≤ 8 := by rw [hl1]; exact v1.1.2
          obtain ⟨k1, hk1, e1, e2⟩ := half_place a2 len1 2 ((len1 : Int) - 3) (by omega) h9 (by omega) (by decide)
          obtain ⟨q1, q2⟩ := kidy_part v1 e1 (by rw [← hl1]; exact e2)
          have y1 : Kds w (some ⟨b1, o1, none⟩) (L1.take k1) := .inr ⟨b1, o1, rfl, hb1_, fun i x hi => hc1 i x (by rw [List.getElem?_take] at hi; split at hi; exact hi; cases hi)⟩
          have y2 : Kds w (some ⟨b1, o1 + k1 * 2, none⟩) (L1.drop k1) := .inr ⟨b1, o1 + k1 * 2, rfl, hb1_, fun i x hi => by rw [List.getElem?_drop] at hi; have := hc1 (k1 + i) x hi; rwa [show o1 + (k1 + i) * 2 = o1 + k1 * 2 + i * 2 from by omega] at this⟩
          have hb2 : Hid (∀ u, Below w.heap.size w u → Calls Try.prog 13 #[.slice (some ⟨b1, o1, none⟩) k1 cap1] u fun r w' => r = .returned (.tuple #[.string (str (nodeB kB (L1.take k1))), .int .i64 0]) ∧ Below u.heap.size u w') := Lib.hid fun u hu => Inner_ok _ k1 cap1 (by rw [List.length_take]; omega) (by unfold maxLen; omega) (by omega) _ u (y1.below hu) q1
          have hb3 : Hid (∀ u, Below w.heap.size w u → Calls Try.prog 13 #[.slice (some ⟨b1, o1 + k1 * 2, none⟩) (len1 - k1) (cap1 - k1)] u fun r w' => r = .returned (.tuple #[.string (str (nodeB kB (L1.drop k1))), .int .i64 0]) ∧ Below u.heap.size u w') := Lib.hid fun u hu => Inner_ok _ (len1 - k1) (cap1 - k1) (by rw [List.length_drop]; omega) (by unfold maxLen; omega) (by omega) _ u (y2.below hu) q2
          exact h_no_two a0 len0 cap0 (some ⟨b1, o1, none⟩) len1 cap1 a2 w hm0 hm1 ha1 _ hb1 hs1 k1 hk1 (by omega) lc1 b1 o1 rfl _ hb2 _ hb3
        · exact h_no_ok a0 len0 cap0 a1 len1 cap1 a2 w hm0 hm1 ha1 _ hb1 hs1
      · have hb1 : Hid (∀ u, Below w.heap.size w u → Calls Try.prog 13 #[.slice a1 len1 cap1] u fun r w' => r = .returned (.tuple #[.string ⟨#[]⟩, .int .i64 1]) ∧ Below u.heap.size u w') := Lib.hid fun u hu => Inner_no L1 len1 cap1 hl1 lm1 lc1 a1 u (w1.below hu) v1
        exact h_no_no a0 len0 cap0 a1 len1 cap1 a2 w hm0 hm1 ha1 hb1
  · exact big a0 len0 cap0 a1 len1 cap1 a2 w hbig

set_option maxRecDepth 100000 in
theorem lifted (os : Os) (started : os.Started) (H : Type) (enc : TypeId × Value → H) :
    ReturnsInHanded {} Try.checked os 8 .any (Rows.leafHalvesSpec.pre6 enc Try.prog Try.f8 Rows.leafHalvesRow.domain false) (Rows.leafHalvesSpec.post enc Try.prog Try.f8 false true false false) := by
  refine returnsInHanded_of_change_sized (C := Try.checked) own started (by kernel_rfl) Try.func8
    (ChangeSpec.witness6 (enc := enc) (C := Try.checked) false ⟨#[], #[.slice none 0 0, .slice none 0 0, .int .i64 0], []⟩ 8 (by kernel_rfl) (by kernel_rfl) (by kernel_rfl) (by kernel_rfl)) ?_
  intro W base args ds gs before hval0 hW hcnd hsz0 _
  have hval : ∀ (j : Nat) t v, Try.f8.params[j]? = some t → args[j]? = some v → Value.okWide Try.prog W .any base t v := hval0
  have hW' := hW
  obtain ⟨p, q, hA0, hV, rfl, hfz, hnd⟩ := hW
  have hA : DataW.TrodAll enc Try.prog W 0 (fun _ => true) true Try.f8.params.toList args.toList ds p := hA0
  have hsz : (DataW.weightsEach Try.prog (Try.f8.params.toList ++ Rows.leafHalvesSpec.plain.varTypes Try.prog) (ds ++ gs)).all (· ≤ reachBytes) = true := hsz0
  rw [Try.params8] at hA hval hsz
  obtain ⟨v0, vs0, d0, ds0, p0, q0, hargs, rfl, rfl, h0, r0⟩ := trodAll_cons hA
  obtain ⟨v1, vs1, d1, ds1, p1, q1, rfl, rfl, rfl, h1, r1⟩ := trodAll_cons r0
  obtain ⟨v2, vs2, d2, ds2, p2, q2, rfl, rfl, rfl, h2, r2⟩ := trodAll_cons r1
  obtain ⟨rfl, rfl, rfl⟩ := trodAll_nil r2
  obtain rfl : args = #[v0, v1, v2] := by cases args; simp_all
  obtain ⟨rfl, rfl⟩ := trodVars_none hV
  have k0 := h0
  have lt0 : ∀ x ∈ p0, x.block < W.heap.size := by obtain ⟨m, hm⟩ := k0; exact DataW.trod_lt m _ _ _ hm
  obtain ⟨a0, len0, cap0, L0, rfl, hl0, lm0, w0, wf0, lc0⟩ := OP.open_extsc (hval 0 22 v0 rfl rfl) h0
  have k1 := h1
  have lt1 : ∀ x ∈ p1, x.block < W.heap.size := by obtain ⟨m, hm⟩ := k1; exact DataW.trod_lt m _ _ _ hm
  obtain ⟨a1, len1, cap1, L1, rfl, hl1, lm1, w1, wf1, lc1⟩ := OP.open_kids (hval 1 32 v1 rfl rfl) h1
  obtain ⟨a2, rfl, rfl, rfl, w2⟩ := open_int Try.underlying3 (hval 2 3 v2 rfl rfl) h2
  clear hA0 hval0 hsz0
  refine (walk a0 len0 cap0 L0 a1 len1 cap1 L1 a2 W hl0 lm0 w0 wf0 lc0 hl1 lm1 w1 wf1 lc1 w2).mono fun e W' ⟨he, bel⟩ => ?_
  subst he
  exact ⟨_, rfl, _, _, _, [], _, [], hW', trodAll_mk1 (shut_bool Try.underlying4 _), (trodAll_cons_mk (Below.trod laidOut (by kernel_rfl) (of_decide_eq_true (by kernel_rfl)) k0 bel lt0) (trodAll_cons_mk (Below.trod laidOut (by kernel_rfl) (of_decide_eq_true (by kernel_rfl)) k1 bel lt1) (trodAll_cons_mk (shut_int Try.underlying3 w2) trodAll_mk0))), rfl, bel.frame _, fun h => by cases h⟩

theorem over : Rows.leafHalvesRow.holds Try.pinned (OpenSpec.ofChange Rows.leafHalvesSpec) :=
  OpenClaim.holds_of_wide 8 Try.f8 rfl rfl rfl rfl rfl rfl rfl ⟨rfl, rfl, rfl, rfl, rfl⟩ rfl rfl rfl rfl rfl (by kernel_rfl) Try.func8 (by kernel_rfl)
    (of_decide_eq_true (by kernel_rfl)) (by unfold Func.isWrapper; first | (rw [if_pos (by decide +kernel)]; kernel_rfl) | (rw [if_neg (by decide +kernel)]; exact ⟨rfl, rfl⟩))
    (fun os started H enc _ => lifted os started H enc)

theorem proved : Rows.LeafHalvesSaid := over
#print axioms proved
end Go.Proofs.Ytmndbdkodijlbaa.leafHalves
