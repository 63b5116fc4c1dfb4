/- The law LeafBack holds: its Go text answers true for every input, and leaves its arguments as they were. No condition beyond the statement's own. -/
import Derived.Test.YtmndbdkodijlbaaRows
import Derived.Test.YtmndbdkodijlbaaLfP
import Derived.Test.YtmndbdkodijlbaaLfQ
import Derived.Test.YtmndbdkodijlbaaRefs
import Derived.Test.YtmndbdkodijlbaaOpen9
import Derived.Test.YtmndbdkodijlbaaOpen
import Derived.ProofKit
import Derived.OpenShut
import Derived.ShutString
import Derived.ChangeOld
import Derived.Below
import Derived.SizedLaws
namespace Go.Proofs.Ytmndbdkodijlbaa.leafBack
open Go.ChangeShapes Go.WideShapes Go.ChangeAt Go.RowKit
open Go.ChangeMaps (open_string shut_string)
open Go.Proofs.Ytmndbdkodijlbaa.FM
set_option linter.unusedVariables false
set_option linter.unusedSimpArgs false

theorem own : ownKnob Try.prog.godebug = none := by kernel_rfl
theorem laidOut : laidOutB Try.prog = true := by kernel_rfl

open MM EX OP LF FM

/-- A list and a sign that were handed back. -/
def Rd {T : Type} (rows : World → Option Addr → List T → Prop) (L : List T) (e : Int) (w : World) (r : Ending) (w' : World) : Prop :=
  ∃ A n c, r = .returned (.tuple #[.slice A n c, .int .i64 e]) ∧ n = L.length ∧ n ≤ c ∧ rows w' A L ∧ Below w.heap.size w w'
theorem rd_good {T : Type} {X : Nodes T} {rows : World → Option Addr → List T → Prop} {s : List UInt8} {L : List T} (h : LF.Good X s L) {w : World} {r : Ending} {w' : World} (x : REnd X rows s w r w') : Rd rows L 0 w r w' := by
  rcases x with ⟨M, A, n, c, h1, h2, h3, h6, h4, h5⟩ | ⟨h1, _⟩
  · obtain rfl : M = L := says_one X h1 h
    exact ⟨A, n, c, h2, h3, h6, h4, h5⟩
  · exact absurd h (h1 L)
theorem rd_bad {T : Type} {X : Nodes T} {rows : World → Option Addr → List T → Prop} (hr : ∀ w, rows w none []) {s : List UInt8} (h : ∀ L, ¬ LF.Good X s L) {w : World} {r : Ending} {w' : World} (x : REnd X rows s w r w') : Rd rows [] 3 w r w' := by
  rcases x with ⟨M, A, n, c, h1, _⟩ | ⟨_, h2, h3⟩
  · exact absurd h1 (h M)
  · exact ⟨none, 0, 0, h2, rfl, Nat.le_refl _, hr _, h3⟩
theorem rd_some {T : Type} (X : Nodes T) (rows : World → Option Addr → List T → Prop) (hr : ∀ w, rows w none []) (s : List UInt8) : ∃ L e, L.length ≤ 8 ∧ ∀ w r w', REnd X rows s w r w' → Rd rows L e w r w' := by
  by_cases h : ∃ L, LF.Good X s L
  · obtain ⟨L, h⟩ := h
    exact ⟨L, 0, X.short L h.1, fun w r w' x => rd_good h x⟩
  · exact ⟨[], 3, by simp, fun w r w' x => rd_bad hr (fun L hL => h ⟨L, hL⟩) x⟩
theorem exs_none (w : World) : Exs w none [] := .inl rfl
theorem kds_none (w : World) : Kds w none [] := .inl rfl
theorem str_of (t : ByteArray) : str t.data.toList = t := rfl
theorem str_self (S : ByteArray) : (S.toList == S.toList) = true := by simp

set_option maxHeartbeats 1000000 in
theorem big (a0 : Option Addr) (len0 cap0 : Nat) (a1 : Option Addr) (len1 cap1 : Nat) (a2 : ByteArray) (w : World) (hbig : ¬ (len0 ≤ 60 ∧ len1 ≤ 60 ∧ a2.size ≤ 2000)) :
    Calls Try.prog 6 #[.slice a0 len0 cap0, .slice a1 len1 cap1, .string a2] w fun e w' => e = .returned (.bool true) ∧ Below w.heap.size w w' := by
  by_cases h0 : 60 < len0
  · have h0' : (60 : Int) < (len0 : Int) := by omega
    clear hbig h0
    go_enter Try.func6, Try.ntmps6
    go_wp2_with fail
    refine (LF.awake_any _).mono ?_
    rintro r w2 ⟨rfl, hb2⟩
    go_wp2
    go_ret
    exact ⟨rfl, hb2⟩
  · have h0' : decide ((60 : Int) < (len0 : Int)) = false := decide_eq_false (by omega)
    by_cases h1 : 60 < len1
    · have h1' : (60 : Int) < (len1 : Int) := by omega
      clear hbig h0 h1
      go_enter Try.func6, Try.ntmps6
      go_wp2_with fail
      refine (LF.awake_any _).mono ?_
      rintro r w2 ⟨rfl, hb2⟩
      go_wp2
      go_ret
      exact ⟨rfl, hb2⟩
    · have h1' : decide ((60 : Int) < (len1 : Int)) = false := decide_eq_false (by omega)
      have h2' : (2000 : Int) < (a2.size : Int) := by omega
      clear hbig h0 h1
      go_enter Try.func6, Try.ntmps6
      go_wp2_with fail
      refine (LF.awake_any _).mono ?_
      rintro r w2 ⟨rfl, hb2⟩
      go_wp2
      go_ret
      exact ⟨rfl, hb2⟩
/-- What is read of a text, and what putting it anew answers: the text, or that it may not be. -/
inductive Bk3 (S : ByteArray) : Int → Int → ByteArray → Prop
  | ok : Bk3 S 0 0 S
  | no : Bk3 S 3 1 ⟨#[]⟩
set_option maxHeartbeats 8000000 in
theorem back00 (a0 : Option Addr) (len0 cap0 : Nat) (L0 : List EX.Ext) (a1 : Option Addr) (len1 cap1 : Nat) (L1 : List LF.Kid) (a2 : ByteArray) (w : World) (hl0 : len0 = L0.length) (w0 : EX.Exs w a0 L0) (hl1 : len1 = L1.length) (w1 : LF.Kds w a1 L1) (hs0 : len0 ≤ 60) (hs1 : len1 ≤ 60) (hs2 : a2.size ≤ 2000)
    (HA1 : Hid (∀ w1, Below w.heap.size w w1 → Calls Try.prog 10 #[.slice a0 len0 cap0] w1 fun r w' => r = .returned (.tuple #[.string ⟨#[]⟩, .int .i64 1]) ∧ Below w1.heap.size w1 w'))
    (HB1 : Hid (∀ w1, Below w.heap.size w w1 → Calls Try.prog 13 #[.slice a1 len1 cap1] w1 fun r w' => r = .returned (.tuple #[.string ⟨#[]⟩, .int .i64 1]) ∧ Below w1.heap.size w1 w'))
    (M0 : List EX.Ext) (e0 f0 : Int) (T0 : ByteArray) (hB0 : Bk3 a2 e0 f0 T0)
    (HC : Hid (∀ w, Calls Try.prog 16 #[.string a2] w (Rd Exs M0 e0 w)))
    (HD : Hid (∀ (w : World) A c, Exs w A M0 → Calls Try.prog 10 #[.slice A M0.length c] w fun r w' => r = .returned (.tuple #[.string T0, .int .i64 f0]) ∧ Below w.heap.size w w'))
    (M1 : List LF.Kid) (e1 f1 : Int) (T1 : ByteArray) (hB1 : Bk3 a2 e1 f1 T1)
    (HE : Hid (∀ w, Calls Try.prog 18 #[.string a2] w (Rd Kds M1 e1 w)))
    (HF : Hid (∀ (w : World) A c, M1.length ≤ c → Kds w A M1 → Calls Try.prog 13 #[.slice A M1.length c] w fun r w' => r = .returned (.tuple #[.string T1, .int .i64 f1]) ∧ Below w.heap.size w w')) :
    Calls Try.prog 6 #[.slice a0 len0 cap0, .slice a1 len1 cap1, .string a2] w fun e w' => e = .returned (.bool true) ∧ Below w.heap.size w w' := by
  have hf0 : decide ((60 : Int) < (len0 : Int)) = false := decide_eq_false (by omega)
  have hf1 : decide ((60 : Int) < (len1 : Int)) = false := decide_eq_false (by omega)
  have hf2 : ¬ (2000 : Int) < (a2.size : Int) := by omega
  have hself := str_self a2
  have HL := Lib.hid hl0
  have HK := Lib.hid hl1
  have HS0 := Lib.hid hs0
  have HS1 := Lib.hid hs1
  have X0 := Lib.hid w0
  have K0 := Lib.hid w1
  clear hs0 hs1 hs2 hl0 hl1 w0 w1
  go_enter Try.func6, Try.ntmps6
  go_wp2_with fail
  refine (HA1.out _ (Below.refl _ _)).mono ?_
  rintro r u1 ⟨rfl, hb1⟩
  have B1 := Lib.hid hb1
  clear hb1
  go_wp2_with fail
  refine (HB1.out _ B1.out).mono ?_
  rintro r v1 ⟨rfl, hb1⟩
  have C1 := Lib.hid (bkept B1.out hb1)
  clear hb1
  obtain ⟨m0, hm0⟩ : ∃ m, m = M0.length := ⟨_, rfl⟩
  obtain ⟨m1, hm1⟩ : ∃ m, m = M1.length := ⟨_, rfl⟩
  have HM0 := Lib.hid hm0
  have HM1 := Lib.hid hm1
  rw [← hm0] at HD
  rw [← hm1] at HF
  clear hm0 hm1
  go_wp2_with fail
  refine (HC.out _).mono ?_
  rintro r y1 ⟨A8, n8, c8, rfl, hn8, _, hx8, hb8⟩
  obtain rfl : n8 = m0 := by rw [hn8, HM0.out]
  have HDD := Lib.hid (HD.out y1 A8 c8 hx8)
  have D1 := Lib.hid (bkept C1.out hb8)
  clear hx8 hb8 hn8
  go_wp2_with fail
  refine HDD.out.mono ?_
  rintro r y2 ⟨rfl, hb8⟩
  have D2 := Lib.hid (bkept D1.out hb8)
  clear hb8
  go_wp2_with fail
  refine (HE.out _).mono ?_
  rintro r y3 ⟨A9, n9, c9, rfl, hn9, hcp, hx9, hb9⟩
  obtain rfl : n9 = m1 := by rw [hn9, HM1.out]
  have HFF := Lib.hid (HF.out y3 A9 c9 hcp hx9)
  have D3 := Lib.hid (bkept D2.out hb9)
  clear hx9 hb9 hn9 hcp
  go_wp2_with fail
  refine HFF.out.mono ?_
  rintro r y4 ⟨rfl, hb9⟩
  have D4 := Lib.hid (bkept D3.out hb9)
  clear hb9
  go_wp2_with fail
  refine (LF.awake_any _).mono ?_
  rintro r y5 ⟨rfl, hb9⟩
  have D5 := Lib.hid (bkept D4.out hb9)
  clear hb9
  cases hB0 <;> cases hB1
  all_goals go_wp2
  all_goals go_ret
  all_goals exact ⟨by simp, D5.out⟩
set_option maxHeartbeats 8000000 in
theorem back01 (a0 : Option Addr) (len0 cap0 : Nat) (L0 : List EX.Ext) (a1 : Option Addr) (len1 cap1 : Nat) (L1 : List LF.Kid) (a2 : ByteArray) (w : World) (hl0 : len0 = L0.length) (w0 : EX.Exs w a0 L0) (hl1 : len1 = L1.length) (w1 : LF.Kds w a1 L1) (hs0 : len0 ≤ 60) (hs1 : len1 ≤ 60) (hs2 : a2.size ≤ 2000)
    (HA1 : Hid (∀ w1, Below w.heap.size w w1 → Calls Try.prog 10 #[.slice a0 len0 cap0] w1 fun r w' => r = .returned (.tuple #[.string ⟨#[]⟩, .int .i64 1]) ∧ Below w1.heap.size w1 w'))
    (S1 : ByteArray) (HB1 : Hid (∀ w1, Below w.heap.size w w1 → Calls Try.prog 13 #[.slice a1 len1 cap1] w1 fun r w' => r = .returned (.tuple #[.string S1, .int .i64 0]) ∧ Below w1.heap.size w1 w'))
    (HB2 : Hid (∀ w1, Calls Try.prog 18 #[.string S1] w1 (Rd Kds L1 0 w1)))
    (M0 : List EX.Ext) (e0 f0 : Int) (T0 : ByteArray) (hB0 : Bk3 a2 e0 f0 T0)
    (HC : Hid (∀ w, Calls Try.prog 16 #[.string a2] w (Rd Exs M0 e0 w)))
    (HD : Hid (∀ (w : World) A c, Exs w A M0 → Calls Try.prog 10 #[.slice A M0.length c] w fun r w' => r = .returned (.tuple #[.string T0, .int .i64 f0]) ∧ Below w.heap.size w w'))
    (M1 : List LF.Kid) (e1 f1 : Int) (T1 : ByteArray) (hB1 : Bk3 a2 e1 f1 T1)
    (HE : Hid (∀ w, Calls Try.prog 18 #[.string a2] w (Rd Kds M1 e1 w)))
    (HF : Hid (∀ (w : World) A c, M1.length ≤ c → Kds w A M1 → Calls Try.prog 13 #[.slice A M1.length c] w fun r w' => r = .returned (.tuple #[.string T1, .int .i64 f1]) ∧ Below w.heap.size w w')) :
    Calls Try.prog 6 #[.slice a0 len0 cap0, .slice a1 len1 cap1, .string a2] w fun e w' => e = .returned (.bool true) ∧ Below w.heap.size w w' := by
  have hf0 : decide ((60 : Int) < (len0 : Int)) = false := decide_eq_false (by omega)
  have hf1 : decide ((60 : Int) < (len1 : Int)) = false := decide_eq_false (by omega)
  have hf2 : ¬ (2000 : Int) < (a2.size : Int) := by omega
  have hself := str_self a2
  have HL := Lib.hid hl0
  have HK := Lib.hid hl1
  have HS0 := Lib.hid hs0
  have HS1 := Lib.hid hs1
  have X0 := Lib.hid w0
  have K0 := Lib.hid w1
  clear hs0 hs1 hs2 hl0 hl1 w0 w1
  go_enter Try.func6, Try.ntmps6
  go_wp2_with fail
  refine (HA1.out _ (Below.refl _ _)).mono ?_
  rintro r u1 ⟨rfl, hb1⟩
  have B1 := Lib.hid hb1
  clear hb1
  go_wp2_with fail
  refine (HB1.out _ B1.out).mono ?_
  rintro r v1 ⟨rfl, hb1⟩
  have C1 := Lib.hid (bkept B1.out hb1)
  clear hb1
  go_wp2_with fail
  refine (HB2.out _).mono ?_
  rintro r v2 ⟨A5, n5, c5, rfl, hn5, _, hx5, hb5⟩
  obtain rfl : n5 = len1 := by rw [hn5, HK.out]
  have X5 := Lib.hid hx5
  have C2 := Lib.hid (bkept C1.out hb5)
  clear hx5 hb5 hn5
  go_wp2_with fail
  refine (LF.krefs_any L1 n5 c5 HK.out (by have := HS1.out; omega) A5 _ X5.out).mono ?_
  rintro r v3 ⟨A6, n6, c6, rfl, hn6, hx6, hb6⟩
  obtain rfl : n6 = n5 := by rw [hn6, HK.out]
  have X6 := Lib.hid hx6
  have C3 := Lib.hid (bkept C2.out hb6)
  clear hx6 hb6 hn6
  go_wp2_with fail
  refine (LF.krefs_any L1 n6 cap1 HK.out (by have := HS1.out; omega) a1 _ (K0.out.below C3.out)).mono ?_
  rintro r v4 ⟨A7, n7, c7, rfl, hn7, hx7, hb7⟩
  obtain rfl : n7 = n6 := by rw [hn7, HK.out]
  have HSN := Lib.hid (same_yes L1 n7 c6 c7 hn7 (by have := HS1.out; omega) A6 A7 v4 (X6.out.below hb7) hx7)
  have C4 := Lib.hid (bkept C3.out hb7)
  clear hx7 hb7 hn7
  go_wp2_with fail
  refine HSN.out.mono ?_
  rintro r v5 ⟨rfl, hb7⟩
  have C5 := Lib.hid (bkept C4.out hb7)
  clear hb7
  obtain ⟨m0, hm0⟩ : ∃ m, m = M0.length := ⟨_, rfl⟩
  obtain ⟨m1, hm1⟩ : ∃ m, m = M1.length := ⟨_, rfl⟩
  have HM0 := Lib.hid hm0
  have HM1 := Lib.hid hm1
  rw [← hm0] at HD
  rw [← hm1] at HF
  clear hm0 hm1
  go_wp2_with fail
  refine (HC.out _).mono ?_
  rintro r y1 ⟨A8, n8, c8, rfl, hn8, _, hx8, hb8⟩
  obtain rfl : n8 = m0 := by rw [hn8, HM0.out]
  have HDD := Lib.hid (HD.out y1 A8 c8 hx8)
  have D1 := Lib.hid (bkept C5.out hb8)
  clear hx8 hb8 hn8
  go_wp2_with fail
  refine HDD.out.mono ?_
  rintro r y2 ⟨rfl, hb8⟩
  have D2 := Lib.hid (bkept D1.out hb8)
  clear hb8
  go_wp2_with fail
  refine (HE.out _).mono ?_
  rintro r y3 ⟨A9, n9, c9, rfl, hn9, hcp, hx9, hb9⟩
  obtain rfl : n9 = m1 := by rw [hn9, HM1.out]
  have HFF := Lib.hid (HF.out y3 A9 c9 hcp hx9)
  have D3 := Lib.hid (bkept D2.out hb9)
  clear hx9 hb9 hn9 hcp
  go_wp2_with fail
  refine HFF.out.mono ?_
  rintro r y4 ⟨rfl, hb9⟩
  have D4 := Lib.hid (bkept D3.out hb9)
  clear hb9
  go_wp2_with fail
  refine (LF.awake_any _).mono ?_
  rintro r y5 ⟨rfl, hb9⟩
  have D5 := Lib.hid (bkept D4.out hb9)
  clear hb9
  cases hB0 <;> cases hB1
  all_goals go_wp2
  all_goals go_ret
  all_goals exact ⟨by simp, D5.out⟩
set_option maxHeartbeats 8000000 in
theorem back10 (a0 : Option Addr) (len0 cap0 : Nat) (L0 : List EX.Ext) (a1 : Option Addr) (len1 cap1 : Nat) (L1 : List LF.Kid) (a2 : ByteArray) (w : World) (hl0 : len0 = L0.length) (w0 : EX.Exs w a0 L0) (hl1 : len1 = L1.length) (w1 : LF.Kds w a1 L1) (hs0 : len0 ≤ 60) (hs1 : len1 ≤ 60) (hs2 : a2.size ≤ 2000)
    (S0 : ByteArray) (HA1 : Hid (∀ w1, Below w.heap.size w w1 → Calls Try.prog 10 #[.slice a0 len0 cap0] w1 fun r w' => r = .returned (.tuple #[.string S0, .int .i64 0]) ∧ Below w1.heap.size w1 w'))
    (HA2 : Hid (∀ w1, Calls Try.prog 16 #[.string S0] w1 (Rd Exs L0 0 w1)))
    (HB1 : Hid (∀ w1, Below w.heap.size w w1 → Calls Try.prog 13 #[.slice a1 len1 cap1] w1 fun r w' => r = .returned (.tuple #[.string ⟨#[]⟩, .int .i64 1]) ∧ Below w1.heap.size w1 w'))
    (M0 : List EX.Ext) (e0 f0 : Int) (T0 : ByteArray) (hB0 : Bk3 a2 e0 f0 T0)
    (HC : Hid (∀ w, Calls Try.prog 16 #[.string a2] w (Rd Exs M0 e0 w)))
    (HD : Hid (∀ (w : World) A c, Exs w A M0 → Calls Try.prog 10 #[.slice A M0.length c] w fun r w' => r = .returned (.tuple #[.string T0, .int .i64 f0]) ∧ Below w.heap.size w w'))
    (M1 : List LF.Kid) (e1 f1 : Int) (T1 : ByteArray) (hB1 : Bk3 a2 e1 f1 T1)
    (HE : Hid (∀ w, Calls Try.prog 18 #[.string a2] w (Rd Kds M1 e1 w)))
    (HF : Hid (∀ (w : World) A c, M1.length ≤ c → Kds w A M1 → Calls Try.prog 13 #[.slice A M1.length c] w fun r w' => r = .returned (.tuple #[.string T1, .int .i64 f1]) ∧ Below w.heap.size w w')) :
    Calls Try.prog 6 #[.slice a0 len0 cap0, .slice a1 len1 cap1, .string a2] w fun e w' => e = .returned (.bool true) ∧ Below w.heap.size w w' := by
  have hf0 : decide ((60 : Int) < (len0 : Int)) = false := decide_eq_false (by omega)
  have hf1 : decide ((60 : Int) < (len1 : Int)) = false := decide_eq_false (by omega)
  have hf2 : ¬ (2000 : Int) < (a2.size : Int) := by omega
  have hself := str_self a2
  have HL := Lib.hid hl0
  have HK := Lib.hid hl1
  have HS0 := Lib.hid hs0
  have HS1 := Lib.hid hs1
  have X0 := Lib.hid w0
  have K0 := Lib.hid w1
  clear hs0 hs1 hs2 hl0 hl1 w0 w1
  go_enter Try.func6, Try.ntmps6
  go_wp2_with fail
  refine (HA1.out _ (Below.refl _ _)).mono ?_
  rintro r u1 ⟨rfl, hb1⟩
  have B1 := Lib.hid hb1
  clear hb1
  go_wp2_with fail
  refine (HA2.out _).mono ?_
  rintro r u2 ⟨A2, n2, c2, rfl, hn2, _, hx2, hb2⟩
  obtain rfl : n2 = len0 := by rw [hn2, HL.out]
  have X2 := Lib.hid hx2
  have B2 := Lib.hid (bkept B1.out hb2)
  clear hx2 hb2 hn2
  go_wp2_with fail
  refine (LF.refs_any L0 n2 c2 HL.out (by have := HS0.out; omega) A2 _ X2.out).mono ?_
  rintro r u3 ⟨A3, n3, c3, rfl, hn3, hx3, hb3⟩
  obtain rfl : n3 = n2 := by rw [hn3, HL.out]
  have X3 := Lib.hid hx3
  have B3 := Lib.hid (bkept B2.out hb3)
  clear hx3 hb3 hn3
  go_wp2_with fail
  refine (LF.refs_any L0 n3 cap0 HL.out (by have := HS0.out; omega) a0 _ (X0.out.below B3.out)).mono ?_
  rintro r u4 ⟨A4, n4, c4, rfl, hn4, hx4, hb4⟩
  obtain rfl : n4 = n3 := by rw [hn4, HL.out]
  have HSM := Lib.hid (sameExts_yes L0 n4 c3 c4 hn4 (by have := HS0.out; omega) A3 A4 u4 (X3.out.below hb4) hx4)
  have B4 := Lib.hid (bkept B3.out hb4)
  clear hx4 hb4 hn4
  go_wp2_with fail
  refine HSM.out.mono ?_
  rintro r u5 ⟨rfl, hb5⟩
  have B5 := Lib.hid (bkept B4.out hb5)
  clear hb5
  go_wp2_with fail
  refine (HB1.out _ B5.out).mono ?_
  rintro r v1 ⟨rfl, hb1⟩
  have C1 := Lib.hid (bkept B5.out hb1)
  clear hb1
  obtain ⟨m0, hm0⟩ : ∃ m, m = M0.length := ⟨_, rfl⟩
  obtain ⟨m1, hm1⟩ : ∃ m, m = M1.length := ⟨_, rfl⟩
  have HM0 := Lib.hid hm0
  have HM1 := Lib.hid hm1
  rw [← hm0] at HD
  rw [← hm1] at HF
  clear hm0 hm1
  go_wp2_with fail
  refine (HC.out _).mono ?_
  rintro r y1 ⟨A8, n8, c8, rfl, hn8, _, hx8, hb8⟩
  obtain rfl : n8 = m0 := by rw [hn8, HM0.out]
  have HDD := Lib.hid (HD.out y1 A8 c8 hx8)
  have D1 := Lib.hid (bkept C1.out hb8)
  clear hx8 hb8 hn8
  go_wp2_with fail
  refine HDD.out.mono ?_
  rintro r y2 ⟨rfl, hb8⟩
  have D2 := Lib.hid (bkept D1.out hb8)
  clear hb8
  go_wp2_with fail
  refine (HE.out _).mono ?_
  rintro r y3 ⟨A9, n9, c9, rfl, hn9, hcp, hx9, hb9⟩
  obtain rfl : n9 = m1 := by rw [hn9, HM1.out]
  have HFF := Lib.hid (HF.out y3 A9 c9 hcp hx9)
  have D3 := Lib.hid (bkept D2.out hb9)
  clear hx9 hb9 hn9 hcp
  go_wp2_with fail
  refine HFF.out.mono ?_
  rintro r y4 ⟨rfl, hb9⟩
  have D4 := Lib.hid (bkept D3.out hb9)
  clear hb9
  go_wp2_with fail
  refine (LF.awake_any _).mono ?_
  rintro r y5 ⟨rfl, hb9⟩
  have D5 := Lib.hid (bkept D4.out hb9)
  clear hb9
  cases hB0 <;> cases hB1
  all_goals go_wp2
  all_goals go_ret
  all_goals exact ⟨by simp, D5.out⟩
set_option maxHeartbeats 8000000 in
theorem back11 (a0 : Option Addr) (len0 cap0 : Nat) (L0 : List EX.Ext) (a1 : Option Addr) (len1 cap1 : Nat) (L1 : List LF.Kid) (a2 : ByteArray) (w : World) (hl0 : len0 = L0.length) (w0 : EX.Exs w a0 L0) (hl1 : len1 = L1.length) (w1 : LF.Kds w a1 L1) (hs0 : len0 ≤ 60) (hs1 : len1 ≤ 60) (hs2 : a2.size ≤ 2000)
    (S0 : ByteArray) (HA1 : Hid (∀ w1, Below w.heap.size w w1 → Calls Try.prog 10 #[.slice a0 len0 cap0] w1 fun r w' => r = .returned (.tuple #[.string S0, .int .i64 0]) ∧ Below w1.heap.size w1 w'))
    (HA2 : Hid (∀ w1, Calls Try.prog 16 #[.string S0] w1 (Rd Exs L0 0 w1)))
    (S1 : ByteArray) (HB1 : Hid (∀ w1, Below w.heap.size w w1 → Calls Try.prog 13 #[.slice a1 len1 cap1] w1 fun r w' => r = .returned (.tuple #[.string S1, .int .i64 0]) ∧ Below w1.heap.size w1 w'))
    (HB2 : Hid (∀ w1, Calls Try.prog 18 #[.string S1] w1 (Rd Kds L1 0 w1)))
    (M0 : List EX.Ext) (e0 f0 : Int) (T0 : ByteArray) (hB0 : Bk3 a2 e0 f0 T0)
    (HC : Hid (∀ w, Calls Try.prog 16 #[.string a2] w (Rd Exs M0 e0 w)))
    (HD : Hid (∀ (w : World) A c, Exs w A M0 → Calls Try.prog 10 #[.slice A M0.length c] w fun r w' => r = .returned (.tuple #[.string T0, .int .i64 f0]) ∧ Below w.heap.size w w'))
    (M1 : List LF.Kid) (e1 f1 : Int) (T1 : ByteArray) (hB1 : Bk3 a2 e1 f1 T1)
    (HE : Hid (∀ w, Calls Try.prog 18 #[.string a2] w (Rd Kds M1 e1 w)))
    (HF : Hid (∀ (w : World) A c, M1.length ≤ c → Kds w A M1 → Calls Try.prog 13 #[.slice A M1.length c] w fun r w' => r = .returned (.tuple #[.string T1, .int .i64 f1]) ∧ Below w.heap.size w w')) :
    Calls Try.prog 6 #[.slice a0 len0 cap0, .slice a1 len1 cap1, .string a2] w fun e w' => e = .returned (.bool true) ∧ Below w.heap.size w w' := by
  have hf0 : decide ((60 : Int) < (len0 : Int)) = false := decide_eq_false (by omega)
  have hf1 : decide ((60 : Int) < (len1 : Int)) = false := decide_eq_false (by omega)
  have hf2 : ¬ (2000 : Int) < (a2.size : Int) := by omega
  have hself := str_self a2
  have HL := Lib.hid hl0
  have HK := Lib.hid hl1
  have HS0 := Lib.hid hs0
  have HS1 := Lib.hid hs1
  have X0 := Lib.hid w0
  have K0 := Lib.hid w1
  clear hs0 hs1 hs2 hl0 hl1 w0 w1
  go_enter Try.func6, Try.ntmps6
  go_wp2_with fail
  refine (HA1.out _ (Below.refl _ _)).mono ?_
  rintro r u1 ⟨rfl, hb1⟩
  have B1 := Lib.hid hb1
  clear hb1
  go_wp2_with fail
  refine (HA2.out _).mono ?_
  rintro r u2 ⟨A2, n2, c2, rfl, hn2, _, hx2, hb2⟩
  obtain rfl : n2 = len0 := by rw [hn2, HL.out]
  have X2 := Lib.hid hx2
  have B2 := Lib.hid (bkept B1.out hb2)
  clear hx2 hb2 hn2
  go_wp2_with fail
  refine (LF.refs_any L0 n2 c2 HL.out (by have := HS0.out; omega) A2 _ X2.out).mono ?_
  rintro r u3 ⟨A3, n3, c3, rfl, hn3, hx3, hb3⟩
  obtain rfl : n3 = n2 := by rw [hn3, HL.out]
  have X3 := Lib.hid hx3
  have B3 := Lib.hid (bkept B2.out hb3)
  clear hx3 hb3 hn3
  go_wp2_with fail
  refine (LF.refs_any L0 n3 cap0 HL.out (by have := HS0.out; omega) a0 _ (X0.out.below B3.out)).mono ?_
  rintro r u4 ⟨A4, n4, c4, rfl, hn4, hx4, hb4⟩
  obtain rfl : n4 = n3 := by rw [hn4, HL.out]
  have HSM := Lib.hid (sameExts_yes L0 n4 c3 c4 hn4 (by have := HS0.out; omega) A3 A4 u4 (X3.out.below hb4) hx4)
  have B4 := Lib.hid (bkept B3.out hb4)
  clear hx4 hb4 hn4
  go_wp2_with fail
  refine HSM.out.mono ?_
  rintro r u5 ⟨rfl, hb5⟩
  have B5 := Lib.hid (bkept B4.out hb5)
  clear hb5
  go_wp2_with fail
  refine (HB1.out _ B5.out).mono ?_
  rintro r v1 ⟨rfl, hb1⟩
  have C1 := Lib.hid (bkept B5.out hb1)
  clear hb1
  go_wp2_with fail
  refine (HB2.out _).mono ?_
  rintro r v2 ⟨A5, n5, c5, rfl, hn5, _, hx5, hb5⟩
  obtain rfl : n5 = len1 := by rw [hn5, HK.out]
  have X5 := Lib.hid hx5
  have C2 := Lib.hid (bkept C1.out hb5)
  clear hx5 hb5 hn5
  go_wp2_with fail
  refine (LF.krefs_any L1 n5 c5 HK.out (by have := HS1.out; omega) A5 _ X5.out).mono ?_
  rintro r v3 ⟨A6, n6, c6, rfl, hn6, hx6, hb6⟩
  obtain rfl : n6 = n5 := by rw [hn6, HK.out]
  have X6 := Lib.hid hx6
  have C3 := Lib.hid (bkept C2.out hb6)
  clear hx6 hb6 hn6
  go_wp2_with fail
  refine (LF.krefs_any L1 n6 cap1 HK.out (by have := HS1.out; omega) a1 _ (K0.out.below C3.out)).mono ?_
  rintro r v4 ⟨A7, n7, c7, rfl, hn7, hx7, hb7⟩
  obtain rfl : n7 = n6 := by rw [hn7, HK.out]
  have HSN := Lib.hid (same_yes L1 n7 c6 c7 hn7 (by have := HS1.out; omega) A6 A7 v4 (X6.out.below hb7) hx7)
  have C4 := Lib.hid (bkept C3.out hb7)
  clear hx7 hb7 hn7
  go_wp2_with fail
  refine HSN.out.mono ?_
  rintro r v5 ⟨rfl, hb7⟩
  have C5 := Lib.hid (bkept C4.out hb7)
  clear hb7
  obtain ⟨m0, hm0⟩ : ∃ m, m = M0.length := ⟨_, rfl⟩
  obtain ⟨m1, hm1⟩ : ∃ m, m = M1.length := ⟨_, rfl⟩
  have HM0 := Lib.hid hm0
  have HM1 := Lib.hid hm1
  rw [← hm0] at HD
  rw [← hm1] at HF
  clear hm0 hm1
  go_wp2_with fail
  refine (HC.out _).mono ?_
  rintro r y1 ⟨A8, n8, c8, rfl, hn8, _, hx8, hb8⟩
  obtain rfl : n8 = m0 := by rw [hn8, HM0.out]
  have HDD := Lib.hid (HD.out y1 A8 c8 hx8)
  have D1 := Lib.hid (bkept C5.out hb8)
  clear hx8 hb8 hn8
  go_wp2_with fail
  refine HDD.out.mono ?_
  rintro r y2 ⟨rfl, hb8⟩
  have D2 := Lib.hid (bkept D1.out hb8)
  clear hb8
  go_wp2_with fail
  refine (HE.out _).mono ?_
  rintro r y3 ⟨A9, n9, c9, rfl, hn9, hcp, hx9, hb9⟩
  obtain rfl : n9 = m1 := by rw [hn9, HM1.out]
  have HFF := Lib.hid (HF.out y3 A9 c9 hcp hx9)
  have D3 := Lib.hid (bkept D2.out hb9)
  clear hx9 hb9 hn9 hcp
  go_wp2_with fail
  refine HFF.out.mono ?_
  rintro r y4 ⟨rfl, hb9⟩
  have D4 := Lib.hid (bkept D3.out hb9)
  clear hb9
  go_wp2_with fail
  refine (LF.awake_any _).mono ?_
  rintro r y5 ⟨rfl, hb9⟩
  have D5 := Lib.hid (bkept D4.out hb9)
  clear hb9
  cases hB0 <;> cases hB1
  all_goals go_wp2
  all_goals go_ret
  all_goals exact ⟨by simp, D5.out⟩

theorem walk (a0 : Option Addr) (len0 cap0 : Nat) (L0 : List EX.Ext) (a1 : Option Addr) (len1 cap1 : Nat) (L1 : List LF.Kid) (a2 : ByteArray) (w : World) (hl0 : len0 = L0.length) (lm0 : len0 ≤ maxLen) (w0 : EX.Exs w a0 L0) (wf0 : ∀ e ∈ L0, EX.WfE e) (hl1 : len1 = L1.length) (lm1 : len1 ≤ maxLen) (w1 : LF.Kds w a1 L1) (wf1 : ∀ e ∈ L1, OP.WfK e) (lc1 : len1 ≤ cap1) (w2 : a2.size ≤ 140737488351232) :
    Calls Try.prog 6 #[.slice a0 len0 cap0, .slice a1 len1 cap1, .string a2] w fun e w' => e = .returned (.bool true) ∧ Below w.heap.size w w' := by
  by_cases hbig : len0 ≤ 60 ∧ len1 ≤ 60 ∧ a2.size ≤ 2000
  · obtain ⟨hs0, hs1, hs2⟩ := hbig
    have hs : a2.data.toList.length ≤ 140737488351232 := by have : a2.data.toList.length = a2.size := Array.length_toList; omega
    obtain ⟨M0, e0, f0, T0, hB0, hC, hD⟩ : ∃ M0 e0 f0 T0, Bk3 a2 e0 f0 T0 ∧ (∀ w, Calls Try.prog 16 #[.string a2] w (Rd Exs M0 e0 w)) ∧ (∀ (w : World) A c, Exs w A M0 → Calls Try.prog 10 #[.slice A M0.length c] w fun r w' => r = .returned (.tuple #[.string T0, .int .i64 f0]) ∧ Below w.heap.size w w') := by
      by_cases h : ∃ L, LF.Good nE a2.data.toList L
      · obtain ⟨L, h⟩ := h
        refine ⟨L, 0, 0, a2, .ok, fun w => (ReadLeaf_any _ hs w).mono fun r w' x => rd_good h x, fun w A c hx => ?_⟩
        have := Leaf_ok L L.length c rfl (by have := h.1.1.2; unfold maxLen; omega) A w hx h.1
        rwa [show nodeB eB L = a2.data.toList from h.2] at this
      · refine ⟨[], 3, 1, ⟨#[]⟩, .no, fun w => (ReadLeaf_any _ hs w).mono fun r w' x => rd_bad exs_none (fun L hL => h ⟨L, hL⟩) x, fun w A c hx => ?_⟩
        exact Leaf_no [] 0 c rfl (Nat.zero_le _) A w hx (fun _ h => (List.not_mem_nil h).elim) (fun h => absurd h.1.1 (by decide))
    obtain ⟨M1, e1, f1, T1, hB1, hE, hF⟩ : ∃ M1 e1 f1 T1, Bk3 a2 e1 f1 T1 ∧ (∀ w, Calls Try.prog 18 #[.string a2] w (Rd Kds M1 e1 w)) ∧ (∀ (w : World) A c, M1.length ≤ c → Kds w A M1 → Calls Try.prog 13 #[.slice A M1.length c] w fun r w' => r = .returned (.tuple #[.string T1, .int .i64 f1]) ∧ Below w.heap.size w w') := by
      by_cases h : ∃ L, LF.Good nK a2.data.toList L
      · obtain ⟨L, h⟩ := h
        refine ⟨L, 0, 0, a2, .ok, fun w => (ReadInner_any _ hs w).mono fun r w' x => rd_good h x, fun w A c hc hx => ?_⟩
        have := Inner_ok L L.length c rfl (by have := h.1.1.2; unfold maxLen; omega) hc A w hx h.1
        rwa [show nodeB kB L = a2.data.toList from h.2] at this
      · refine ⟨[], 3, 1, ⟨#[]⟩, .no, fun w => (ReadInner_any _ hs w).mono fun r w' x => rd_bad kds_none (fun L hL => h ⟨L, hL⟩) x, fun w A c hc hx => ?_⟩
        exact Inner_no [] 0 c rfl (Nat.zero_le _) hc A w hx (fun h => absurd h.1.1 (by decide))
    by_cases v0 : Leafy L0
    · have a1_ : Hid (∀ u, Below w.heap.size w u → Calls Try.prog 10 #[.slice a0 len0 cap0] u fun r w' => r = .returned (.tuple #[.string (str (nodeB eB L0)), .int .i64 0]) ∧ Below u.heap.size u w') := Lib.hid fun u hu => Leaf_ok L0 len0 cap0 hl0 lm0 a0 u (w0.below hu) v0
      have a2_ : Hid (∀ u, Calls Try.prog 16 #[.string (str (nodeB eB L0))] u (Rd Exs L0 0 u)) := Lib.hid fun u => (ReadLeaf_any (nodeB eB L0) (by rw [nodeB_len eB 10 eB_len]; have := v0.1.2; omega) u).mono fun r w' x => rd_good (X := nE) ⟨v0, rfl⟩ x
      by_cases v1 : Kidy L1
      · have b1_ : Hid (∀ u, Below w.heap.size w u → Calls Try.prog 13 #[.slice a1 len1 cap1] u fun r w' => r = .returned (.tuple #[.string (str (nodeB kB L1)), .int .i64 0]) ∧ Below u.heap.size u w') := Lib.hid fun u hu => Inner_ok L1 len1 cap1 hl1 lm1 lc1 a1 u (w1.below hu) v1
        have b2_ : Hid (∀ u, Calls Try.prog 18 #[.string (str (nodeB kB L1))] u (Rd Kds L1 0 u)) := Lib.hid fun u => (ReadInner_any (nodeB kB L1) (by rw [nodeB_len kB 5 kB_len]; have := v1.1.2; omega) u).mono fun r w' x => rd_good (X := nK) ⟨v1, rfl⟩ x
        exact back11 a0 len0 cap0 L0 a1 len1 cap1 L1 a2 w hl0 w0 hl1 w1 hs0 hs1 hs2 _ a1_ a2_ _ b1_ b2_ M0 e0 f0 T0 hB0 (Lib.hid hC) (Lib.hid hD) M1 e1 f1 T1 hB1 (Lib.hid hE) (Lib.hid hF)
      · have b1_ : Hid (∀ u, Below w.heap.size w u → Calls Try.prog 13 #[.slice a1 len1 cap1] u fun r w' => r = .returned (.tuple #[.string ⟨#[]⟩, .int .i64 1]) ∧ Below u.heap.size u w') := Lib.hid fun u hu => Inner_no L1 len1 cap1 hl1 lm1 lc1 a1 u (w1.below hu) v1
        exact back10 a0 len0 cap0 L0 a1 len1 cap1 L1 a2 w hl0 w0 hl1 w1 hs0 hs1 hs2 _ a1_ a2_ b1_ M0 e0 f0 T0 hB0 (Lib.hid hC) (Lib.hid hD) M1 e1 f1 T1 hB1 (Lib.hid hE) (Lib.hid hF)
    · have a1_ : Hid (∀ u, Below w.heap.size w u → Calls Try.prog 10 #[.slice a0 len0 cap0] u fun r w' => r = .returned (.tuple #[.string ⟨#[]⟩, .int .i64 1]) ∧ Below u.heap.size u w') := Lib.hid fun u hu => Leaf_no L0 len0 cap0 hl0 lm0 a0 u (w0.below hu) wf0 v0
      by_cases v1 : Kidy L1
      · have b1_ : Hid (∀ u, Below w.heap.size w u → Calls Try.prog 13 #[.slice a1 len1 cap1] u fun r w' => r = .returned (.tuple #[.string (str (nodeB kB L1)), .int .i64 0]) ∧ Below u.heap.size u w') := Lib.hid fun u hu => Inner_ok L1 len1 cap1 hl1 lm1 lc1 a1 u (w1.below hu) v1
        have b2_ : Hid (∀ u, Calls Try.prog 18 #[.string (str (nodeB kB L1))] u (Rd Kds L1 0 u)) := Lib.hid fun u => (ReadInner_any (nodeB kB L1) (by rw [nodeB_len kB 5 kB_len]; have := v1.1.2; omega) u).mono fun r w' x => rd_good (X := nK) ⟨v1, rfl⟩ x
        exact back01 a0 len0 cap0 L0 a1 len1 cap1 L1 a2 w hl0 w0 hl1 w1 hs0 hs1 hs2 a1_ _ b1_ b2_ M0 e0 f0 T0 hB0 (Lib.hid hC) (Lib.hid hD) M1 e1 f1 T1 hB1 (Lib.hid hE) (Lib.hid hF)
      · have b1_ : Hid (∀ u, Below w.heap.size w u → Calls Try.prog 13 #[.slice a1 len1 cap1] u fun r w' => r = .returned (.tuple #[.string ⟨#[]⟩, .int .i64 1]) ∧ Below u.heap.size u w') := Lib.hid fun u hu => Inner_no L1 len1 cap1 hl1 lm1 lc1 a1 u (w1.below hu) v1
        exact back00 a0 len0 cap0 L0 a1 len1 cap1 L1 a2 w hl0 w0 hl1 w1 hs0 hs1 hs2 a1_ b1_ M0 e0 f0 T0 hB0 (Lib.hid hC) (Lib.hid hD) M1 e1 f1 T1 hB1 (Lib.hid hE) (Lib.hid hF)
  · exact big a0 len0 cap0 a1 len1 cap1 a2 w hbig

set_option maxRecDepth 100000 in
theorem lifted (os : Os) (started : os.Started) (H : Type) (enc : TypeId × Value → H) :
    ReturnsInHanded {} Try.checked os 6 .any (Rows.leafBackSpec.pre6 enc Try.prog Try.f6 Rows.leafBackRow.domain false) (Rows.leafBackSpec.post enc Try.prog Try.f6 false true false false) := by
  refine returnsInHanded_of_change_sized (C := Try.checked) own started (by kernel_rfl) Try.func6
    (ChangeSpec.witness6 (enc := enc) (C := Try.checked) false ⟨#[], #[.slice none 0 0, .slice none 0 0, .string ByteArray.empty], []⟩ 8 (by kernel_rfl) (by kernel_rfl) (by kernel_rfl) (by kernel_rfl)) ?_
  intro W base args ds gs before hval0 hW hcnd hsz0 _
  have hval : ∀ (j : Nat) t v, Try.f6.params[j]? = some t → args[j]? = some v → Value.okWide Try.prog W .any base t v := hval0
  have hW' := hW
  obtain ⟨p, q, hA0, hV, rfl, hfz, hnd⟩ := hW
  have hA : DataW.TrodAll enc Try.prog W 0 (fun _ => true) true Try.f6.params.toList args.toList ds p := hA0
  have hsz : (DataW.weightsEach Try.prog (Try.f6.params.toList ++ Rows.leafBackSpec.plain.varTypes Try.prog) (ds ++ gs)).all (· ≤ reachBytes) = true := hsz0
  rw [Try.params6] at hA hval hsz
  obtain ⟨v0, vs0, d0, ds0, p0, q0, hargs, rfl, rfl, h0, r0⟩ := trodAll_cons hA
  obtain ⟨v1, vs1, d1, ds1, p1, q1, rfl, rfl, rfl, h1, r1⟩ := trodAll_cons r0
  obtain ⟨v2, vs2, d2, ds2, p2, q2, rfl, rfl, rfl, h2, r2⟩ := trodAll_cons r1
  obtain ⟨rfl, rfl, rfl⟩ := trodAll_nil r2
  obtain rfl : args = #[v0, v1, v2] := by cases args; simp_all
  obtain ⟨rfl, rfl⟩ := trodVars_none hV
  have k0 := h0
  have lt0 : ∀ x ∈ p0, x.block < W.heap.size := by obtain ⟨m, hm⟩ := k0; exact DataW.trod_lt m _ _ _ hm
  obtain ⟨a0, len0, cap0, L0, rfl, hl0, lm0, w0, wf0⟩ := OP.open_exts (hval 0 22 v0 rfl rfl) h0
  have k1 := h1
  have lt1 : ∀ x ∈ p1, x.block < W.heap.size := by obtain ⟨m, hm⟩ := k1; exact DataW.trod_lt m _ _ _ hm
  obtain ⟨a1, len1, cap1, L1, rfl, hl1, lm1, w1, wf1, lc1⟩ := OP.open_kids (hval 1 32 v1 rfl rfl) h1
  obtain ⟨a2, rfl, rfl, rfl, m2⟩ := open_string Try.underlying9 (hval 2 9 v2 rfl rfl) h2
  have w2 : a2.size ≤ 140737488351232 := by have := sized_string hsz (j := 2) (t := 9) (bytes := a2.data.toList) rfl rfl; simpa [reachBytes] using this
  clear hA0 hval0 hsz0
  refine (walk a0 len0 cap0 L0 a1 len1 cap1 L1 a2 W hl0 lm0 w0 wf0 hl1 lm1 w1 wf1 lc1 w2).mono fun e W' ⟨he, bel⟩ => ?_
  subst he
  exact ⟨_, rfl, _, _, _, [], _, [], hW', trodAll_mk1 (shut_bool Try.underlying4 _), (trodAll_cons_mk (Below.trod laidOut (by kernel_rfl) (of_decide_eq_true (by kernel_rfl)) k0 bel lt0) (trodAll_cons_mk (Below.trod laidOut (by kernel_rfl) (of_decide_eq_true (by kernel_rfl)) k1 bel lt1) (trodAll_cons_mk (shut_string Try.underlying9 m2) trodAll_mk0))), rfl, bel.frame _, fun h => by cases h⟩

theorem over : Rows.leafBackRow.holds Try.pinned (OpenSpec.ofChange Rows.leafBackSpec) :=
  OpenClaim.holds_of_wide 6 Try.f6 rfl rfl rfl rfl rfl rfl rfl ⟨rfl, rfl, rfl, rfl, rfl⟩ rfl rfl rfl rfl rfl (by kernel_rfl) Try.func6 (by kernel_rfl)
    (of_decide_eq_true (by kernel_rfl)) (by unfold Func.isWrapper; first | (rw [if_pos (by decide +kernel)]; kernel_rfl) | (rw [if_neg (by decide +kernel)]; exact ⟨rfl, rfl⟩))
    (fun os started H enc _ => lifted os started H enc)

theorem proved : Rows.LeafBackSaid := over
#print axioms proved
end Go.Proofs.Ytmndbdkodijlbaa.leafBack
