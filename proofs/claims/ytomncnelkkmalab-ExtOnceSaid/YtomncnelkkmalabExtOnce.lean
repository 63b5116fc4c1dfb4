/- The law ExtOnce holds: its Go text answers true for every input, and leaves its arguments as they were. No condition beyond the statement's own. -/
import Derived.Test.YtomncnelkkmalabRows
import Derived.Test.YtomncnelkkmalabExU
import Derived.Test.YtomncnelkkmalabExL
import Derived.Test.YtomncnelkkmalabExMath4
import Derived.Test.YtomncnelkkmalabExR4
import Derived.Test.YtomncnelkkmalabExW
import Derived.Test.YtomncnelkkmalabOpen7
import Derived.Test.YtomncnelkkmalabOpen
import Derived.ProofKit
import Derived.OpenShut
import Derived.ShutString
import Derived.ChangeOld
import Derived.Below
import Derived.SizedLaws
namespace Go.Proofs.Ytomncnelkkmalab.extOnce
open Go.ChangeShapes Go.WideShapes Go.ChangeAt Go.RowKit
open Go.ChangeMaps (open_string shut_string)
open Go.Proofs.Ytomncnelkkmalab.FM
set_option linter.unusedVariables false
set_option linter.unusedSimpArgs false

theorem own : ownKnob Try.prog.godebug = none := by kernel_rfl
theorem laidOut : laidOutB Try.prog = true := by kernel_rfl

open MM EX OP

/-- The two extents' boxes. -/
structure Tw (w : World) (x1 x2 : Ext) (w' : World) : Prop where
  a : Blk w' w.heap.size 24 #[.int .i64 x1.from_, .int .i64 x1.n, .int .i64 x1.kind, .int .i64 x1.at_]
  b : Blk w' (w.heap.size + 1) 24 #[.int .i64 x2.from_, .int .i64 x2.n, .int .i64 x2.kind, .int .i64 x2.at_]
  bel : Below w.heap.size w w'
theorem Tw.below {w w1 w2 : World} {x1 x2 : Ext} (h : Tw w x1 x2 w1) (hb : Below w1.heap.size w1 w2) : Tw w x1 x2 w2 := ⟨h.a.below hb h.a.lt, h.b.below hb h.b.lt, h.bel.trans (hb.mono (Nat.le_of_lt h.a.lt))⟩

set_option maxHeartbeats 4000000 in
theorem fail_t (a0 : Option Addr) (len0 cap0 : Nat) (L0 : List EX.Ext) (x1 x2 : EX.Ext) (w : World) (hl0 : len0 = L0.length) (lm0 : len0 ≤ maxLen) (w0 : Exs w a0 L0) (HF : Hid (∀ w, Calls Try.prog 10 #[.slice a0 len0 cap0] w fun r w' => r = .returned (.bool true) ∧ w = w')) (HO1 : Hid (∀ w1, Below w.heap.size w w1 → Calls Try.prog 9 #[.slice a0 len0 cap0, .agg #[.int .i64 x1.from_, .int .i64 x1.n, .int .i64 x1.kind, .int .i64 x1.at_]] w1 (Failed w1))) :
    Calls Try.prog 3 #[.slice a0 len0 cap0, .agg #[.int .i64 x1.from_, .int .i64 x1.n, .int .i64 x1.kind, .int .i64 x1.at_], .agg #[.int .i64 x2.from_, .int .i64 x2.n, .int .i64 x2.kind, .int .i64 x2.at_]] w fun e w' => e = .returned (.bool true) ∧ Below w.heap.size w w' := by
  obtain ⟨W, hW⟩ : ∃ W, W = (w.alloc (.cells #[.int .i64 x1.from_, .int .i64 x1.n, .int .i64 x1.kind, .int .i64 x1.at_] 24)).alloc (.cells #[.int .i64 x2.from_, .int .i64 x2.n, .int .i64 x2.kind, .int .i64 x2.at_] 24) := ⟨_, rfl⟩
  obtain ⟨k1, k2, hb0⟩ := box_two w _ _ _ _ W hW
  have TW : Hid (Tw w x1 x2 W) := Lib.hid ⟨k1, k2, hb0⟩
  have HX := Lib.hid w0
  have HL := Lib.hid hl0
  have HW := Lib.hid hW
  clear hl0 w0 hW k1 k2 hb0
  obtain ⟨⟨a1', a2', a3', a4'⟩, _⟩ := cells4 TW.out.a
  obtain ⟨⟨b1', b2', b3', b4'⟩, _⟩ := cells4 TW.out.b
  go_enter Try.func3, Try.ntmps3
  go_wp2_with fail
  rw [← HW.out]
  refine (HO1.out _ TW.out.bel).mono ?_
  rintro r w2 ⟨rfl, hb2⟩
  have TW2 := Lib.hid (TW.out.below hb2)
  clear hb2 HO1
  clear a1' a2' a3' a4' b1' b2' b3' b4'
  obtain ⟨⟨a1', a2', a3', a4'⟩, _⟩ := cells4 TW2.out.a
  obtain ⟨⟨b1', b2', b3', b4'⟩, _⟩ := cells4 TW2.out.b
  go_wp2_with fail
  refine (HF.out _).mono ?_
  rintro r w3 ⟨rfl, rfl⟩
  clear HF
  clear a1' a2' a3' a4' b1' b2' b3' b4'
  go_wp2_with fail
  refine (awake_any _).mono ?_
  rintro r w90 ⟨rfl, hb90⟩
  have B90 := Lib.hid (TW2.out.below hb90).bel
  clear hb90
  go_wp2
  go_ret
  exact ⟨rfl, B90.out⟩

set_option maxHeartbeats 4000000 in
theorem fail_f (a0 : Option Addr) (len0 cap0 : Nat) (L0 : List EX.Ext) (x1 x2 : EX.Ext) (w : World) (hl0 : len0 = L0.length) (lm0 : len0 ≤ maxLen) (w0 : Exs w a0 L0) (HF : Hid (∀ w, Calls Try.prog 10 #[.slice a0 len0 cap0] w fun r w' => r = .returned (.bool false) ∧ w = w')) (HO1 : Hid (∀ w1, Below w.heap.size w w1 → Calls Try.prog 9 #[.slice a0 len0 cap0, .agg #[.int .i64 x1.from_, .int .i64 x1.n, .int .i64 x1.kind, .int .i64 x1.at_]] w1 (Failed w1))) :
    Calls Try.prog 3 #[.slice a0 len0 cap0, .agg #[.int .i64 x1.from_, .int .i64 x1.n, .int .i64 x1.kind, .int .i64 x1.at_], .agg #[.int .i64 x2.from_, .int .i64 x2.n, .int .i64 x2.kind, .int .i64 x2.at_]] w fun e w' => e = .returned (.bool true) ∧ Below w.heap.size w w' := by
  obtain ⟨W, hW⟩ : ∃ W, W = (w.alloc (.cells #[.int .i64 x1.from_, .int .i64 x1.n, .int .i64 x1.kind, .int .i64 x1.at_] 24)).alloc (.cells #[.int .i64 x2.from_, .int .i64 x2.n, .int .i64 x2.kind, .int .i64 x2.at_] 24) := ⟨_, rfl⟩
  obtain ⟨k1, k2, hb0⟩ := box_two w _ _ _ _ W hW
  have TW : Hid (Tw w x1 x2 W) := Lib.hid ⟨k1, k2, hb0⟩
  have HX := Lib.hid w0
  have HL := Lib.hid hl0
  have HW := Lib.hid hW
  clear hl0 w0 hW k1 k2 hb0
  obtain ⟨⟨a1', a2', a3', a4'⟩, _⟩ := cells4 TW.out.a
  obtain ⟨⟨b1', b2', b3', b4'⟩, _⟩ := cells4 TW.out.b
  go_enter Try.func3, Try.ntmps3
  go_wp2_with fail
  rw [← HW.out]
  refine (HO1.out _ TW.out.bel).mono ?_
  rintro r w2 ⟨rfl, hb2⟩
  have TW2 := Lib.hid (TW.out.below hb2)
  clear hb2 HO1
  clear a1' a2' a3' a4' b1' b2' b3' b4'
  obtain ⟨⟨a1', a2', a3', a4'⟩, _⟩ := cells4 TW2.out.a
  obtain ⟨⟨b1', b2', b3', b4'⟩, _⟩ := cells4 TW2.out.b
  go_wp2_with fail
  refine (HF.out _).mono ?_
  rintro r w3 ⟨rfl, rfl⟩
  clear HF
  clear a1' a2' a3' a4' b1' b2' b3' b4'
  go_wp2_with fail
  refine (awake_any _).mono ?_
  rintro r w90 ⟨rfl, hb90⟩
  have B90 := Lib.hid (TW2.out.below hb90).bel
  clear hb90
  go_wp2
  go_ret
  exact ⟨rfl, B90.out⟩

set_option maxHeartbeats 4000000 in
theorem far (a0 : Option Addr) (len0 cap0 : Nat) (L0 : List EX.Ext) (x1 x2 : EX.Ext) (w : World) (hl0 : len0 = L0.length) (lm0 : len0 ≤ maxLen) (w0 : Exs w a0 L0) (HF : Hid (∀ w, Calls Try.prog 10 #[.slice a0 len0 cap0] w fun r w' => r = .returned (.bool false) ∧ w = w')) (HO1 : Hid (∀ w1, Below w.heap.size w w1 → Calls Try.prog 9 #[.slice a0 len0 cap0, .agg #[.int .i64 x1.from_, .int .i64 x1.n, .int .i64 x1.kind, .int .i64 x1.at_]] w1 (TupEnd (over L0 x1) w1))) :
    Calls Try.prog 3 #[.slice a0 len0 cap0, .agg #[.int .i64 x1.from_, .int .i64 x1.n, .int .i64 x1.kind, .int .i64 x1.at_], .agg #[.int .i64 x2.from_, .int .i64 x2.n, .int .i64 x2.kind, .int .i64 x2.at_]] w fun e w' => e = .returned (.bool true) ∧ Below w.heap.size w w' := by
  obtain ⟨W, hW⟩ : ∃ W, W = (w.alloc (.cells #[.int .i64 x1.from_, .int .i64 x1.n, .int .i64 x1.kind, .int .i64 x1.at_] 24)).alloc (.cells #[.int .i64 x2.from_, .int .i64 x2.n, .int .i64 x2.kind, .int .i64 x2.at_] 24) := ⟨_, rfl⟩
  obtain ⟨k1, k2, hb0⟩ := box_two w _ _ _ _ W hW
  have TW : Hid (Tw w x1 x2 W) := Lib.hid ⟨k1, k2, hb0⟩
  have HX := Lib.hid w0
  have HL := Lib.hid hl0
  have HW := Lib.hid hW
  clear hl0 w0 hW k1 k2 hb0
  obtain ⟨⟨a1', a2', a3', a4'⟩, _⟩ := cells4 TW.out.a
  obtain ⟨⟨b1', b2', b3', b4'⟩, _⟩ := cells4 TW.out.b
  go_enter Try.func3, Try.ntmps3
  go_wp2_with fail
  rw [← HW.out]
  refine (HO1.out _ TW.out.bel).mono ?_
  rintro r w2 ⟨A2, n2, c2, rfl, hn2, hx2, hb2⟩
  have N2 := Lib.hid hn2
  have X2 := Lib.hid hx2
  have TW2 := Lib.hid (TW.out.below hb2)
  clear hb2 hn2 hx2 HO1
  clear a1' a2' a3' a4' b1' b2' b3' b4'
  obtain ⟨⟨a1', a2', a3', a4'⟩, _⟩ := cells4 TW2.out.a
  obtain ⟨⟨b1', b2', b3', b4'⟩, _⟩ := cells4 TW2.out.b
  go_wp2_with fail
  refine (HF.out _).mono ?_
  rintro r w3 ⟨rfl, rfl⟩
  clear HF
  clear a1' a2' a3' a4' b1' b2' b3' b4'
  go_wp2_with fail
  refine (awake_any _).mono ?_
  rintro r w90 ⟨rfl, hb90⟩
  have B90 := Lib.hid (TW2.out.below hb90).bel
  clear hb90
  go_wp2
  go_ret
  exact ⟨rfl, B90.out⟩

set_option maxHeartbeats 4000000 in
theorem nob (a0 : Option Addr) (len0 cap0 : Nat) (L0 : List EX.Ext) (x1 x2 : EX.Ext) (w : World) (hl0 : len0 = L0.length) (lm0 : len0 ≤ maxLen) (w0 : Exs w a0 L0) (HF : Hid (∀ w, Calls Try.prog 10 #[.slice a0 len0 cap0] w fun r w' => r = .returned (.bool true) ∧ w = w')) (HO1 : Hid (∀ w1, Below w.heap.size w w1 → Calls Try.prog 9 #[.slice a0 len0 cap0, .agg #[.int .i64 x1.from_, .int .i64 x1.n, .int .i64 x1.kind, .int .i64 x1.at_]] w1 (TupEnd (over L0 x1) w1))) (HB1 : Hid (∀ w, Calls Try.prog 11 #[.agg #[.int .i64 x2.from_, .int .i64 x2.n, .int .i64 x2.kind, .int .i64 x2.at_]] w fun r w' => r = .returned (.bool false) ∧ Below w.heap.size w w')) :
    Calls Try.prog 3 #[.slice a0 len0 cap0, .agg #[.int .i64 x1.from_, .int .i64 x1.n, .int .i64 x1.kind, .int .i64 x1.at_], .agg #[.int .i64 x2.from_, .int .i64 x2.n, .int .i64 x2.kind, .int .i64 x2.at_]] w fun e w' => e = .returned (.bool true) ∧ Below w.heap.size w w' := by
  obtain ⟨W, hW⟩ : ∃ W, W = (w.alloc (.cells #[.int .i64 x1.from_, .int .i64 x1.n, .int .i64 x1.kind, .int .i64 x1.at_] 24)).alloc (.cells #[.int .i64 x2.from_, .int .i64 x2.n, .int .i64 x2.kind, .int .i64 x2.at_] 24) := ⟨_, rfl⟩
  obtain ⟨k1, k2, hb0⟩ := box_two w _ _ _ _ W hW
  have TW : Hid (Tw w x1 x2 W) := Lib.hid ⟨k1, k2, hb0⟩
  have HX := Lib.hid w0
  have HL := Lib.hid hl0
  have HW := Lib.hid hW
  clear hl0 w0 hW k1 k2 hb0
  obtain ⟨⟨a1', a2', a3', a4'⟩, _⟩ := cells4 TW.out.a
  obtain ⟨⟨b1', b2', b3', b4'⟩, _⟩ := cells4 TW.out.b
  go_enter Try.func3, Try.ntmps3
  go_wp2_with fail
  rw [← HW.out]
  refine (HO1.out _ TW.out.bel).mono ?_
  rintro r w2 ⟨A2, n2, c2, rfl, hn2, hx2, hb2⟩
  have N2 := Lib.hid hn2
  have X2 := Lib.hid hx2
  have TW2 := Lib.hid (TW.out.below hb2)
  clear hb2 hn2 hx2 HO1
  clear a1' a2' a3' a4' b1' b2' b3' b4'
  obtain ⟨⟨a1', a2', a3', a4'⟩, _⟩ := cells4 TW2.out.a
  obtain ⟨⟨b1', b2', b3', b4'⟩, _⟩ := cells4 TW2.out.b
  go_wp2_with fail
  refine (HF.out _).mono ?_
  rintro r w3 ⟨rfl, rfl⟩
  clear HF
  go_wp2_with fail
  refine (HB1.out _).mono ?_
  rintro r w4 ⟨rfl, hb4⟩
  have TW4 := Lib.hid (TW2.out.below hb4)
  have X4 := Lib.hid (X2.out.below hb4)
  clear hb4 HB1
  clear a1' a2' a3' a4' b1' b2' b3' b4'
  go_wp2_with fail
  refine (awake_any _).mono ?_
  rintro r w90 ⟨rfl, hb90⟩
  have B90 := Lib.hid (TW4.out.below hb90).bel
  clear hb90
  go_wp2
  go_ret
  exact ⟨rfl, B90.out⟩

set_option maxHeartbeats 4000000 in
theorem meet (a0 : Option Addr) (len0 cap0 : Nat) (L0 : List EX.Ext) (x1 x2 : EX.Ext) (w : World) (hl0 : len0 = L0.length) (lm0 : len0 ≤ maxLen) (w0 : Exs w a0 L0) (HF : Hid (∀ w, Calls Try.prog 10 #[.slice a0 len0 cap0] w fun r w' => r = .returned (.bool true) ∧ w = w')) (HO1 : Hid (∀ w1, Below w.heap.size w w1 → Calls Try.prog 9 #[.slice a0 len0 cap0, .agg #[.int .i64 x1.from_, .int .i64 x1.n, .int .i64 x1.kind, .int .i64 x1.at_]] w1 (TupEnd (over L0 x1) w1))) (HB1 : Hid (∀ w, Calls Try.prog 11 #[.agg #[.int .i64 x2.from_, .int .i64 x2.n, .int .i64 x2.kind, .int .i64 x2.at_]] w fun r w' => r = .returned (.bool true) ∧ Below w.heap.size w w')) (hv : Valid L0) (ha : EX.One x1) (hb : EX.One x2) (m1 : x1.from_ - x2.from_ < x2.n) (m2 : x2.from_ - x1.from_ < x1.n) :
    Calls Try.prog 3 #[.slice a0 len0 cap0, .agg #[.int .i64 x1.from_, .int .i64 x1.n, .int .i64 x1.kind, .int .i64 x1.at_], .agg #[.int .i64 x2.from_, .int .i64 x2.n, .int .i64 x2.kind, .int .i64 x2.at_]] w fun e w' => e = .returned (.bool true) ∧ Below w.heap.size w w' := by
  have HV := Lib.hid hv
  have HA := Lib.hid ha
  have HB := Lib.hid hb
  have hl16 := valid_len hv
  have HCU := Lib.hid (fun w1 (h : Below w.heap.size w w1) => cut_yes L0 len0 cap0 hl0 lm0 a0 x1.from_ x1.n w1 (w0.below h) hv (one_rng ha))
  have HOB := Lib.hid (fun w1 (h : Below w.heap.size w w1) => over_yes L0 len0 cap0 hl0 lm0 a0 x2 w1 (w0.below h) hv hb)
  have R1 := one_rng ha
  have R2 := one_rng hb
  have l1 := ha.pos
  have l2 := hb.pos
  have hov : (over L0 x1).length ≤ 16777216 := valid_len (over_ok hv ha)
  have hob : (over L0 x2).length ≤ 16777216 := valid_len (over_ok hv hb)
  have hcu : (cut L0 x1.from_ x1.n).length ≤ 16777216 := valid_len (cut_ok hv R1.2.1)
  have hoo : (over (over L0 x1) x2).length ≤ 16777216 := valid_len (over_ok (over_ok hv ha) hb)
  have HOV' := Lib.hid hov
  have HOB' := Lib.hid hob
  have HCU' := Lib.hid hcu
  have HOO' := Lib.hid hoo
  clear hv ha hb hl16 hov hob hcu hoo
  have e1 : IntKind.i64.wrap (x1.from_ - x2.from_) = x1.from_ - x2.from_ := IntWalk.i64_in _ (by omega)
  have e2 : IntKind.i64.wrap (x2.from_ - x1.from_) = x2.from_ - x1.from_ := IntWalk.i64_in _ (by omega)
  have d1 : decide (x1.from_ - x2.from_ < x2.n) = true := decide_eq_true m1
  have d2 : decide (x2.from_ - x1.from_ < x1.n) = true := decide_eq_true m2
  obtain ⟨W, hW⟩ : ∃ W, W = (w.alloc (.cells #[.int .i64 x1.from_, .int .i64 x1.n, .int .i64 x1.kind, .int .i64 x1.at_] 24)).alloc (.cells #[.int .i64 x2.from_, .int .i64 x2.n, .int .i64 x2.kind, .int .i64 x2.at_] 24) := ⟨_, rfl⟩
  obtain ⟨k1, k2, hb0⟩ := box_two w _ _ _ _ W hW
  have TW : Hid (Tw w x1 x2 W) := Lib.hid ⟨k1, k2, hb0⟩
  have HX := Lib.hid w0
  have HL := Lib.hid hl0
  have HW := Lib.hid hW
  clear hl0 w0 hW k1 k2 hb0
  obtain ⟨⟨a1', a2', a3', a4'⟩, _⟩ := cells4 TW.out.a
  obtain ⟨⟨b1', b2', b3', b4'⟩, _⟩ := cells4 TW.out.b
  go_enter Try.func3, Try.ntmps3
  go_wp2_with fail
  rw [← HW.out]
  refine (HO1.out _ TW.out.bel).mono ?_
  rintro r w2 ⟨A2, n2, c2, rfl, hn2, hx2, hb2⟩
  have N2 := Lib.hid hn2
  have X2 := Lib.hid hx2
  have TW2 := Lib.hid (TW.out.below hb2)
  clear hb2 hn2 hx2 HO1
  clear a1' a2' a3' a4' b1' b2' b3' b4'
  obtain ⟨⟨a1', a2', a3', a4'⟩, _⟩ := cells4 TW2.out.a
  obtain ⟨⟨b1', b2', b3', b4'⟩, _⟩ := cells4 TW2.out.b
  go_wp2_with fail
  refine (HF.out _).mono ?_
  rintro r w3 ⟨rfl, rfl⟩
  clear HF
  go_wp2_with fail
  refine (HB1.out _).mono ?_
  rintro r w4 ⟨rfl, hb4⟩
  have TW4 := Lib.hid (TW2.out.below hb4)
  have X4 := Lib.hid (X2.out.below hb4)
  clear hb4 HB1
  clear a1' a2' a3' a4' b1' b2' b3' b4'
  obtain ⟨⟨a1', a2', a3', a4'⟩, _⟩ := cells4 TW4.out.a
  obtain ⟨⟨b1', b2', b3', b4'⟩, _⟩ := cells4 TW4.out.b
  go_wp2_with fail
  refine (over_yes _ n2 c2 N2.out (by rw [N2.out]; unfold maxLen; have := HOV'.out; omega) A2 x1 _ X4.out (over_ok HV.out HA.out) HA.out).mono ?_
  rintro r w5 ⟨A5, n5, c5, rfl, hn5, hx5, hb5⟩
  rw [over_over HV.out HA.out] at hn5 hx5
  have hs5 : n2 = n5 := by rw [hn5, N2.out]
  subst hs5
  have X5_ := Lib.hid hx5
  have TW5 := Lib.hid (TW4.out.below hb5)
  have X2_5 := Lib.hid (X4.out.below hb5)
  clear hb5 hn5 hx5
  clear a1' a2' a3' a4' b1' b2' b3' b4'
  obtain ⟨⟨a1', a2', a3', a4'⟩, _⟩ := cells4 TW5.out.a
  obtain ⟨⟨b1', b2', b3', b4'⟩, _⟩ := cells4 TW5.out.b
  go_wp2_with fail
  refine (HCU.out _ TW5.out.bel).mono ?_
  rintro r w6 ⟨A6, n6, c6, rfl, hn6, hx6, hb6⟩
  have N6 := Lib.hid hn6
  have X6_ := Lib.hid hx6
  have TW6 := Lib.hid (TW5.out.below hb6)
  have X2_6 := Lib.hid (X2_5.out.below hb6)
  have X5_6 := Lib.hid (X5_.out.below hb6)
  clear hb6 hn6 hx6
  clear a1' a2' a3' a4' b1' b2' b3' b4'
  obtain ⟨⟨a1', a2', a3', a4'⟩, _⟩ := cells4 TW6.out.a
  obtain ⟨⟨b1', b2', b3', b4'⟩, _⟩ := cells4 TW6.out.b
  go_wp2_with fail
  refine (cut_yes _ n2 c2 N2.out (by rw [N2.out]; unfold maxLen; have := HOV'.out; omega) A2 x1.from_ x1.n _ X2_6.out (over_ok HV.out HA.out) (one_rng HA.out)).mono ?_
  rintro r w7 ⟨A7, n7, c7, rfl, hn7, hx7, hb7⟩
  rw [cut_over HV.out HA.out] at hn7 hx7
  have hs7 : n6 = n7 := by rw [hn7, N6.out]
  subst hs7
  have X7_ := Lib.hid hx7
  have TW7 := Lib.hid (TW6.out.below hb7)
  have X2_7 := Lib.hid (X2_6.out.below hb7)
  have X5_7 := Lib.hid (X5_6.out.below hb7)
  have X6_7 := Lib.hid (X6_.out.below hb7)
  clear hb7 hn7 hx7
  clear a1' a2' a3' a4' b1' b2' b3' b4'
  obtain ⟨⟨a1', a2', a3', a4'⟩, _⟩ := cells4 TW7.out.a
  obtain ⟨⟨b1', b2', b3', b4'⟩, _⟩ := cells4 TW7.out.b
  go_wp2_with fail
  refine (cut_yes _ n6 c6 N6.out (by rw [N6.out]; unfold maxLen; have := HCU'.out; omega) A6 x1.from_ x1.n _ X6_7.out (cut_ok HV.out R1.2.1) (one_rng HA.out)).mono ?_
  rintro r w8 ⟨A8, n8, c8, rfl, hn8, hx8, hb8⟩
  rw [cut_twice HV.out HA.out] at hn8 hx8
  have hs8 : n6 = n8 := by rw [hn8, N6.out]
  subst hs8
  have X8_ := Lib.hid hx8
  have TW8 := Lib.hid (TW7.out.below hb8)
  have X2_8 := Lib.hid (X2_7.out.below hb8)
  have X5_8 := Lib.hid (X5_7.out.below hb8)
  have X6_8 := Lib.hid (X6_7.out.below hb8)
  have X7_8 := Lib.hid (X7_.out.below hb8)
  clear hb8 hn8 hx8
  clear a1' a2' a3' a4' b1' b2' b3' b4'
  obtain ⟨⟨a1', a2', a3', a4'⟩, _⟩ := cells4 TW8.out.a
  obtain ⟨⟨b1', b2', b3', b4'⟩, _⟩ := cells4 TW8.out.b
  have HL9 := Lib.hid (alike_yes _ n2 c2 c5 N2.out (by rw [N2.out]; have := HOV'.out; omega) A2 A5 w8 X2_8.out X5_8.out)
  go_wp2_with fail
  refine (HL9.out).mono ?_
  rintro r w9 ⟨rfl, hb9⟩
  have TW9 := Lib.hid (TW8.out.below hb9)
  have X2_9 := Lib.hid (X2_8.out.below hb9)
  have X6_9 := Lib.hid (X6_8.out.below hb9)
  have X7_9 := Lib.hid (X7_8.out.below hb9)
  have X8_9 := Lib.hid (X8_.out.below hb9)
  clear hb9 HL9
  clear a1' a2' a3' a4' b1' b2' b3' b4'
  obtain ⟨⟨a1', a2', a3', a4'⟩, _⟩ := cells4 TW9.out.a
  obtain ⟨⟨b1', b2', b3', b4'⟩, _⟩ := cells4 TW9.out.b
  have HL10 := Lib.hid (alike_yes _ n6 c6 c7 N6.out (by rw [N6.out]; have := HCU'.out; omega) A6 A7 w9 X6_9.out X7_9.out)
  go_wp2_with fail
  refine (HL10.out).mono ?_
  rintro r w10 ⟨rfl, hb10⟩
  have TW10 := Lib.hid (TW9.out.below hb10)
  have X2_10 := Lib.hid (X2_9.out.below hb10)
  have X6_10 := Lib.hid (X6_9.out.below hb10)
  have X8_10 := Lib.hid (X8_9.out.below hb10)
  clear hb10 HL10
  clear a1' a2' a3' a4' b1' b2' b3' b4'
  obtain ⟨⟨a1', a2', a3', a4'⟩, _⟩ := cells4 TW10.out.a
  obtain ⟨⟨b1', b2', b3', b4'⟩, _⟩ := cells4 TW10.out.b
  have HL11 := Lib.hid (alike_yes _ n6 c6 c8 N6.out (by rw [N6.out]; have := HCU'.out; omega) A6 A8 w10 X6_10.out X8_10.out)
  go_wp2_with fail
  refine (HL11.out).mono ?_
  rintro r w11 ⟨rfl, hb11⟩
  have TW11 := Lib.hid (TW10.out.below hb11)
  have X2_11 := Lib.hid (X2_10.out.below hb11)
  clear hb11 HL11
  clear a1' a2' a3' a4' b1' b2' b3' b4'
  obtain ⟨⟨a1', a2', a3', a4'⟩, _⟩ := cells4 TW11.out.a
  obtain ⟨⟨b1', b2', b3', b4'⟩, _⟩ := cells4 TW11.out.b
  go_wp2_with fail
  refine (awake_any _).mono ?_
  rintro r w90 ⟨rfl, hb90⟩
  have B90 := Lib.hid (TW11.out.below hb90).bel
  clear hb90
  go_wp2
  go_ret
  exact ⟨rfl, B90.out⟩

set_option maxHeartbeats 4000000 in
theorem apart1 (a0 : Option Addr) (len0 cap0 : Nat) (L0 : List EX.Ext) (x1 x2 : EX.Ext) (w : World) (hl0 : len0 = L0.length) (lm0 : len0 ≤ maxLen) (w0 : Exs w a0 L0) (HF : Hid (∀ w, Calls Try.prog 10 #[.slice a0 len0 cap0] w fun r w' => r = .returned (.bool true) ∧ w = w')) (HO1 : Hid (∀ w1, Below w.heap.size w w1 → Calls Try.prog 9 #[.slice a0 len0 cap0, .agg #[.int .i64 x1.from_, .int .i64 x1.n, .int .i64 x1.kind, .int .i64 x1.at_]] w1 (TupEnd (over L0 x1) w1))) (HB1 : Hid (∀ w, Calls Try.prog 11 #[.agg #[.int .i64 x2.from_, .int .i64 x2.n, .int .i64 x2.kind, .int .i64 x2.at_]] w fun r w' => r = .returned (.bool true) ∧ Below w.heap.size w w')) (hv : Valid L0) (ha : EX.One x1) (hb : EX.One x2) (hd : ¬ (x1.from_ - x2.from_ < x2.n ∧ x2.from_ - x1.from_ < x1.n)) (m1 : ¬ x1.from_ - x2.from_ < x2.n) :
    Calls Try.prog 3 #[.slice a0 len0 cap0, .agg #[.int .i64 x1.from_, .int .i64 x1.n, .int .i64 x1.kind, .int .i64 x1.at_], .agg #[.int .i64 x2.from_, .int .i64 x2.n, .int .i64 x2.kind, .int .i64 x2.at_]] w fun e w' => e = .returned (.bool true) ∧ Below w.heap.size w w' := by
  have HSW := Lib.hid (over_swap hv ha hb hd)
  have HV := Lib.hid hv
  have HA := Lib.hid ha
  have HB := Lib.hid hb
  have hl16 := valid_len hv
  have HCU := Lib.hid (fun w1 (h : Below w.heap.size w w1) => cut_yes L0 len0 cap0 hl0 lm0 a0 x1.from_ x1.n w1 (w0.below h) hv (one_rng ha))
  have HOB := Lib.hid (fun w1 (h : Below w.heap.size w w1) => over_yes L0 len0 cap0 hl0 lm0 a0 x2 w1 (w0.below h) hv hb)
  have R1 := one_rng ha
  have R2 := one_rng hb
  have l1 := ha.pos
  have l2 := hb.pos
  have hov : (over L0 x1).length ≤ 16777216 := valid_len (over_ok hv ha)
  have hob : (over L0 x2).length ≤ 16777216 := valid_len (over_ok hv hb)
  have hcu : (cut L0 x1.from_ x1.n).length ≤ 16777216 := valid_len (cut_ok hv R1.2.1)
  have hoo : (over (over L0 x1) x2).length ≤ 16777216 := valid_len (over_ok (over_ok hv ha) hb)
  have HOV' := Lib.hid hov
  have HOB' := Lib.hid hob
  have HCU' := Lib.hid hcu
  have HOO' := Lib.hid hoo
  clear hv ha hb hl16 hov hob hcu hoo
  have e1 : IntKind.i64.wrap (x1.from_ - x2.from_) = x1.from_ - x2.from_ := IntWalk.i64_in _ (by omega)
  have e2 : IntKind.i64.wrap (x2.from_ - x1.from_) = x2.from_ - x1.from_ := IntWalk.i64_in _ (by omega)
  have d1 : decide (x1.from_ - x2.from_ < x2.n) = false := decide_eq_false m1
  clear hd
  obtain ⟨W, hW⟩ : ∃ W, W = (w.alloc (.cells #[.int .i64 x1.from_, .int .i64 x1.n, .int .i64 x1.kind, .int .i64 x1.at_] 24)).alloc (.cells #[.int .i64 x2.from_, .int .i64 x2.n, .int .i64 x2.kind, .int .i64 x2.at_] 24) := ⟨_, rfl⟩
  obtain ⟨k1, k2, hb0⟩ := box_two w _ _ _ _ W hW
  have TW : Hid (Tw w x1 x2 W) := Lib.hid ⟨k1, k2, hb0⟩
  have HX := Lib.hid w0
  have HL := Lib.hid hl0
  have HW := Lib.hid hW
  clear hl0 w0 hW k1 k2 hb0
  obtain ⟨⟨a1', a2', a3', a4'⟩, _⟩ := cells4 TW.out.a
  obtain ⟨⟨b1', b2', b3', b4'⟩, _⟩ := cells4 TW.out.b
  go_enter Try.func3, Try.ntmps3
  go_wp2_with fail
  rw [← HW.out]
  refine (HO1.out _ TW.out.bel).mono ?_
  rintro r w2 ⟨A2, n2, c2, rfl, hn2, hx2, hb2⟩
  have N2 := Lib.hid hn2
  have X2 := Lib.hid hx2
  have TW2 := Lib.hid (TW.out.below hb2)
  clear hb2 hn2 hx2 HO1
  clear a1' a2' a3' a4' b1' b2' b3' b4'
  obtain ⟨⟨a1', a2', a3', a4'⟩, _⟩ := cells4 TW2.out.a
  obtain ⟨⟨b1', b2', b3', b4'⟩, _⟩ := cells4 TW2.out.b
  go_wp2_with fail
  refine (HF.out _).mono ?_
  rintro r w3 ⟨rfl, rfl⟩
  clear HF
  go_wp2_with fail
  refine (HB1.out _).mono ?_
  rintro r w4 ⟨rfl, hb4⟩
  have TW4 := Lib.hid (TW2.out.below hb4)
  have X4 := Lib.hid (X2.out.below hb4)
  clear hb4 HB1
  clear a1' a2' a3' a4' b1' b2' b3' b4'
  obtain ⟨⟨a1', a2', a3', a4'⟩, _⟩ := cells4 TW4.out.a
  obtain ⟨⟨b1', b2', b3', b4'⟩, _⟩ := cells4 TW4.out.b
  go_wp2_with fail
  refine (over_yes _ n2 c2 N2.out (by rw [N2.out]; unfold maxLen; have := HOV'.out; omega) A2 x1 _ X4.out (over_ok HV.out HA.out) HA.out).mono ?_
  rintro r w5 ⟨A5, n5, c5, rfl, hn5, hx5, hb5⟩
  rw [over_over HV.out HA.out] at hn5 hx5
  have hs5 : n2 = n5 := by rw [hn5, N2.out]
  subst hs5
  have X5_ := Lib.hid hx5
  have TW5 := Lib.hid (TW4.out.below hb5)
  have X2_5 := Lib.hid (X4.out.below hb5)
  clear hb5 hn5 hx5
  clear a1' a2' a3' a4' b1' b2' b3' b4'
  obtain ⟨⟨a1', a2', a3', a4'⟩, _⟩ := cells4 TW5.out.a
  obtain ⟨⟨b1', b2', b3', b4'⟩, _⟩ := cells4 TW5.out.b
  go_wp2_with fail
  refine (HCU.out _ TW5.out.bel).mono ?_
  rintro r w6 ⟨A6, n6, c6, rfl, hn6, hx6, hb6⟩
  have N6 := Lib.hid hn6
  have X6_ := Lib.hid hx6
  have TW6 := Lib.hid (TW5.out.below hb6)
  have X2_6 := Lib.hid (X2_5.out.below hb6)
  have X5_6 := Lib.hid (X5_.out.below hb6)
  clear hb6 hn6 hx6
  clear a1' a2' a3' a4' b1' b2' b3' b4'
  obtain ⟨⟨a1', a2', a3', a4'⟩, _⟩ := cells4 TW6.out.a
  obtain ⟨⟨b1', b2', b3', b4'⟩, _⟩ := cells4 TW6.out.b
  go_wp2_with fail
  refine (cut_yes _ n2 c2 N2.out (by rw [N2.out]; unfold maxLen; have := HOV'.out; omega) A2 x1.from_ x1.n _ X2_6.out (over_ok HV.out HA.out) (one_rng HA.out)).mono ?_
  rintro r w7 ⟨A7, n7, c7, rfl, hn7, hx7, hb7⟩
  rw [cut_over HV.out HA.out] at hn7 hx7
  have hs7 : n6 = n7 := by rw [hn7, N6.out]
  subst hs7
  have X7_ := Lib.hid hx7
  have TW7 := Lib.hid (TW6.out.below hb7)
  have X2_7 := Lib.hid (X2_6.out.below hb7)
  have X5_7 := Lib.hid (X5_6.out.below hb7)
  have X6_7 := Lib.hid (X6_.out.below hb7)
  clear hb7 hn7 hx7
  clear a1' a2' a3' a4' b1' b2' b3' b4'
  obtain ⟨⟨a1', a2', a3', a4'⟩, _⟩ := cells4 TW7.out.a
  obtain ⟨⟨b1', b2', b3', b4'⟩, _⟩ := cells4 TW7.out.b
  go_wp2_with fail
  refine (cut_yes _ n6 c6 N6.out (by rw [N6.out]; unfold maxLen; have := HCU'.out; omega) A6 x1.from_ x1.n _ X6_7.out (cut_ok HV.out R1.2.1) (one_rng HA.out)).mono ?_
  rintro r w8 ⟨A8, n8, c8, rfl, hn8, hx8, hb8⟩
  rw [cut_twice HV.out HA.out] at hn8 hx8
  have hs8 : n6 = n8 := by rw [hn8, N6.out]
  subst hs8
  have X8_ := Lib.hid hx8
  have TW8 := Lib.hid (TW7.out.below hb8)
  have X2_8 := Lib.hid (X2_7.out.below hb8)
  have X5_8 := Lib.hid (X5_7.out.below hb8)
  have X6_8 := Lib.hid (X6_7.out.below hb8)
  have X7_8 := Lib.hid (X7_.out.below hb8)
  clear hb8 hn8 hx8
  clear a1' a2' a3' a4' b1' b2' b3' b4'
  obtain ⟨⟨a1', a2', a3', a4'⟩, _⟩ := cells4 TW8.out.a
  obtain ⟨⟨b1', b2', b3', b4'⟩, _⟩ := cells4 TW8.out.b
  have HL9 := Lib.hid (alike_yes _ n2 c2 c5 N2.out (by rw [N2.out]; have := HOV'.out; omega) A2 A5 w8 X2_8.out X5_8.out)
  go_wp2_with fail
  refine (HL9.out).mono ?_
  rintro r w9 ⟨rfl, hb9⟩
  have TW9 := Lib.hid (TW8.out.below hb9)
  have X2_9 := Lib.hid (X2_8.out.below hb9)
  have X6_9 := Lib.hid (X6_8.out.below hb9)
  have X7_9 := Lib.hid (X7_8.out.below hb9)
  have X8_9 := Lib.hid (X8_.out.below hb9)
  clear hb9 HL9
  clear a1' a2' a3' a4' b1' b2' b3' b4'
  obtain ⟨⟨a1', a2', a3', a4'⟩, _⟩ := cells4 TW9.out.a
  obtain ⟨⟨b1', b2', b3', b4'⟩, _⟩ := cells4 TW9.out.b
  have HL10 := Lib.hid (alike_yes _ n6 c6 c7 N6.out (by rw [N6.out]; have := HCU'.out; omega) A6 A7 w9 X6_9.out X7_9.out)
  go_wp2_with fail
  refine (HL10.out).mono ?_
  rintro r w10 ⟨rfl, hb10⟩
  have TW10 := Lib.hid (TW9.out.below hb10)
  have X2_10 := Lib.hid (X2_9.out.below hb10)
  have X6_10 := Lib.hid (X6_9.out.below hb10)
  have X8_10 := Lib.hid (X8_9.out.below hb10)
  clear hb10 HL10
  clear a1' a2' a3' a4' b1' b2' b3' b4'
  obtain ⟨⟨a1', a2', a3', a4'⟩, _⟩ := cells4 TW10.out.a
  obtain ⟨⟨b1', b2', b3', b4'⟩, _⟩ := cells4 TW10.out.b
  have HL11 := Lib.hid (alike_yes _ n6 c6 c8 N6.out (by rw [N6.out]; have := HCU'.out; omega) A6 A8 w10 X6_10.out X8_10.out)
  go_wp2_with fail
  refine (HL11.out).mono ?_
  rintro r w11 ⟨rfl, hb11⟩
  have TW11 := Lib.hid (TW10.out.below hb11)
  have X2_11 := Lib.hid (X2_10.out.below hb11)
  clear hb11 HL11
  clear a1' a2' a3' a4' b1' b2' b3' b4'
  obtain ⟨⟨a1', a2', a3', a4'⟩, _⟩ := cells4 TW11.out.a
  obtain ⟨⟨b1', b2', b3', b4'⟩, _⟩ := cells4 TW11.out.b
  go_wp2_with fail
  refine (over_yes _ n2 c2 N2.out (by rw [N2.out]; unfold maxLen; have := HOV'.out; omega) A2 x2 _ X2_11.out (over_ok HV.out HA.out) HB.out).mono ?_
  rintro r w12 ⟨A12, n12, c12, rfl, hn12, hx12, hb12⟩
  have N12 := Lib.hid hn12
  have X12_ := Lib.hid hx12
  have TW12 := Lib.hid (TW11.out.below hb12)
  clear hb12 hn12 hx12
  clear a1' a2' a3' a4' b1' b2' b3' b4'
  obtain ⟨⟨a1', a2', a3', a4'⟩, _⟩ := cells4 TW12.out.a
  obtain ⟨⟨b1', b2', b3', b4'⟩, _⟩ := cells4 TW12.out.b
  go_wp2_with fail
  refine (HOB.out _ TW12.out.bel).mono ?_
  rintro r w13 ⟨A13, n13, c13, rfl, hn13, hx13, hb13⟩
  have N13 := Lib.hid hn13
  have X13_ := Lib.hid hx13
  have TW13 := Lib.hid (TW12.out.below hb13)
  have X12_13 := Lib.hid (X12_.out.below hb13)
  clear hb13 hn13 hx13
  clear a1' a2' a3' a4' b1' b2' b3' b4'
  obtain ⟨⟨a1', a2', a3', a4'⟩, _⟩ := cells4 TW13.out.a
  obtain ⟨⟨b1', b2', b3', b4'⟩, _⟩ := cells4 TW13.out.b
  go_wp2_with fail
  refine (over_yes _ n13 c13 N13.out (by rw [N13.out]; unfold maxLen; have := HOB'.out; omega) A13 x1 _ X13_.out (over_ok HV.out HB.out) HA.out).mono ?_
  rintro r w14 ⟨A14, n14, c14, rfl, hn14, hx14, hb14⟩
  rw [← HSW.out] at hn14 hx14
  have hs14 : n12 = n14 := by rw [hn14, N12.out]
  subst hs14
  have X14_ := Lib.hid hx14
  have TW14 := Lib.hid (TW13.out.below hb14)
  have X12_14 := Lib.hid (X12_13.out.below hb14)
  clear hb14 hn14 hx14
  clear a1' a2' a3' a4' b1' b2' b3' b4'
  obtain ⟨⟨a1', a2', a3', a4'⟩, _⟩ := cells4 TW14.out.a
  obtain ⟨⟨b1', b2', b3', b4'⟩, _⟩ := cells4 TW14.out.b
  clear a1' a2' a3' a4' b1' b2' b3' b4'
  go_wp2_with fail
  refine (awake_any _).mono ?_
  rintro r w15 ⟨rfl, hb15⟩
  have TW15 := Lib.hid (TW14.out.below hb15)
  have X12_15 := Lib.hid (X12_14.out.below hb15)
  have X14_15 := Lib.hid (X14_.out.below hb15)
  clear hb15
  have HL16 := Lib.hid (alike_yes _ n12 c12 c14 N12.out (by rw [N12.out]; have := HOO'.out; omega) A12 A14 w15 X12_15.out X14_15.out)
  go_wp2_with fail
  refine (HL16.out).mono ?_
  rintro r w16 ⟨rfl, hb16⟩
  have B16 := Lib.hid (TW15.out.below hb16).bel
  clear hb16 HL16
  go_wp2
  go_ret
  exact ⟨rfl, B16.out⟩

set_option maxHeartbeats 4000000 in
theorem apart2 (a0 : Option Addr) (len0 cap0 : Nat) (L0 : List EX.Ext) (x1 x2 : EX.Ext) (w : World) (hl0 : len0 = L0.length) (lm0 : len0 ≤ maxLen) (w0 : Exs w a0 L0) (HF : Hid (∀ w, Calls Try.prog 10 #[.slice a0 len0 cap0] w fun r w' => r = .returned (.bool true) ∧ w = w')) (HO1 : Hid (∀ w1, Below w.heap.size w w1 → Calls Try.prog 9 #[.slice a0 len0 cap0, .agg #[.int .i64 x1.from_, .int .i64 x1.n, .int .i64 x1.kind, .int .i64 x1.at_]] w1 (TupEnd (over L0 x1) w1))) (HB1 : Hid (∀ w, Calls Try.prog 11 #[.agg #[.int .i64 x2.from_, .int .i64 x2.n, .int .i64 x2.kind, .int .i64 x2.at_]] w fun r w' => r = .returned (.bool true) ∧ Below w.heap.size w w')) (hv : Valid L0) (ha : EX.One x1) (hb : EX.One x2) (hd : ¬ (x1.from_ - x2.from_ < x2.n ∧ x2.from_ - x1.from_ < x1.n)) (m1 : x1.from_ - x2.from_ < x2.n) (m2 : ¬ x2.from_ - x1.from_ < x1.n) :
    Calls Try.prog 3 #[.slice a0 len0 cap0, .agg #[.int .i64 x1.from_, .int .i64 x1.n, .int .i64 x1.kind, .int .i64 x1.at_], .agg #[.int .i64 x2.from_, .int .i64 x2.n, .int .i64 x2.kind, .int .i64 x2.at_]] w fun e w' => e = .returned (.bool true) ∧ Below w.heap.size w w' := by
  have HSW := Lib.hid (over_swap hv ha hb hd)
  have HV := Lib.hid hv
  have HA := Lib.hid ha
  have HB := Lib.hid hb
  have hl16 := valid_len hv
  have HCU := Lib.hid (fun w1 (h : Below w.heap.size w w1) => cut_yes L0 len0 cap0 hl0 lm0 a0 x1.from_ x1.n w1 (w0.below h) hv (one_rng ha))
  have HOB := Lib.hid (fun w1 (h : Below w.heap.size w w1) => over_yes L0 len0 cap0 hl0 lm0 a0 x2 w1 (w0.below h) hv hb)
  have R1 := one_rng ha
  have R2 := one_rng hb
  have l1 := ha.pos
  have l2 := hb.pos
  have hov : (over L0 x1).length ≤ 16777216 := valid_len (over_ok hv ha)
  have hob : (over L0 x2).length ≤ 16777216 := valid_len (over_ok hv hb)
  have hcu : (cut L0 x1.from_ x1.n).length ≤ 16777216 := valid_len (cut_ok hv R1.2.1)
  have hoo : (over (over L0 x1) x2).length ≤ 16777216 := valid_len (over_ok (over_ok hv ha) hb)
  have HOV' := Lib.hid hov
  have HOB' := Lib.hid hob
  have HCU' := Lib.hid hcu
  have HOO' := Lib.hid hoo
  clear hv ha hb hl16 hov hob hcu hoo
  have e1 : IntKind.i64.wrap (x1.from_ - x2.from_) = x1.from_ - x2.from_ := IntWalk.i64_in _ (by omega)
  have e2 : IntKind.i64.wrap (x2.from_ - x1.from_) = x2.from_ - x1.from_ := IntWalk.i64_in _ (by omega)
  have d1 : decide (x1.from_ - x2.from_ < x2.n) = true := decide_eq_true m1
  have d2 : decide (x2.from_ - x1.from_ < x1.n) = false := decide_eq_false m2
  clear hd
  obtain ⟨W, hW⟩ : ∃ W, W = (w.alloc (.cells #[.int .i64 x1.from_, .int .i64 x1.n, .int .i64 x1.kind, .int .i64 x1.at_] 24)).alloc (.cells #[.int .i64 x2.from_, .int .i64 x2.n, .int .i64 x2.kind, .int .i64 x2.at_] 24) := ⟨_, rfl⟩
  obtain ⟨k1, k2, hb0⟩ := box_two w _ _ _ _ W hW
  have TW : Hid (Tw w x1 x2 W) := Lib.hid ⟨k1, k2, hb0⟩
  have HX := Lib.hid w0
  have HL := Lib.hid hl0
  have HW := Lib.hid hW
  clear hl0 w0 hW k1 k2 hb0
  obtain ⟨⟨a1', a2', a3', a4'⟩, _⟩ := cells4 TW.out.a
  obtain ⟨⟨b1', b2', b3', b4'⟩, _⟩ := cells4 TW.out.b
  go_enter Try.func3, Try.ntmps3
  go_wp2_with fail
  rw [← HW.out]
  refine (HO1.out _ TW.out.bel).mono ?_
  rintro r w2 ⟨A2, n2, c2, rfl, hn2, hx2, hb2⟩
  have N2 := Lib.hid hn2
  have X2 := Lib.hid hx2
  have TW2 := Lib.hid (TW.out.below hb2)
  clear hb2 hn2 hx2 HO1
  clear a1' a2' a3' a4' b1' b2' b3' b4'
  obtain ⟨⟨a1', a2', a3', a4'⟩, _⟩ := cells4 TW2.out.a
  obtain ⟨⟨b1', b2', b3', b4'⟩, _⟩ := cells4 TW2.out.b
  go_wp2_with fail
  refine (HF.out _).mono ?_
  rintro r w3 ⟨rfl, rfl⟩
  clear HF
  go_wp2_with fail
  refine (HB1.out _).mono ?_
  rintro r w4 ⟨rfl, hb4⟩
  have TW4 := Lib.hid (TW2.out.below hb4)
  have X4 := Lib.hid (X2.out.below hb4)
  clear hb4 HB1
  clear a1' a2' a3' a4' b1' b2' b3' b4'
  obtain ⟨⟨a1', a2', a3', a4'⟩, _⟩ := cells4 TW4.out.a
  obtain ⟨⟨b1', b2', b3', b4'⟩, _⟩ := cells4 TW4.out.b
  go_wp2_with fail
  refine (over_yes _ n2 c2 N2.out (by rw [N2.out]; unfold maxLen; have := HOV'.out; omega) A2 x1 _ X4.out (over_ok HV.out HA.out) HA.out).mono ?_
  rintro r w5 ⟨A5, n5, c5, rfl, hn5, hx5, hb5⟩
  rw [over_over HV.out HA.out] at hn5 hx5
  have hs5 : n2 = n5 := by rw [hn5, N2.out]
  subst hs5
  have X5_ := Lib.hid hx5
  have TW5 := Lib.hid (TW4.out.below hb5)
  have X2_5 := Lib.hid (X4.out.below hb5)
  clear hb5 hn5 hx5
  clear a1' a2' a3' a4' b1' b2' b3' b4'
  obtain ⟨⟨a1', a2', a3', a4'⟩, _⟩ := cells4 TW5.out.a
  obtain ⟨⟨b1', b2', b3', b4'⟩, _⟩ := cells4 TW5.out.b
  go_wp2_with fail
  refine (HCU.out _ TW5.out.bel).mono ?_
  rintro r w6 ⟨A6, n6, c6, rfl, hn6, hx6, hb6⟩
  have N6 := Lib.hid hn6
  have X6_ := Lib.hid hx6
  have TW6 := Lib.hid (TW5.out.below hb6)
  have X2_6 := Lib.hid (X2_5.out.below hb6)
  have X5_6 := Lib.hid (X5_.out.below hb6)
  clear hb6 hn6 hx6
  clear a1' a2' a3' a4' b1' b2' b3' b4'
  obtain ⟨⟨a1', a2', a3', a4'⟩, _⟩ := cells4 TW6.out.a
  obtain ⟨⟨b1', b2', b3', b4'⟩, _⟩ := cells4 TW6.out.b
  go_wp2_with fail
  refine (cut_yes _ n2 c2 N2.out (by rw [N2.out]; unfold maxLen; have := HOV'.out; omega) A2 x1.from_ x1.n _ X2_6.out (over_ok HV.out HA.out) (one_rng HA.out)).mono ?_
  rintro r w7 ⟨A7, n7, c7, rfl, hn7, hx7, hb7⟩
  rw [cut_over HV.out HA.out] at hn7 hx7
  have hs7 : n6 = n7 := by rw [hn7, N6.out]
  subst hs7
  have X7_ := Lib.hid hx7
  have TW7 := Lib.hid (TW6.out.below hb7)
  have X2_7 := Lib.hid (X2_6.out.below hb7)
  have X5_7 := Lib.hid (X5_6.out.below hb7)
  have X6_7 := Lib.hid (X6_.out.below hb7)
  clear hb7 hn7 hx7
  clear a1' a2' a3' a4' b1' b2' b3' b4'
  obtain ⟨⟨a1', a2', a3', a4'⟩, _⟩ := cells4 TW7.out.a
  obtain ⟨⟨b1', b2', b3', b4'⟩, _⟩ := cells4 TW7.out.b
  go_wp2_with fail
  refine (cut_yes _ n6 c6 N6.out (by rw [N6.out]; unfold maxLen; have := HCU'.out; omega) A6 x1.from_ x1.n _ X6_7.out (cut_ok HV.out R1.2.1) (one_rng HA.out)).mono ?_
  rintro r w8 ⟨A8, n8, c8, rfl, hn8, hx8, hb8⟩
  rw [cut_twice HV.out HA.out] at hn8 hx8
  have hs8 : n6 = n8 := by rw [hn8, N6.out]
  subst hs8
  have X8_ := Lib.hid hx8
  have TW8 := Lib.hid (TW7.out.below hb8)
  have X2_8 := Lib.hid (X2_7.out.below hb8)
  have X5_8 := Lib.hid (X5_7.out.below hb8)
  have X6_8 := Lib.hid (X6_7.out.below hb8)
  have X7_8 := Lib.hid (X7_.out.below hb8)
  clear hb8 hn8 hx8
  clear a1' a2' a3' a4' b1' b2' b3' b4'
  obtain ⟨⟨a1', a2', a3', a4'⟩, _⟩ := cells4 TW8.out.a
  obtain ⟨⟨b1', b2', b3', b4'⟩, _⟩ := cells4 TW8.out.b
  have HL9 := Lib.hid (alike_yes _ n2 c2 c5 N2.out (by rw [N2.out]; have := HOV'.out; omega) A2 A5 w8 X2_8.out X5_8.out)
  go_wp2_with fail
  refine (HL9.out).mono ?_
  rintro r w9 ⟨rfl, hb9⟩
  have TW9 := Lib.hid (TW8.out.below hb9)
  have X2_9 := Lib.hid (X2_8.out.below hb9)
  have X6_9 := Lib.hid (X6_8.out.below hb9)
  have X7_9 := Lib.hid (X7_8.out.below hb9)
  have X8_9 := Lib.hid (X8_.out.below hb9)
  clear hb9 HL9
  clear a1' a2' a3' a4' b1' b2' b3' b4'
  obtain ⟨⟨a1', a2', a3', a4'⟩, _⟩ := cells4 TW9.out.a
  obtain ⟨⟨b1', b2', b3', b4'⟩, _⟩ := cells4 TW9.out.b
  have HL10 := Lib.hid (alike_yes _ n6 c6 c7 N6.out (by rw [N6.out]; have := HCU'.out; omega) A6 A7 w9 X6_9.out X7_9.out)
  go_wp2_with fail
  refine (HL10.out).mono ?_
  rintro r w10 ⟨rfl, hb10⟩
  have TW10 := Lib.hid (TW9.out.below hb10)
  have X2_10 := Lib.hid (X2_9.out.below hb10)
  have X6_10 := Lib.hid (X6_9.out.below hb10)
  have X8_10 := Lib.hid (X8_9.out.below hb10)
  clear hb10 HL10
  clear a1' a2' a3' a4' b1' b2' b3' b4'
  obtain ⟨⟨a1', a2', a3', a4'⟩, _⟩ := cells4 TW10.out.a
  obtain ⟨⟨b1', b2', b3', b4'⟩, _⟩ := cells4 TW10.out.b
  have HL11 := Lib.hid (alike_yes _ n6 c6 c8 N6.out (by rw [N6.out]; have := HCU'.out; omega) A6 A8 w10 X6_10.out X8_10.out)
  go_wp2_with fail
  refine (HL11.out).mono ?_
  rintro r w11 ⟨rfl, hb11⟩
  have TW11 := Lib.hid (TW10.out.below hb11)
  have X2_11 := Lib.hid (X2_10.out.below hb11)
  clear hb11 HL11
  clear a1' a2' a3' a4' b1' b2' b3' b4'
  obtain ⟨⟨a1', a2', a3', a4'⟩, _⟩ := cells4 TW11.out.a
  obtain ⟨⟨b1', b2', b3', b4'⟩, _⟩ := cells4 TW11.out.b
  go_wp2_with fail
  refine (over_yes _ n2 c2 N2.out (by rw [N2.out]; unfold maxLen; have := HOV'.out; omega) A2 x2 _ X2_11.out (over_ok HV.out HA.out) HB.out).mono ?_
  rintro r w12 ⟨A12, n12, c12, rfl, hn12, hx12, hb12⟩
  have N12 := Lib.hid hn12
  have X12_ := Lib.hid hx12
  have TW12 := Lib.hid (TW11.out.below hb12)
  clear hb12 hn12 hx12
  clear a1' a2' a3' a4' b1' b2' b3' b4'
  obtain ⟨⟨a1', a2', a3', a4'⟩, _⟩ := cells4 TW12.out.a
  obtain ⟨⟨b1', b2', b3', b4'⟩, _⟩ := cells4 TW12.out.b
  go_wp2_with fail
  refine (HOB.out _ TW12.out.bel).mono ?_
  rintro r w13 ⟨A13, n13, c13, rfl, hn13, hx13, hb13⟩
  have N13 := Lib.hid hn13
  have X13_ := Lib.hid hx13
  have TW13 := Lib.hid (TW12.out.below hb13)
  have X12_13 := Lib.hid (X12_.out.below hb13)
  clear hb13 hn13 hx13
  clear a1' a2' a3' a4' b1' b2' b3' b4'
  obtain ⟨⟨a1', a2', a3', a4'⟩, _⟩ := cells4 TW13.out.a
  obtain ⟨⟨b1', b2', b3', b4'⟩, _⟩ := cells4 TW13.out.b
  go_wp2_with fail
  refine (over_yes _ n13 c13 N13.out (by rw [N13.out]; unfold maxLen; have := HOB'.out; omega) A13 x1 _ X13_.out (over_ok HV.out HB.out) HA.out).mono ?_
  rintro r w14 ⟨A14, n14, c14, rfl, hn14, hx14, hb14⟩
  rw [← HSW.out] at hn14 hx14
  have hs14 : n12 = n14 := by rw [hn14, N12.out]
  subst hs14
  have X14_ := Lib.hid hx14
  have TW14 := Lib.hid (TW13.out.below hb14)
  have X12_14 := Lib.hid (X12_13.out.below hb14)
  clear hb14 hn14 hx14
  clear a1' a2' a3' a4' b1' b2' b3' b4'
  obtain ⟨⟨a1', a2', a3', a4'⟩, _⟩ := cells4 TW14.out.a
  obtain ⟨⟨b1', b2', b3', b4'⟩, _⟩ := cells4 TW14.out.b
  clear a1' a2' a3' a4' b1' b2' b3' b4'
  go_wp2_with fail
  refine (awake_any _).mono ?_
  rintro r w15 ⟨rfl, hb15⟩
  have TW15 := Lib.hid (TW14.out.below hb15)
  have X12_15 := Lib.hid (X12_14.out.below hb15)
  have X14_15 := Lib.hid (X14_.out.below hb15)
  clear hb15
  have HL16 := Lib.hid (alike_yes _ n12 c12 c14 N12.out (by rw [N12.out]; have := HOO'.out; omega) A12 A14 w15 X12_15.out X14_15.out)
  go_wp2_with fail
  refine (HL16.out).mono ?_
  rintro r w16 ⟨rfl, hb16⟩
  have B16 := Lib.hid (TW15.out.below hb16).bel
  clear hb16 HL16
  go_wp2
  go_ret
  exact ⟨rfl, B16.out⟩

theorem walk (a0 : Option Addr) (len0 cap0 : Nat) (L0 : List EX.Ext) (x1 : EX.Ext) (x2 : EX.Ext) (w : World) (hl0 : len0 = L0.length) (lm0 : len0 ≤ maxLen) (w0 : EX.Exs w a0 L0) (wf0 : ∀ e ∈ L0, EX.WfE e) (w1 : EX.WfE x1) (w2 : EX.WfE x2) :
    Calls Try.prog 3 #[.slice a0 len0 cap0, .agg #[.int .i64 x1.from_, .int .i64 x1.n, .int .i64 x1.kind, .int .i64 x1.at_], .agg #[.int .i64 x2.from_, .int .i64 x2.n, .int .i64 x2.kind, .int .i64 x2.at_]] w fun e w' => e = .returned (.bool true) ∧ Below w.heap.size w w' := by
  have HFB : Hid (∀ w, Calls Try.prog 10 #[.slice a0 len0 cap0] w fun r w' => r = .returned (.bool (decide ((len0 : Int) ≤ 60))) ∧ w = w') := Lib.hid (few_any len0 cap0 lm0 a0)
  by_cases hok : Valid L0 ∧ EX.One x1
  · obtain ⟨hv, ha⟩ := hok
    have HO := Lib.hid (fun wq (h : Below w.heap.size w wq) => over_yes L0 len0 cap0 hl0 lm0 a0 x1 wq (w0.below h) hv ha)
    by_cases hf : len0 ≤ 60
    · rw [decide_eq_true (show (len0 : Int) ≤ 60 by omega)] at HFB
      by_cases hb : EX.One x2
      · have HB := Lib.hid (rone_any x2)
        rw [decide_eq_true hb] at HB
        by_cases m1 : x1.from_ - x2.from_ < x2.n
        · by_cases m2 : x2.from_ - x1.from_ < x1.n
          · exact meet a0 len0 cap0 L0 x1 x2 w hl0 lm0 w0 HFB HO HB hv ha hb m1 m2
          · exact apart2 a0 len0 cap0 L0 x1 x2 w hl0 lm0 w0 HFB HO HB hv ha hb (fun h => m2 h.2) m1 m2
        · exact apart1 a0 len0 cap0 L0 x1 x2 w hl0 lm0 w0 HFB HO HB hv ha hb (fun h => m1 h.1) m1
      · have HB := Lib.hid (rone_any x2)
        rw [decide_eq_false hb] at HB
        exact nob a0 len0 cap0 L0 x1 x2 w hl0 lm0 w0 HFB HO HB
    · rw [decide_eq_false (show ¬ (len0 : Int) ≤ 60 by omega)] at HFB
      exact far a0 len0 cap0 L0 x1 x2 w hl0 lm0 w0 HFB HO
  · have HO : Hid (∀ wq, Below w.heap.size w wq → Calls Try.prog 9 #[.slice a0 len0 cap0, .agg #[.int .i64 x1.from_, .int .i64 x1.n, .int .i64 x1.kind, .int .i64 x1.at_]] wq (Failed wq)) := Lib.hid fun wq h => (over_any L0 len0 cap0 hl0 lm0 a0 x1 w1 wq (w0.below h) wf0).mono fun r w' hh => by
      rcases hh with ⟨h1, _⟩ | ⟨_, h2⟩
      · exact absurd h1 hok
      · exact h2
    by_cases hf : len0 ≤ 60
    · rw [decide_eq_true (show (len0 : Int) ≤ 60 by omega)] at HFB
      exact fail_t a0 len0 cap0 L0 x1 x2 w hl0 lm0 w0 HFB HO
    · rw [decide_eq_false (show ¬ (len0 : Int) ≤ 60 by omega)] at HFB
      exact fail_f a0 len0 cap0 L0 x1 x2 w hl0 lm0 w0 HFB HO

set_option maxRecDepth 100000 in
theorem lifted (os : Os) (started : os.Started) (H : Type) (enc : TypeId × Value → H) :
    ReturnsInHanded {} Try.checked os 3 .any (Rows.extOnceSpec.pre6 enc Try.prog Try.f3 Rows.extOnceRow.domain false) (Rows.extOnceSpec.post enc Try.prog Try.f3 false true false false) := by
  refine returnsInHanded_of_change_sized (C := Try.checked) own started (by kernel_rfl) Try.func3
    (ChangeSpec.witness6 (enc := enc) (C := Try.checked) false ⟨#[], #[.slice none 0 0, .agg #[.int .i64 0, .int .i64 0, .int .i64 0, .int .i64 0], .agg #[.int .i64 0, .int .i64 0, .int .i64 0, .int .i64 0]], []⟩ 8 (by kernel_rfl) (by kernel_rfl) (by kernel_rfl) (by kernel_rfl)) ?_
  intro W base args ds gs before hval0 hW hcnd hsz0 _
  have hval : ∀ (j : Nat) t v, Try.f3.params[j]? = some t → args[j]? = some v → Value.okWide Try.prog W .any base t v := hval0
  have hW' := hW
  obtain ⟨p, q, hA0, hV, rfl, hfz, hnd⟩ := hW
  have hA : DataW.TrodAll enc Try.prog W 0 (fun _ => true) true Try.f3.params.toList args.toList ds p := hA0
  have hsz : (DataW.weightsEach Try.prog (Try.f3.params.toList ++ Rows.extOnceSpec.plain.varTypes Try.prog) (ds ++ gs)).all (· ≤ reachBytes) = true := hsz0
  rw [Try.params3] at hA hval hsz
  obtain ⟨v0, vs0, d0, ds0, p0, q0, hargs, rfl, rfl, h0, r0⟩ := trodAll_cons hA
  obtain ⟨v1, vs1, d1, ds1, p1, q1, rfl, rfl, rfl, h1, r1⟩ := trodAll_cons r0
  obtain ⟨v2, vs2, d2, ds2, p2, q2, rfl, rfl, rfl, h2, r2⟩ := trodAll_cons r1
  obtain ⟨rfl, rfl, rfl⟩ := trodAll_nil r2
  obtain rfl : args = #[v0, v1, v2] := by cases args; simp_all
  obtain ⟨rfl, rfl⟩ := trodVars_none hV
  have k0 := h0
  have lt0 : ∀ x ∈ p0, x.block < W.heap.size := by obtain ⟨m, hm⟩ := k0; exact DataW.trod_lt m _ _ _ hm
  obtain ⟨a0, len0, cap0, L0, rfl, hl0, lm0, w0, wf0⟩ := OP.open_exts (hval 0 22 v0 rfl rfl) h0
  have k1 := h1
  have lt1 : ∀ x ∈ p1, x.block < W.heap.size := by obtain ⟨m, hm⟩ := k1; exact DataW.trod_lt m _ _ _ hm
  obtain ⟨x1, rfl, w1⟩ := OP.open_ext (hval 1 24 v1 rfl rfl) h1
  have k2 := h2
  have lt2 : ∀ x ∈ p2, x.block < W.heap.size := by obtain ⟨m, hm⟩ := k2; exact DataW.trod_lt m _ _ _ hm
  obtain ⟨x2, rfl, w2⟩ := OP.open_ext (hval 2 24 v2 rfl rfl) h2
  clear hA0 hval0 hsz0
  refine (walk a0 len0 cap0 L0 x1 x2 W hl0 lm0 w0 wf0 w1 w2).mono fun e W' ⟨he, bel⟩ => ?_
  subst he
  exact ⟨_, rfl, _, _, _, [], _, [], hW', trodAll_mk1 (shut_bool Try.underlying4 _), (trodAll_cons_mk (Below.trod laidOut (by kernel_rfl) (of_decide_eq_true (by kernel_rfl)) k0 bel lt0) (trodAll_cons_mk (Below.trod laidOut (by kernel_rfl) (of_decide_eq_true (by kernel_rfl)) k1 bel lt1) (trodAll_cons_mk (Below.trod laidOut (by kernel_rfl) (of_decide_eq_true (by kernel_rfl)) k2 bel lt2) trodAll_mk0))), rfl, bel.frame _, fun h => by cases h⟩

theorem over : Rows.extOnceRow.holds Try.pinned (OpenSpec.ofChange Rows.extOnceSpec) :=
  OpenClaim.holds_of_wide 3 Try.f3 rfl rfl rfl rfl rfl rfl rfl ⟨rfl, rfl, rfl, rfl, rfl⟩ rfl rfl rfl rfl rfl (by kernel_rfl) Try.func3 (by kernel_rfl)
    (of_decide_eq_true (by kernel_rfl)) (by unfold Func.isWrapper; first | (rw [if_pos (by decide +kernel)]; kernel_rfl) | (rw [if_neg (by decide +kernel)]; exact ⟨rfl, rfl⟩))
    (fun os started H enc _ => lifted os started H enc)

theorem proved : Rows.ExtOnceSaid := over
#print axioms proved
end Go.Proofs.Ytomncnelkkmalab.extOnce
