/- The law PageOrder holds: its Go text answers true for every input, and leaves its arguments as they were. No condition beyond the statement's own. -/
import Derived.Test.YtolcacmkageidaaRows
import Derived.Test.YtolcacmkageidaaPgN
import Derived.Test.YtolcacmkageidaaAwake5
import Derived.Test.YtolcacmkageidaaOpen5
import Derived.ProofKit
import Derived.OpenShut
import Derived.ShutString
import Derived.ChangeOld
import Derived.Below
import Derived.SizedLaws
namespace Go.Proofs.Ytolcacmkageidaa.pageOrder
open Go.ChangeShapes Go.WideShapes Go.ChangeAt Go.RowKit
open Go.ChangeMaps (open_string shut_string)
open Go.Proofs.Ytolcacmkageidaa.FM
set_option linter.unusedVariables false
set_option linter.unusedSimpArgs false

theorem own : ownKnob Try.prog.godebug = none := by kernel_rfl
theorem laidOut : laidOutB Try.prog = true := by kernel_rfl

open PG FM CM MM

/-- Three boxes, one behind the other. -/
def Th (w w0 : World) (A B C : Array Value) (T : TypeId) : Prop := Blk w w0.heap.size T A ∧ Blk w (w0.heap.size + 1) T B ∧ Blk w (w0.heap.size + 1 + 1) T C ∧ Below w0.heap.size w0 w
theorem Th.keep {w w' w0 : World} {A B C : Array Value} {T : TypeId} (h : Th w w0 A B C T) (hb : Below w.heap.size w w') : Th w' w0 A B C T :=
  ⟨h.1.below hb h.1.lt, h.2.1.below hb h.2.1.lt, h.2.2.1.below hb h.2.2.1.lt, h.2.2.2.trans (hb.mono h.2.2.2.size)⟩
theorem three_at (w : World) (A B C : Array Value) (T : TypeId) (w0 : World) (h : w0 = ((w.alloc (.cells A T)).alloc (.cells B T)).alloc (.cells C T)) : Th w0 w A B C T := by
  subst h
  have h2 := Blk.new (w.alloc (.cells A T)) T B
  rw [show (w.alloc (.cells A T)).heap.size = w.heap.size + 1 from by simp] at h2
  have h3 := Blk.new ((w.alloc (.cells A T)).alloc (.cells B T)) T C
  rw [show ((w.alloc (.cells A T)).alloc (.cells B T)).heap.size = w.heap.size + 1 + 1 from by simp] at h3
  exact ⟨((Blk.new w T A).alloc _).alloc _, h2.alloc _, h3, ((below_box w _).alloc (by simp) _).alloc (by simp; omega) _⟩

set_option maxHeartbeats 4000000 in
theorem order_n (k s y q k' s' y' q' k2 s2 y2 q2 : Int) (b b' b2 : ByteArray) (w : World) (l1 : ¬ (20000 : Int) < (b.size : Int)) (l2 : ¬ (20000 : Int) < (b'.size : Int)) (l3 : ¬ (20000 : Int) < (b2.size : Int)) (H_aa : Hid (∀ w, Calls Try.prog 14 #[.agg #[.int .i64 k, .int .i64 s, .int .i64 y, .int .i64 q, .string b], .agg #[.int .i64 k, .int .i64 s, .int .i64 y, .int .i64 q, .string b]] w fun e w' => e = .returned (.bool false) ∧ Below w.heap.size w w')) (H_ab : Hid (∀ w, Calls Try.prog 14 #[.agg #[.int .i64 k, .int .i64 s, .int .i64 y, .int .i64 q, .string b], .agg #[.int .i64 k', .int .i64 s', .int .i64 y', .int .i64 q', .string b']] w fun e w' => e = .returned (.bool false) ∧ Below w.heap.size w w')) :
    Calls Try.prog 7 #[.agg #[.int .i64 k, .int .i64 s, .int .i64 y, .int .i64 q, .string b], .agg #[.int .i64 k', .int .i64 s', .int .i64 y', .int .i64 q', .string b'], .agg #[.int .i64 k2, .int .i64 s2, .int .i64 y2, .int .i64 q2, .string b2]] w fun e w' => e = .returned (.bool true) ∧ Below w.heap.size w w' := by
  have HW := Lib.hid PG.awake_any
  obtain ⟨w0, hw0⟩ : ∃ w0, w0 = ((w.alloc (.cells #[.int .i64 k, .int .i64 s, .int .i64 y, .int .i64 q, .string b] 23)).alloc (.cells #[.int .i64 k', .int .i64 s', .int .i64 y', .int .i64 q', .string b'] 23)).alloc (.cells #[.int .i64 k2, .int .i64 s2, .int .i64 y2, .int .i64 q2, .string b2] 23) := ⟨_, rfl⟩
  have H0 := Lib.hid (three_at w #[.int .i64 k, .int .i64 s, .int .i64 y, .int .i64 q, .string b] #[.int .i64 k', .int .i64 s', .int .i64 y', .int .i64 q', .string b'] #[.int .i64 k2, .int .i64 s2, .int .i64 y2, .int .i64 q2, .string b2] 23 w0 hw0)
  have HW0 := Lib.hid hw0
  clear hw0
  go_enter Try.func7, Try.ntmps7
  go_wp2_with fail
  rw [← HW0.out]
  obtain ⟨KA0, KB0, KC0, HB0⟩ := H0.out
  obtain ⟨⟨ca0, ca1, ca2, ca3, ca4⟩, _⟩ := cells5 KA0
  obtain ⟨⟨cb0, cb1, cb2, cb3, cb4⟩, _⟩ := cells5 KB0
  obtain ⟨⟨cc0, cc1, cc2, cc3, cc4⟩, _⟩ := cells5 KC0
  refine (H_aa.out _).mono ?_
  rintro e w1 ⟨rfl, hb1⟩
  have H1 := Lib.hid (H0.out.keep hb1)
  clear ca0 ca1 ca2 ca3 ca4 cb0 cb1 cb2 cb3 cb4 cc0 cc1 cc2 cc3 cc4 KA0 KB0 KC0 HB0 hb1
  obtain ⟨KA1, KB1, KC1, HB1⟩ := H1.out
  obtain ⟨⟨ca0, ca1, ca2, ca3, ca4⟩, _⟩ := cells5 KA1
  obtain ⟨⟨cb0, cb1, cb2, cb3, cb4⟩, _⟩ := cells5 KB1
  obtain ⟨⟨cc0, cc1, cc2, cc3, cc4⟩, _⟩ := cells5 KC1
  go_wp2_with fail
  refine (H_ab.out _).mono ?_
  rintro e w2 ⟨rfl, hb2⟩
  have H2 := Lib.hid (H1.out.keep hb2)
  clear ca0 ca1 ca2 ca3 ca4 cb0 cb1 cb2 cb3 cb4 cc0 cc1 cc2 cc3 cc4 KA1 KB1 KC1 HB1 hb2
  obtain ⟨KA2, KB2, KC2, HB2⟩ := H2.out
  obtain ⟨⟨ca0, ca1, ca2, ca3, ca4⟩, _⟩ := cells5 KA2
  obtain ⟨⟨cb0, cb1, cb2, cb3, cb4⟩, _⟩ := cells5 KB2
  obtain ⟨⟨cc0, cc1, cc2, cc3, cc4⟩, _⟩ := cells5 KC2
  go_wp2_with fail
  refine (HW.out _).mono ?_
  rintro e w3 ⟨rfl, hb3⟩
  have H3 := Lib.hid (H2.out.keep hb3)
  clear ca0 ca1 ca2 ca3 ca4 cb0 cb1 cb2 cb3 cb4 cc0 cc1 cc2 cc3 cc4 KA2 KB2 KC2 HB2 hb3
  obtain ⟨KA3, KB3, KC3, HB3⟩ := H3.out
  obtain ⟨⟨ca0, ca1, ca2, ca3, ca4⟩, _⟩ := cells5 KA3
  obtain ⟨⟨cb0, cb1, cb2, cb3, cb4⟩, _⟩ := cells5 KB3
  obtain ⟨⟨cc0, cc1, cc2, cc3, cc4⟩, _⟩ := cells5 KC3
  go_wp2_with fail
  refine (H_ab.out _).mono ?_
  rintro e w4 ⟨rfl, hb4⟩
  have H4 := Lib.hid (H3.out.keep hb4).2.2.2
  clear ca0 ca1 ca2 ca3 ca4 cb0 cb1 cb2 cb3 cb4 cc0 cc1 cc2 cc3 cc4 KA3 KB3 KC3 HB3 hb4
  go_wp2
  go_ret
  exact ⟨rfl, H4.out⟩

set_option maxHeartbeats 4000000 in
theorem order_yn (k s y q k' s' y' q' k2 s2 y2 q2 : Int) (b b' b2 : ByteArray) (w : World) (l1 : ¬ (20000 : Int) < (b.size : Int)) (l2 : ¬ (20000 : Int) < (b'.size : Int)) (l3 : ¬ (20000 : Int) < (b2.size : Int)) (H_aa : Hid (∀ w, Calls Try.prog 14 #[.agg #[.int .i64 k, .int .i64 s, .int .i64 y, .int .i64 q, .string b], .agg #[.int .i64 k, .int .i64 s, .int .i64 y, .int .i64 q, .string b]] w fun e w' => e = .returned (.bool false) ∧ Below w.heap.size w w')) (H_ab : Hid (∀ w, Calls Try.prog 14 #[.agg #[.int .i64 k, .int .i64 s, .int .i64 y, .int .i64 q, .string b], .agg #[.int .i64 k', .int .i64 s', .int .i64 y', .int .i64 q', .string b']] w fun e w' => e = .returned (.bool true) ∧ Below w.heap.size w w')) (H_ba : Hid (∀ w, Calls Try.prog 14 #[.agg #[.int .i64 k', .int .i64 s', .int .i64 y', .int .i64 q', .string b'], .agg #[.int .i64 k, .int .i64 s, .int .i64 y, .int .i64 q, .string b]] w fun e w' => e = .returned (.bool false) ∧ Below w.heap.size w w')) (H_bc : Hid (∀ w, Calls Try.prog 14 #[.agg #[.int .i64 k', .int .i64 s', .int .i64 y', .int .i64 q', .string b'], .agg #[.int .i64 k2, .int .i64 s2, .int .i64 y2, .int .i64 q2, .string b2]] w fun e w' => e = .returned (.bool false) ∧ Below w.heap.size w w')) :
    Calls Try.prog 7 #[.agg #[.int .i64 k, .int .i64 s, .int .i64 y, .int .i64 q, .string b], .agg #[.int .i64 k', .int .i64 s', .int .i64 y', .int .i64 q', .string b'], .agg #[.int .i64 k2, .int .i64 s2, .int .i64 y2, .int .i64 q2, .string b2]] w fun e w' => e = .returned (.bool true) ∧ Below w.heap.size w w' := by
  have HW := Lib.hid PG.awake_any
  obtain ⟨w0, hw0⟩ : ∃ w0, w0 = ((w.alloc (.cells #[.int .i64 k, .int .i64 s, .int .i64 y, .int .i64 q, .string b] 23)).alloc (.cells #[.int .i64 k', .int .i64 s', .int .i64 y', .int .i64 q', .string b'] 23)).alloc (.cells #[.int .i64 k2, .int .i64 s2, .int .i64 y2, .int .i64 q2, .string b2] 23) := ⟨_, rfl⟩
  have H0 := Lib.hid (three_at w #[.int .i64 k, .int .i64 s, .int .i64 y, .int .i64 q, .string b] #[.int .i64 k', .int .i64 s', .int .i64 y', .int .i64 q', .string b'] #[.int .i64 k2, .int .i64 s2, .int .i64 y2, .int .i64 q2, .string b2] 23 w0 hw0)
  have HW0 := Lib.hid hw0
  clear hw0
  go_enter Try.func7, Try.ntmps7
  go_wp2_with fail
  rw [← HW0.out]
  obtain ⟨KA0, KB0, KC0, HB0⟩ := H0.out
  obtain ⟨⟨ca0, ca1, ca2, ca3, ca4⟩, _⟩ := cells5 KA0
  obtain ⟨⟨cb0, cb1, cb2, cb3, cb4⟩, _⟩ := cells5 KB0
  obtain ⟨⟨cc0, cc1, cc2, cc3, cc4⟩, _⟩ := cells5 KC0
  refine (H_aa.out _).mono ?_
  rintro e w1 ⟨rfl, hb1⟩
  have H1 := Lib.hid (H0.out.keep hb1)
  clear ca0 ca1 ca2 ca3 ca4 cb0 cb1 cb2 cb3 cb4 cc0 cc1 cc2 cc3 cc4 KA0 KB0 KC0 HB0 hb1
  obtain ⟨KA1, KB1, KC1, HB1⟩ := H1.out
  obtain ⟨⟨ca0, ca1, ca2, ca3, ca4⟩, _⟩ := cells5 KA1
  obtain ⟨⟨cb0, cb1, cb2, cb3, cb4⟩, _⟩ := cells5 KB1
  obtain ⟨⟨cc0, cc1, cc2, cc3, cc4⟩, _⟩ := cells5 KC1
  go_wp2_with fail
  refine (H_ab.out _).mono ?_
  rintro e w2 ⟨rfl, hb2⟩
  have H2 := Lib.hid (H1.out.keep hb2)
  clear ca0 ca1 ca2 ca3 ca4 cb0 cb1 cb2 cb3 cb4 cc0 cc1 cc2 cc3 cc4 KA1 KB1 KC1 HB1 hb2
  obtain ⟨KA2, KB2, KC2, HB2⟩ := H2.out
  obtain ⟨⟨ca0, ca1, ca2, ca3, ca4⟩, _⟩ := cells5 KA2
  obtain ⟨⟨cb0, cb1, cb2, cb3, cb4⟩, _⟩ := cells5 KB2
  obtain ⟨⟨cc0, cc1, cc2, cc3, cc4⟩, _⟩ := cells5 KC2
  go_wp2_with fail
  refine (H_ba.out _).mono ?_
  rintro e w3 ⟨rfl, hb3⟩
  have H3 := Lib.hid (H2.out.keep hb3)
  clear ca0 ca1 ca2 ca3 ca4 cb0 cb1 cb2 cb3 cb4 cc0 cc1 cc2 cc3 cc4 KA2 KB2 KC2 HB2 hb3
  obtain ⟨KA3, KB3, KC3, HB3⟩ := H3.out
  obtain ⟨⟨ca0, ca1, ca2, ca3, ca4⟩, _⟩ := cells5 KA3
  obtain ⟨⟨cb0, cb1, cb2, cb3, cb4⟩, _⟩ := cells5 KB3
  obtain ⟨⟨cc0, cc1, cc2, cc3, cc4⟩, _⟩ := cells5 KC3
  go_wp2_with fail
  refine (HW.out _).mono ?_
  rintro e w4 ⟨rfl, hb4⟩
  have H4 := Lib.hid (H3.out.keep hb4)
  clear ca0 ca1 ca2 ca3 ca4 cb0 cb1 cb2 cb3 cb4 cc0 cc1 cc2 cc3 cc4 KA3 KB3 KC3 HB3 hb4
  obtain ⟨KA4, KB4, KC4, HB4⟩ := H4.out
  obtain ⟨⟨ca0, ca1, ca2, ca3, ca4⟩, _⟩ := cells5 KA4
  obtain ⟨⟨cb0, cb1, cb2, cb3, cb4⟩, _⟩ := cells5 KB4
  obtain ⟨⟨cc0, cc1, cc2, cc3, cc4⟩, _⟩ := cells5 KC4
  go_wp2_with fail
  refine (H_ab.out _).mono ?_
  rintro e w5 ⟨rfl, hb5⟩
  have H5 := Lib.hid (H4.out.keep hb5)
  clear ca0 ca1 ca2 ca3 ca4 cb0 cb1 cb2 cb3 cb4 cc0 cc1 cc2 cc3 cc4 KA4 KB4 KC4 HB4 hb5
  obtain ⟨KA5, KB5, KC5, HB5⟩ := H5.out
  obtain ⟨⟨ca0, ca1, ca2, ca3, ca4⟩, _⟩ := cells5 KA5
  obtain ⟨⟨cb0, cb1, cb2, cb3, cb4⟩, _⟩ := cells5 KB5
  obtain ⟨⟨cc0, cc1, cc2, cc3, cc4⟩, _⟩ := cells5 KC5
  go_wp2_with fail
  refine (H_bc.out _).mono ?_
  rintro e w6 ⟨rfl, hb6⟩
  have H6 := Lib.hid (H5.out.keep hb6).2.2.2
  clear ca0 ca1 ca2 ca3 ca4 cb0 cb1 cb2 cb3 cb4 cc0 cc1 cc2 cc3 cc4 KA5 KB5 KC5 HB5 hb6
  go_wp2
  go_ret
  exact ⟨rfl, H6.out⟩

set_option maxHeartbeats 4000000 in
theorem order_yy (k s y q k' s' y' q' k2 s2 y2 q2 : Int) (b b' b2 : ByteArray) (w : World) (l1 : ¬ (20000 : Int) < (b.size : Int)) (l2 : ¬ (20000 : Int) < (b'.size : Int)) (l3 : ¬ (20000 : Int) < (b2.size : Int)) (H_aa : Hid (∀ w, Calls Try.prog 14 #[.agg #[.int .i64 k, .int .i64 s, .int .i64 y, .int .i64 q, .string b], .agg #[.int .i64 k, .int .i64 s, .int .i64 y, .int .i64 q, .string b]] w fun e w' => e = .returned (.bool false) ∧ Below w.heap.size w w')) (H_ab : Hid (∀ w, Calls Try.prog 14 #[.agg #[.int .i64 k, .int .i64 s, .int .i64 y, .int .i64 q, .string b], .agg #[.int .i64 k', .int .i64 s', .int .i64 y', .int .i64 q', .string b']] w fun e w' => e = .returned (.bool true) ∧ Below w.heap.size w w')) (H_ba : Hid (∀ w, Calls Try.prog 14 #[.agg #[.int .i64 k', .int .i64 s', .int .i64 y', .int .i64 q', .string b'], .agg #[.int .i64 k, .int .i64 s, .int .i64 y, .int .i64 q, .string b]] w fun e w' => e = .returned (.bool false) ∧ Below w.heap.size w w')) (H_bc : Hid (∀ w, Calls Try.prog 14 #[.agg #[.int .i64 k', .int .i64 s', .int .i64 y', .int .i64 q', .string b'], .agg #[.int .i64 k2, .int .i64 s2, .int .i64 y2, .int .i64 q2, .string b2]] w fun e w' => e = .returned (.bool true) ∧ Below w.heap.size w w')) (H_ac : Hid (∀ w, Calls Try.prog 14 #[.agg #[.int .i64 k, .int .i64 s, .int .i64 y, .int .i64 q, .string b], .agg #[.int .i64 k2, .int .i64 s2, .int .i64 y2, .int .i64 q2, .string b2]] w fun e w' => e = .returned (.bool true) ∧ Below w.heap.size w w')) :
    Calls Try.prog 7 #[.agg #[.int .i64 k, .int .i64 s, .int .i64 y, .int .i64 q, .string b], .agg #[.int .i64 k', .int .i64 s', .int .i64 y', .int .i64 q', .string b'], .agg #[.int .i64 k2, .int .i64 s2, .int .i64 y2, .int .i64 q2, .string b2]] w fun e w' => e = .returned (.bool true) ∧ Below w.heap.size w w' := by
  have HW := Lib.hid PG.awake_any
  obtain ⟨w0, hw0⟩ : ∃ w0, w0 = ((w.alloc (.cells #[.int .i64 k, .int .i64 s, .int .i64 y, .int .i64 q, .string b] 23)).alloc (.cells #[.int .i64 k', .int .i64 s', .int .i64 y', .int .i64 q', .string b'] 23)).alloc (.cells #[.int .i64 k2, .int .i64 s2, .int .i64 y2, .int .i64 q2, .string b2] 23) := ⟨_, rfl⟩
  have H0 := Lib.hid (three_at w #[.int .i64 k, .int .i64 s, .int .i64 y, .int .i64 q, .string b] #[.int .i64 k', .int .i64 s', .int .i64 y', .int .i64 q', .string b'] #[.int .i64 k2, .int .i64 s2, .int .i64 y2, .int .i64 q2, .string b2] 23 w0 hw0)
  have HW0 := Lib.hid hw0
  clear hw0
  go_enter Try.func7, Try.ntmps7
  go_wp2_with fail
  rw [← HW0.out]
  obtain ⟨KA0, KB0, KC0, HB0⟩ := H0.out
  obtain ⟨⟨ca0, ca1, ca2, ca3, ca4⟩, _⟩ := cells5 KA0
  obtain ⟨⟨cb0, cb1, cb2, cb3, cb4⟩, _⟩ := cells5 KB0
  obtain ⟨⟨cc0, cc1, cc2, cc3, cc4⟩, _⟩ := cells5 KC0
  refine (H_aa.out _).mono ?_
  rintro e w1 ⟨rfl, hb1⟩
  have H1 := Lib.hid (H0.out.keep hb1)
  clear ca0 ca1 ca2 ca3 ca4 cb0 cb1 cb2 cb3 cb4 cc0 cc1 cc2 cc3 cc4 KA0 KB0 KC0 HB0 hb1
  obtain ⟨KA1, KB1, KC1, HB1⟩ := H1.out
  obtain ⟨⟨ca0, ca1, ca2, ca3, ca4⟩, _⟩ := cells5 KA1
  obtain ⟨⟨cb0, cb1, cb2, cb3, cb4⟩, _⟩ := cells5 KB1
  obtain ⟨⟨cc0, cc1, cc2, cc3, cc4⟩, _⟩ := cells5 KC1
  go_wp2_with fail
  refine (H_ab.out _).mono ?_
  rintro e w2 ⟨rfl, hb2⟩
  have H2 := Lib.hid (H1.out.keep hb2)
  clear ca0 ca1 ca2 ca3 ca4 cb0 cb1 cb2 cb3 cb4 cc0 cc1 cc2 cc3 cc4 KA1 KB1 KC1 HB1 hb2
  obtain ⟨KA2, KB2, KC2, HB2⟩ := H2.out
  obtain ⟨⟨ca0, ca1, ca2, ca3, ca4⟩, _⟩ := cells5 KA2
  obtain ⟨⟨cb0, cb1, cb2, cb3, cb4⟩, _⟩ := cells5 KB2
  obtain ⟨⟨cc0, cc1, cc2, cc3, cc4⟩, _⟩ := cells5 KC2
  go_wp2_with fail
  refine (H_ba.out _).mono ?_
  rintro e w3 ⟨rfl, hb3⟩
  have H3 := Lib.hid (H2.out.keep hb3)
  clear ca0 ca1 ca2 ca3 ca4 cb0 cb1 cb2 cb3 cb4 cc0 cc1 cc2 cc3 cc4 KA2 KB2 KC2 HB2 hb3
  obtain ⟨KA3, KB3, KC3, HB3⟩ := H3.out
  obtain ⟨⟨ca0, ca1, ca2, ca3, ca4⟩, _⟩ := cells5 KA3
  obtain ⟨⟨cb0, cb1, cb2, cb3, cb4⟩, _⟩ := cells5 KB3
  obtain ⟨⟨cc0, cc1, cc2, cc3, cc4⟩, _⟩ := cells5 KC3
  go_wp2_with fail
  refine (HW.out _).mono ?_
  rintro e w4 ⟨rfl, hb4⟩
  have H4 := Lib.hid (H3.out.keep hb4)
  clear ca0 ca1 ca2 ca3 ca4 cb0 cb1 cb2 cb3 cb4 cc0 cc1 cc2 cc3 cc4 KA3 KB3 KC3 HB3 hb4
  obtain ⟨KA4, KB4, KC4, HB4⟩ := H4.out
  obtain ⟨⟨ca0, ca1, ca2, ca3, ca4⟩, _⟩ := cells5 KA4
  obtain ⟨⟨cb0, cb1, cb2, cb3, cb4⟩, _⟩ := cells5 KB4
  obtain ⟨⟨cc0, cc1, cc2, cc3, cc4⟩, _⟩ := cells5 KC4
  go_wp2_with fail
  refine (H_ab.out _).mono ?_
  rintro e w5 ⟨rfl, hb5⟩
  have H5 := Lib.hid (H4.out.keep hb5)
  clear ca0 ca1 ca2 ca3 ca4 cb0 cb1 cb2 cb3 cb4 cc0 cc1 cc2 cc3 cc4 KA4 KB4 KC4 HB4 hb5
  obtain ⟨KA5, KB5, KC5, HB5⟩ := H5.out
  obtain ⟨⟨ca0, ca1, ca2, ca3, ca4⟩, _⟩ := cells5 KA5
  obtain ⟨⟨cb0, cb1, cb2, cb3, cb4⟩, _⟩ := cells5 KB5
  obtain ⟨⟨cc0, cc1, cc2, cc3, cc4⟩, _⟩ := cells5 KC5
  go_wp2_with fail
  refine (H_bc.out _).mono ?_
  rintro e w6 ⟨rfl, hb6⟩
  have H6 := Lib.hid (H5.out.keep hb6)
  clear ca0 ca1 ca2 ca3 ca4 cb0 cb1 cb2 cb3 cb4 cc0 cc1 cc2 cc3 cc4 KA5 KB5 KC5 HB5 hb6
  obtain ⟨KA6, KB6, KC6, HB6⟩ := H6.out
  obtain ⟨⟨ca0, ca1, ca2, ca3, ca4⟩, _⟩ := cells5 KA6
  obtain ⟨⟨cb0, cb1, cb2, cb3, cb4⟩, _⟩ := cells5 KB6
  obtain ⟨⟨cc0, cc1, cc2, cc3, cc4⟩, _⟩ := cells5 KC6
  go_wp2_with fail
  refine (H_ac.out _).mono ?_
  rintro e w7 ⟨rfl, hb7⟩
  have H7 := Lib.hid (H6.out.keep hb7).2.2.2
  clear ca0 ca1 ca2 ca3 ca4 cb0 cb1 cb2 cb3 cb4 cc0 cc1 cc2 cc3 cc4 KA6 KB6 KC6 HB6 hb7
  go_wp2
  go_ret
  exact ⟨rfl, H7.out⟩

theorem order_long (k s y q k' s' y' q' k2 s2 y2 q2 : Int) (b b' b2 : ByteArray) (w : World) (h : 20000 < b.size ∨ 20000 < b'.size ∨ 20000 < b2.size) :
    Calls Try.prog 7 #[.agg #[.int .i64 k, .int .i64 s, .int .i64 y, .int .i64 q, .string b], .agg #[.int .i64 k', .int .i64 s', .int .i64 y', .int .i64 q', .string b'], .agg #[.int .i64 k2, .int .i64 s2, .int .i64 y2, .int .i64 q2, .string b2]] w fun e w' => e = .returned (.bool true) ∧ Below w.heap.size w w' := by
  by_cases h1 : (20000 : Int) < (b.size : Int)
  · clear h
    go_enter Try.func7, Try.ntmps7
    go_wp2_with fail
    refine (PG.awake_any _).mono ?_
    rintro e w1 ⟨rfl, hb1⟩
    have HB := Lib.hid ((((below_box w _).alloc (by simp) _).alloc (by simp; omega) _).trans (hb1.mono (((below_box w _).alloc (by simp) _).alloc (by simp; omega) _).size))
    clear hb1
    go_wp2
    go_ret
    exact ⟨rfl, HB.out⟩
  by_cases h2 : (20000 : Int) < (b'.size : Int)
  · clear h
    go_enter Try.func7, Try.ntmps7
    go_wp2_with fail
    refine (PG.awake_any _).mono ?_
    rintro e w1 ⟨rfl, hb1⟩
    have HB := Lib.hid ((((below_box w _).alloc (by simp) _).alloc (by simp; omega) _).trans (hb1.mono (((below_box w _).alloc (by simp) _).alloc (by simp; omega) _).size))
    clear hb1
    go_wp2
    go_ret
    exact ⟨rfl, HB.out⟩
  · have h3 : (20000 : Int) < (b2.size : Int) := by omega
    clear h
    go_enter Try.func7, Try.ntmps7
    go_wp2_with fail
    refine (PG.awake_any _).mono ?_
    rintro e w1 ⟨rfl, hb1⟩
    have HB := Lib.hid ((((below_box w _).alloc (by simp) _).alloc (by simp; omega) _).trans (hb1.mono (((below_box w _).alloc (by simp) _).alloc (by simp; omega) _).size))
    clear hb1
    go_wp2
    go_ret
    exact ⟨rfl, HB.out⟩

theorem walk (x0 : PG.Pg) (x1 : PG.Pg) (x2 : PG.Pg) (w : World) (w0 : OP.PgWf x0) (w1 : OP.PgWf x1) (w2 : OP.PgWf x2) :
    Calls Try.prog 7 #[.agg #[.int .i64 x0.kind, .int .i64 x0.space, .int .i64 x0.key, .int .i64 x0.seq, .string x0.body], .agg #[.int .i64 x1.kind, .int .i64 x1.space, .int .i64 x1.key, .int .i64 x1.seq, .string x1.body], .agg #[.int .i64 x2.kind, .int .i64 x2.space, .int .i64 x2.key, .int .i64 x2.seq, .string x2.body]] w fun e w' => e = .returned (.bool true) ∧ Below w.heap.size w w' := by
  by_cases hl : 20000 < x0.body.size ∨ 20000 < x1.body.size ∨ 20000 < x2.body.size
  · exact order_long _ _ _ _ _ _ _ _ _ _ _ _ _ _ _ w hl
  · have l1 : ¬ (20000 : Int) < (x0.body.size : Int) := by omega
    have l2 : ¬ (20000 : Int) < (x1.body.size : Int) := by omega
    have l3 : ¬ (20000 : Int) < (x2.body.size : Int) := by omega
    have haa := newer_any x0 x0
    rw [decide_eq_false (show ¬ Nw x0 x0 from fun h => Int.lt_irrefl _ h.2.2.2.2.2)] at haa
    have hab := newer_any x0 x1
    by_cases n1 : Nw x0 x1
    · rw [decide_eq_true n1] at hab
      have hba := newer_any x1 x0
      rw [decide_eq_false (show ¬ Nw x1 x0 from fun h => Int.lt_irrefl _ (Int.lt_trans h.2.2.2.2.2 n1.2.2.2.2.2))] at hba
      have hbc := newer_any x1 x2
      by_cases n2 : Nw x1 x2
      · rw [decide_eq_true n2] at hbc
        have hac := newer_any x0 x2
        rw [decide_eq_true (show Nw x0 x2 from ⟨n1.1, n2.2.1, n1.2.2.1.trans n2.2.2.1, n1.2.2.2.1.trans n2.2.2.2.1, n1.2.2.2.2.1.trans n2.2.2.2.2.1, Int.lt_trans n2.2.2.2.2.2 n1.2.2.2.2.2⟩)] at hac
        exact order_yy _ _ _ _ _ _ _ _ _ _ _ _ _ _ _ w l1 l2 l3 (Lib.hid haa) (Lib.hid hab) (Lib.hid hba) (Lib.hid hbc) (Lib.hid hac)
      · rw [decide_eq_false n2] at hbc
        exact order_yn _ _ _ _ _ _ _ _ _ _ _ _ _ _ _ w l1 l2 l3 (Lib.hid haa) (Lib.hid hab) (Lib.hid hba) (Lib.hid hbc)
    · rw [decide_eq_false n1] at hab
      exact order_n _ _ _ _ _ _ _ _ _ _ _ _ _ _ _ w l1 l2 l3 (Lib.hid haa) (Lib.hid hab)

set_option maxRecDepth 100000 in
theorem lifted (os : Os) (started : os.Started) (H : Type) (enc : TypeId × Value → H) :
    ReturnsInHanded {} Try.checked os 7 .any (Rows.pageOrderSpec.pre6 enc Try.prog Try.f7 Rows.pageOrderRow.domain false) (Rows.pageOrderSpec.post enc Try.prog Try.f7 false true false false) := by
  refine returnsInHanded_of_change_sized (C := Try.checked) own started (by kernel_rfl) Try.func7
    (ChangeSpec.witness6 (enc := enc) (C := Try.checked) false ⟨#[], #[.agg #[.int .i64 0, .int .i64 0, .int .i64 0, .int .i64 0, .string ByteArray.empty], .agg #[.int .i64 0, .int .i64 0, .int .i64 0, .int .i64 0, .string ByteArray.empty], .agg #[.int .i64 0, .int .i64 0, .int .i64 0, .int .i64 0, .string ByteArray.empty]], []⟩ 8 (by kernel_rfl) (by kernel_rfl) (by kernel_rfl) (by kernel_rfl)) ?_
  intro W base args ds gs before hval0 hW hcnd hsz0 _
  have hval : ∀ (j : Nat) t v, Try.f7.params[j]? = some t → args[j]? = some v → Value.okWide Try.prog W .any base t v := hval0
  have hW' := hW
  obtain ⟨p, q, hA0, hV, rfl, hfz, hnd⟩ := hW
  have hA : DataW.TrodAll enc Try.prog W 0 (fun _ => true) true Try.f7.params.toList args.toList ds p := hA0
  have hsz : (DataW.weightsEach Try.prog (Try.f7.params.toList ++ Rows.pageOrderSpec.plain.varTypes Try.prog) (ds ++ gs)).all (· ≤ reachBytes) = true := hsz0
  rw [Try.params7] at hA hval hsz
  obtain ⟨v0, vs0, d0, ds0, p0, q0, hargs, rfl, rfl, h0, r0⟩ := trodAll_cons hA
  obtain ⟨v1, vs1, d1, ds1, p1, q1, rfl, rfl, rfl, h1, r1⟩ := trodAll_cons r0
  obtain ⟨v2, vs2, d2, ds2, p2, q2, rfl, rfl, rfl, h2, r2⟩ := trodAll_cons r1
  obtain ⟨rfl, rfl, rfl⟩ := trodAll_nil r2
  obtain rfl : args = #[v0, v1, v2] := by cases args; simp_all
  obtain ⟨rfl, rfl⟩ := trodVars_none hV
  have k0 := h0
  have lt0 : ∀ x ∈ p0, x.block < W.heap.size := by obtain ⟨m, hm⟩ := k0; exact DataW.trod_lt m _ _ _ hm
  obtain ⟨x0, rfl, w0⟩ := OP.open_page (hval 0 23 v0 rfl rfl) h0
  have k1 := h1
  have lt1 : ∀ x ∈ p1, x.block < W.heap.size := by obtain ⟨m, hm⟩ := k1; exact DataW.trod_lt m _ _ _ hm
  obtain ⟨x1, rfl, w1⟩ := OP.open_page (hval 1 23 v1 rfl rfl) h1
  have k2 := h2
  have lt2 : ∀ x ∈ p2, x.block < W.heap.size := by obtain ⟨m, hm⟩ := k2; exact DataW.trod_lt m _ _ _ hm
  obtain ⟨x2, rfl, w2⟩ := OP.open_page (hval 2 23 v2 rfl rfl) h2
  clear hA0 hval0 hsz0
  refine (walk x0 x1 x2 W w0 w1 w2).mono fun e W' ⟨he, bel⟩ => ?_
  subst he
  exact ⟨_, rfl, _, _, _, [], _, [], hW', trodAll_mk1 (shut_bool Try.underlying4 _), (trodAll_cons_mk (Below.trod laidOut (by kernel_rfl) (of_decide_eq_true (by kernel_rfl)) k0 bel lt0) (trodAll_cons_mk (Below.trod laidOut (by kernel_rfl) (of_decide_eq_true (by kernel_rfl)) k1 bel lt1) (trodAll_cons_mk (Below.trod laidOut (by kernel_rfl) (of_decide_eq_true (by kernel_rfl)) k2 bel lt2) trodAll_mk0))), rfl, bel.frame _, fun h => by cases h⟩

theorem over : Rows.pageOrderRow.holds Try.pinned (OpenSpec.ofChange Rows.pageOrderSpec) :=
  OpenClaim.holds_of_wide 7 Try.f7 rfl rfl rfl rfl rfl rfl rfl ⟨rfl, rfl, rfl, rfl, rfl⟩ rfl rfl rfl rfl rfl (by kernel_rfl) Try.func7 (by kernel_rfl)
    (of_decide_eq_true (by kernel_rfl)) (by unfold Func.isWrapper; first | (rw [if_pos (by decide +kernel)]; kernel_rfl) | (rw [if_neg (by decide +kernel)]; exact ⟨rfl, rfl⟩))
    (fun os started H enc _ => lifted os started H enc)

theorem proved : Rows.PageOrderSaid := over
#print axioms proved
end Go.Proofs.Ytolcacmkageidaa.pageOrder
