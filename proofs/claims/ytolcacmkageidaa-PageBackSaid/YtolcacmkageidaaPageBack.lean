/- The law PageBack holds: its Go text answers true for every input, and leaves its arguments as they were. No condition beyond the statement's own. -/
import Derived.Test.YtolcacmkageidaaRows
import Derived.Test.YtolcacmkageidaaPgE
import Derived.Test.YtolcacmkageidaaAwake5
import Derived.Test.YtolcacmkageidaaOpen5
import Derived.ProofKit
import Derived.OpenShut
import Derived.ShutString
import Derived.ChangeOld
import Derived.Below
import Derived.SizedLaws
namespace Go.Proofs.Ytolcacmkageidaa.pageBack
open Go.ChangeShapes Go.WideShapes Go.ChangeAt Go.RowKit
open Go.ChangeMaps (open_string shut_string)
open Go.Proofs.Ytolcacmkageidaa.FM
set_option linter.unusedVariables false
set_option linter.unusedSimpArgs false

theorem own : ownKnob Try.prog.godebug = none := by kernel_rfl
theorem laidOut : laidOutB Try.prog = true := by kernel_rfl

open PG FM CM MM

set_option maxHeartbeats 2000000 in
theorem back_we (p0 p1 p2 p3 : Int) (p4 s : ByteArray) (n : Int) (w : World) (l1 : ¬ (20000 : Int) < (p4.size : Int)) (l2 : ¬ (20000 : Int) < (s.size : Int)) (HW0 : Hid (∀ w, Calls Try.prog 10 #[.agg #[.int .i64 p0, .int .i64 p1, .int .i64 p2, .int .i64 p3, .string p4]] w fun e w' => e = .returned (.tuple #[.string ⟨#[]⟩, .int .i64 1]) ∧ Below w.heap.size w w')) (hn : ¬ n = 0) (HR : Hid (∀ w, Calls Try.prog 12 #[.string s] w fun e w' => e = .returned (.tuple #[.agg #[.int .i64 0, .int .i64 0, .int .i64 0, .int .i64 0, .string ⟨#[]⟩], .int .i64 n]) ∧ Below w.heap.size w w')) :
    Calls Try.prog 5 #[.agg #[.int .i64 p0, .int .i64 p1, .int .i64 p2, .int .i64 p3, .string p4], .string s] w fun e w' => e = .returned (.bool true) ∧ Below w.heap.size w w' := by
  obtain ⟨W, hW⟩ : ∃ W, W = w.alloc (.cells #[.int .i64 p0, .int .i64 p1, .int .i64 p2, .int .i64 p3, .string p4] 23) := ⟨_, rfl⟩
  have k0 : Blk W w.heap.size 23 #[.int .i64 p0, .int .i64 p1, .int .i64 p2, .int .i64 p3, .string p4] := by rw [hW]; exact Blk.new w _ _
  have hb0 : Below w.heap.size w W := by rw [hW]; exact below_box w _
  have HW := Lib.hid hW
  clear hW
  go_enter Try.func5, Try.ntmps5
  go_wp2_with fail
  rw [← HW.out]
  refine (HW0.out _).mono ?_
  rintro e w1 ⟨rfl, hb1⟩
  have K1 := Lib.hid (k0.below hb1 k0.lt)
  have B1 := Lib.hid (hb0.trans (hb1.mono hb0.size))
  clear hb1 k0 hb0
  go_wp2_with fail
  refine (HR.out _).mono ?_
  rintro e w3 ⟨rfl, hb3⟩
  obtain ⟨W3, hW3⟩ : ∃ W3, W3 = w3.alloc (.cells #[.int .i64 0, .int .i64 0, .int .i64 0, .int .i64 0, .string ⟨#[]⟩] 23) := ⟨_, rfl⟩
  obtain ⟨L3, hL3⟩ : ∃ L3, L3 = w3.heap.size := ⟨_, rfl⟩
  have J3 : Hid (Blk W3 L3 23 #[.int .i64 0, .int .i64 0, .int .i64 0, .int .i64 0, .string ⟨#[]⟩]) := by show Blk _ _ _ _; rw [hW3, hL3]; exact Blk.new w3 _ _
  have hbb := B1.out.trans (hb3.mono B1.out.size)
  have B3 : Hid (Below w.heap.size w W3) := by show Below _ _ _; rw [hW3]; exact hbb.alloc hbb.size _
  have HW3 := Lib.hid hW3
  have HL3 := Lib.hid hL3
  clear hW3 hL3 hb3 hbb
  go_wp2_with fail
  rw [← HW3.out]
  refine (PG.awake_any _).mono ?_
  rintro e w4 ⟨rfl, hb4⟩
  obtain ⟨⟨c0, c1, c2, c3, c4⟩, _⟩ := cells5 (J3.out.below hb4 J3.out.lt)
  rw [HL3.out] at c0 c1 c2 c3 c4
  have HB := Lib.hid (B3.out.trans (hb4.mono B3.out.size))
  clear hb4
  go_wp2
  go_ret
  exact ⟨rfl, HB.out⟩

set_option maxHeartbeats 2000000 in
theorem back_wo (p0 p1 p2 p3 : Int) (p4 s : ByteArray) (q0 q1 q2 q3 : Int) (q4 : ByteArray) (w : World) (l1 : ¬ (20000 : Int) < (p4.size : Int)) (l2 : ¬ (20000 : Int) < (s.size : Int)) (HW0 : Hid (∀ w, Calls Try.prog 10 #[.agg #[.int .i64 p0, .int .i64 p1, .int .i64 p2, .int .i64 p3, .string p4]] w fun e w' => e = .returned (.tuple #[.string ⟨#[]⟩, .int .i64 1]) ∧ Below w.heap.size w w')) (HR : Hid (∀ w, Calls Try.prog 12 #[.string s] w fun e w' => e = .returned (.tuple #[.agg #[.int .i64 q0, .int .i64 q1, .int .i64 q2, .int .i64 q3, .string q4], .int .i64 0]) ∧ Below w.heap.size w w')) (HW9 : Hid (∀ w, Calls Try.prog 10 #[.agg #[.int .i64 q0, .int .i64 q1, .int .i64 q2, .int .i64 q3, .string q4]] w fun e w' => e = .returned (.tuple #[.string s, .int .i64 0]) ∧ Below w.heap.size w w')) :
    Calls Try.prog 5 #[.agg #[.int .i64 p0, .int .i64 p1, .int .i64 p2, .int .i64 p3, .string p4], .string s] w fun e w' => e = .returned (.bool true) ∧ Below w.heap.size w w' := by
  obtain ⟨W, hW⟩ : ∃ W, W = w.alloc (.cells #[.int .i64 p0, .int .i64 p1, .int .i64 p2, .int .i64 p3, .string p4] 23) := ⟨_, rfl⟩
  have k0 : Blk W w.heap.size 23 #[.int .i64 p0, .int .i64 p1, .int .i64 p2, .int .i64 p3, .string p4] := by rw [hW]; exact Blk.new w _ _
  have hb0 : Below w.heap.size w W := by rw [hW]; exact below_box w _
  have HW := Lib.hid hW
  clear hW
  go_enter Try.func5, Try.ntmps5
  go_wp2_with fail
  rw [← HW.out]
  refine (HW0.out _).mono ?_
  rintro e w1 ⟨rfl, hb1⟩
  have K1 := Lib.hid (k0.below hb1 k0.lt)
  have B1 := Lib.hid (hb0.trans (hb1.mono hb0.size))
  clear hb1 k0 hb0
  go_wp2_with fail
  refine (HR.out _).mono ?_
  rintro e w3 ⟨rfl, hb3⟩
  obtain ⟨W3, hW3⟩ : ∃ W3, W3 = w3.alloc (.cells #[.int .i64 q0, .int .i64 q1, .int .i64 q2, .int .i64 q3, .string q4] 23) := ⟨_, rfl⟩
  obtain ⟨L3, hL3⟩ : ∃ L3, L3 = w3.heap.size := ⟨_, rfl⟩
  have J3 : Hid (Blk W3 L3 23 #[.int .i64 q0, .int .i64 q1, .int .i64 q2, .int .i64 q3, .string q4]) := by show Blk _ _ _ _; rw [hW3, hL3]; exact Blk.new w3 _ _
  have hbb := B1.out.trans (hb3.mono B1.out.size)
  have B3 : Hid (Below w.heap.size w W3) := by show Below _ _ _; rw [hW3]; exact hbb.alloc hbb.size _
  have HW3 := Lib.hid hW3
  have HL3 := Lib.hid hL3
  clear hW3 hL3 hb3 hbb
  obtain ⟨⟨c0, c1, c2, c3, c4⟩, _⟩ := cells5 J3.out
  rw [HL3.out] at c0 c1 c2 c3 c4
  rw [HW3.out] at c0 c1 c2 c3 c4
  go_wp2_with fail
  rw [← HW3.out]
  clear c0 c1 c2 c3 c4
  refine (HW9.out _).mono ?_
  rintro e w4 ⟨rfl, hb4⟩
  have HB := Lib.hid (B3.out.trans (hb4.mono B3.out.size))
  clear hb4
  go_wp2_with fail
  refine (PG.awake_any _).mono ?_
  rintro e w5 ⟨rfl, hb5⟩
  have HB5 := Lib.hid (HB.out.trans (hb5.mono HB.out.size))
  clear hb5
  go_wp2
  go_ret
  exact ⟨rfl, HB5.out⟩

set_option maxHeartbeats 2000000 in
theorem back_oe (p0 p1 p2 p3 : Int) (p4 s : ByteArray) (S : ByteArray) (n : Int) (w : World) (l1 : ¬ (20000 : Int) < (p4.size : Int)) (l2 : ¬ (20000 : Int) < (s.size : Int)) (HW0 : Hid (∀ w, Calls Try.prog 10 #[.agg #[.int .i64 p0, .int .i64 p1, .int .i64 p2, .int .i64 p3, .string p4]] w fun e w' => e = .returned (.tuple #[.string S, .int .i64 0]) ∧ Below w.heap.size w w')) (HR0 : Hid (∀ w, Calls Try.prog 12 #[.string S] w fun e w' => e = .returned (.tuple #[.agg #[.int .i64 p0, .int .i64 p1, .int .i64 p2, .int .i64 p3, .string p4], .int .i64 0]) ∧ Below w.heap.size w w')) (hn : ¬ n = 0) (HR : Hid (∀ w, Calls Try.prog 12 #[.string s] w fun e w' => e = .returned (.tuple #[.agg #[.int .i64 0, .int .i64 0, .int .i64 0, .int .i64 0, .string ⟨#[]⟩], .int .i64 n]) ∧ Below w.heap.size w w')) :
    Calls Try.prog 5 #[.agg #[.int .i64 p0, .int .i64 p1, .int .i64 p2, .int .i64 p3, .string p4], .string s] w fun e w' => e = .returned (.bool true) ∧ Below w.heap.size w w' := by
  obtain ⟨W, hW⟩ : ∃ W, W = w.alloc (.cells #[.int .i64 p0, .int .i64 p1, .int .i64 p2, .int .i64 p3, .string p4] 23) := ⟨_, rfl⟩
  have k0 : Blk W w.heap.size 23 #[.int .i64 p0, .int .i64 p1, .int .i64 p2, .int .i64 p3, .string p4] := by rw [hW]; exact Blk.new w _ _
  have hb0 : Below w.heap.size w W := by rw [hW]; exact below_box w _
  have HW := Lib.hid hW
  clear hW
  go_enter Try.func5, Try.ntmps5
  go_wp2_with fail
  rw [← HW.out]
  refine (HW0.out _).mono ?_
  rintro e w1 ⟨rfl, hb1⟩
  have K1 := Lib.hid (k0.below hb1 k0.lt)
  have B1 := Lib.hid (hb0.trans (hb1.mono hb0.size))
  clear hb1 k0 hb0
  go_wp2_with fail
  refine (HR0.out _).mono ?_
  rintro e w2 ⟨rfl, hb2⟩
  obtain ⟨W2, hW2⟩ : ∃ W2, W2 = w2.alloc (.cells #[.int .i64 p0, .int .i64 p1, .int .i64 p2, .int .i64 p3, .string p4] 23) := ⟨_, rfl⟩
  obtain ⟨L2, hL2⟩ : ∃ L2, L2 = w2.heap.size := ⟨_, rfl⟩
  have j2 : Blk W2 L2 23 #[.int .i64 p0, .int .i64 p1, .int .i64 p2, .int .i64 p3, .string p4] := by rw [hW2, hL2]; exact Blk.new w2 _ _
  have k2 : Blk W2 w.heap.size 23 #[.int .i64 p0, .int .i64 p1, .int .i64 p2, .int .i64 p3, .string p4] := by rw [hW2]; exact (K1.out.below hb2 K1.out.lt).alloc _
  have hbb := B1.out.trans (hb2.mono B1.out.size)
  have B2 : Hid (Below w.heap.size w W2) := by show Below _ _ _; rw [hW2]; exact hbb.alloc hbb.size _
  obtain ⟨⟨a0, a1, a2, a3, a4⟩, _⟩ := cells5 j2
  obtain ⟨⟨b0, b1, b2, b3, b4⟩, _⟩ := cells5 k2
  have HW2 := Lib.hid hW2
  rw [hL2] at a0 a1 a2 a3 a4
  rw [hW2] at a0 a1 a2 a3 a4 b0 b1 b2 b3 b4
  clear hW2 hL2 hb2 hbb j2 k2
  go_wp2_with fail
  rw [← HW2.out]
  clear a0 a1 a2 a3 a4 b0 b1 b2 b3 b4
  refine (HR.out _).mono ?_
  rintro e w3 ⟨rfl, hb3⟩
  obtain ⟨W3, hW3⟩ : ∃ W3, W3 = w3.alloc (.cells #[.int .i64 0, .int .i64 0, .int .i64 0, .int .i64 0, .string ⟨#[]⟩] 23) := ⟨_, rfl⟩
  obtain ⟨L3, hL3⟩ : ∃ L3, L3 = w3.heap.size := ⟨_, rfl⟩
  have J3 : Hid (Blk W3 L3 23 #[.int .i64 0, .int .i64 0, .int .i64 0, .int .i64 0, .string ⟨#[]⟩]) := by show Blk _ _ _ _; rw [hW3, hL3]; exact Blk.new w3 _ _
  have hbb := B2.out.trans (hb3.mono B2.out.size)
  have B3 : Hid (Below w.heap.size w W3) := by show Below _ _ _; rw [hW3]; exact hbb.alloc hbb.size _
  have HW3 := Lib.hid hW3
  have HL3 := Lib.hid hL3
  clear hW3 hL3 hb3 hbb
  go_wp2_with fail
  rw [← HW3.out]
  refine (PG.awake_any _).mono ?_
  rintro e w4 ⟨rfl, hb4⟩
  obtain ⟨⟨c0, c1, c2, c3, c4⟩, _⟩ := cells5 (J3.out.below hb4 J3.out.lt)
  rw [HL3.out] at c0 c1 c2 c3 c4
  have HB := Lib.hid (B3.out.trans (hb4.mono B3.out.size))
  clear hb4
  go_wp2
  go_ret
  exact ⟨rfl, HB.out⟩

set_option maxHeartbeats 2000000 in
theorem back_oo (p0 p1 p2 p3 : Int) (p4 s : ByteArray) (S : ByteArray) (q0 q1 q2 q3 : Int) (q4 : ByteArray) (w : World) (l1 : ¬ (20000 : Int) < (p4.size : Int)) (l2 : ¬ (20000 : Int) < (s.size : Int)) (HW0 : Hid (∀ w, Calls Try.prog 10 #[.agg #[.int .i64 p0, .int .i64 p1, .int .i64 p2, .int .i64 p3, .string p4]] w fun e w' => e = .returned (.tuple #[.string S, .int .i64 0]) ∧ Below w.heap.size w w')) (HR0 : Hid (∀ w, Calls Try.prog 12 #[.string S] w fun e w' => e = .returned (.tuple #[.agg #[.int .i64 p0, .int .i64 p1, .int .i64 p2, .int .i64 p3, .string p4], .int .i64 0]) ∧ Below w.heap.size w w')) (HR : Hid (∀ w, Calls Try.prog 12 #[.string s] w fun e w' => e = .returned (.tuple #[.agg #[.int .i64 q0, .int .i64 q1, .int .i64 q2, .int .i64 q3, .string q4], .int .i64 0]) ∧ Below w.heap.size w w')) (HW9 : Hid (∀ w, Calls Try.prog 10 #[.agg #[.int .i64 q0, .int .i64 q1, .int .i64 q2, .int .i64 q3, .string q4]] w fun e w' => e = .returned (.tuple #[.string s, .int .i64 0]) ∧ Below w.heap.size w w')) :
    Calls Try.prog 5 #[.agg #[.int .i64 p0, .int .i64 p1, .int .i64 p2, .int .i64 p3, .string p4], .string s] w fun e w' => e = .returned (.bool true) ∧ Below w.heap.size w w' := by
  obtain ⟨W, hW⟩ : ∃ W, W = w.alloc (.cells #[.int .i64 p0, .int .i64 p1, .int .i64 p2, .int .i64 p3, .string p4] 23) := ⟨_, rfl⟩
  have k0 : Blk W w.heap.size 23 #[.int .i64 p0, .int .i64 p1, .int .i64 p2, .int .i64 p3, .string p4] := by rw [hW]; exact Blk.new w _ _
  have hb0 : Below w.heap.size w W := by rw [hW]; exact below_box w _
  have HW := Lib.hid hW
  clear hW
  go_enter Try.func5, Try.ntmps5
  go_wp2_with fail
  rw [← HW.out]
  refine (HW0.out _).mono ?_
  rintro e w1 ⟨rfl, hb1⟩
  have K1 := Lib.hid (k0.below hb1 k0.lt)
  have B1 := Lib.hid (hb0.trans (hb1.mono hb0.size))
  clear hb1 k0 hb0
  go_wp2_with fail
  refine (HR0.out _).mono ?_
  rintro e w2 ⟨rfl, hb2⟩
  obtain ⟨W2, hW2⟩ : ∃ W2, W2 = w2.alloc (.cells #[.int .i64 p0, .int .i64 p1, .int .i64 p2, .int .i64 p3, .string p4] 23) := ⟨_, rfl⟩
  obtain ⟨L2, hL2⟩ : ∃ L2, L2 = w2.heap.size := ⟨_, rfl⟩
  have j2 : Blk W2 L2 23 #[.int .i64 p0, .int .i64 p1, .int .i64 p2, .int .i64 p3, .string p4] := by rw [hW2, hL2]; exact Blk.new w2 _ _
  have k2 : Blk W2 w.heap.size 23 #[.int .i64 p0, .int .i64 p1, .int .i64 p2, .int .i64 p3, .string p4] := by rw [hW2]; exact (K1.out.below hb2 K1.out.lt).alloc _
  have hbb := B1.out.trans (hb2.mono B1.out.size)
  have B2 : Hid (Below w.heap.size w W2) := by show Below _ _ _; rw [hW2]; exact hbb.alloc hbb.size _
  obtain ⟨⟨a0, a1, a2, a3, a4⟩, _⟩ := cells5 j2
  obtain ⟨⟨b0, b1, b2, b3, b4⟩, _⟩ := cells5 k2
  have HW2 := Lib.hid hW2
  rw [hL2] at a0 a1 a2 a3 a4
  rw [hW2] at a0 a1 a2 a3 a4 b0 b1 b2 b3 b4
  clear hW2 hL2 hb2 hbb j2 k2
  go_wp2_with fail
  rw [← HW2.out]
  clear a0 a1 a2 a3 a4 b0 b1 b2 b3 b4
  refine (HR.out _).mono ?_
  rintro e w3 ⟨rfl, hb3⟩
  obtain ⟨W3, hW3⟩ : ∃ W3, W3 = w3.alloc (.cells #[.int .i64 q0, .int .i64 q1, .int .i64 q2, .int .i64 q3, .string q4] 23) := ⟨_, rfl⟩
  obtain ⟨L3, hL3⟩ : ∃ L3, L3 = w3.heap.size := ⟨_, rfl⟩
  have J3 : Hid (Blk W3 L3 23 #[.int .i64 q0, .int .i64 q1, .int .i64 q2, .int .i64 q3, .string q4]) := by show Blk _ _ _ _; rw [hW3, hL3]; exact Blk.new w3 _ _
  have hbb := B2.out.trans (hb3.mono B2.out.size)
  have B3 : Hid (Below w.heap.size w W3) := by show Below _ _ _; rw [hW3]; exact hbb.alloc hbb.size _
  have HW3 := Lib.hid hW3
  have HL3 := Lib.hid hL3
  clear hW3 hL3 hb3 hbb
  obtain ⟨⟨c0, c1, c2, c3, c4⟩, _⟩ := cells5 J3.out
  rw [HL3.out] at c0 c1 c2 c3 c4
  rw [HW3.out] at c0 c1 c2 c3 c4
  go_wp2_with fail
  rw [← HW3.out]
  clear c0 c1 c2 c3 c4
  refine (HW9.out _).mono ?_
  rintro e w4 ⟨rfl, hb4⟩
  have HB := Lib.hid (B3.out.trans (hb4.mono B3.out.size))
  clear hb4
  go_wp2_with fail
  refine (PG.awake_any _).mono ?_
  rintro e w5 ⟨rfl, hb5⟩
  have HB5 := Lib.hid (HB.out.trans (hb5.mono HB.out.size))
  clear hb5
  go_wp2
  go_ret
  exact ⟨rfl, HB5.out⟩

theorem back_long (p0 p1 p2 p3 : Int) (p4 s : ByteArray) (w : World) (hl : 20000 < p4.size ∨ 20000 < s.size) :
    Calls Try.prog 5 #[.agg #[.int .i64 p0, .int .i64 p1, .int .i64 p2, .int .i64 p3, .string p4], .string s] w fun e w' => e = .returned (.bool true) ∧ Below w.heap.size w w' := by
  by_cases h1 : (20000 : Int) < (p4.size : Int)
  · clear hl
    go_enter Try.func5, Try.ntmps5
    go_wp2_with fail
    refine (PG.awake_any _).mono ?_
    rintro e w1 ⟨rfl, hb1⟩
    have HB := Lib.hid ((below_box w _).trans (hb1.mono (below_box w _).size))
    clear hb1
    go_wp2
    go_ret
    exact ⟨rfl, HB.out⟩
  · have h2 : (20000 : Int) < (s.size : Int) := by omega
    clear hl
    go_enter Try.func5, Try.ntmps5
    go_wp2_with fail
    refine (PG.awake_any _).mono ?_
    rintro e w1 ⟨rfl, hb1⟩
    have HB := Lib.hid ((below_box w _).trans (hb1.mono (below_box w _).size))
    clear hb1
    go_wp2
    go_ret
    exact ⟨rfl, HB.out⟩

theorem walk (x0 : PG.Pg) (a1 : ByteArray) (w : World) (w0 : OP.PgWf x0) (w1 : a1.size ≤ 140737488351232) :
    Calls Try.prog 5 #[.agg #[.int .i64 x0.kind, .int .i64 x0.space, .int .i64 x0.key, .int .i64 x0.seq, .string x0.body], .string a1] w fun e w' => e = .returned (.bool true) ∧ Below w.heap.size w w' := by
  obtain ⟨p0, p1, p2, p3, p4⟩ := x0
  by_cases hl : 20000 < p4.size ∨ 20000 < a1.size
  · exact back_long p0 p1 p2 p3 p4 a1 w hl
  · have l1 : ¬ (20000 : Int) < (p4.size : Int) := by omega
    have l2 : ¬ (20000 : Int) < (a1.size : Int) := by omega
    obtain ⟨⟨q0, q1, q2, q3, q4⟩, n, ha⟩ := ans_some a1
    have HR := read_any ha (by omega)
    by_cases hm : May ⟨p0, p1, p2, p3, p4⟩
    · have HW0 := Lib.hid (write_yes ⟨p0, p1, p2, p3, p4⟩ hm)
      have HR0 := Lib.hid (read_any (ans_bytes hm) (by rw [str_size, bytes_len]; have := hm.2.2.2.2; omega))
      by_cases hn : n = 0
      · subst hn
        obtain ⟨hq, hqs⟩ := ans_page ha
        have HW9 := write_yes ⟨q0, q1, q2, q3, q4⟩ hq
        rw [hqs] at HW9
        exact back_oo p0 p1 p2 p3 p4 a1 _ q0 q1 q2 q3 q4 w l1 l2 HW0 HR0 (Lib.hid HR) (Lib.hid HW9)
      · have hz := ans_zero ha hn
        rw [hz] at HR
        exact back_oe p0 p1 p2 p3 p4 a1 _ n w l1 l2 HW0 HR0 hn (Lib.hid HR)
    · have HW0 := Lib.hid (write_no ⟨p0, p1, p2, p3, p4⟩ hm)
      by_cases hn : n = 0
      · subst hn
        obtain ⟨hq, hqs⟩ := ans_page ha
        have HW9 := write_yes ⟨q0, q1, q2, q3, q4⟩ hq
        rw [hqs] at HW9
        exact back_wo p0 p1 p2 p3 p4 a1 q0 q1 q2 q3 q4 w l1 l2 HW0 (Lib.hid HR) (Lib.hid HW9)
      · have hz := ans_zero ha hn
        rw [hz] at HR
        exact back_we p0 p1 p2 p3 p4 a1 n w l1 l2 HW0 hn (Lib.hid HR)

set_option maxRecDepth 100000 in
theorem lifted (os : Os) (started : os.Started) (H : Type) (enc : TypeId × Value → H) :
    ReturnsInHanded {} Try.checked os 5 .any (Rows.pageBackSpec.pre6 enc Try.prog Try.f5 Rows.pageBackRow.domain false) (Rows.pageBackSpec.post enc Try.prog Try.f5 false true false false) := by
  refine returnsInHanded_of_change_sized (C := Try.checked) own started (by kernel_rfl) Try.func5
    (ChangeSpec.witness6 (enc := enc) (C := Try.checked) false ⟨#[], #[.agg #[.int .i64 0, .int .i64 0, .int .i64 0, .int .i64 0, .string ByteArray.empty], .string ByteArray.empty], []⟩ 8 (by kernel_rfl) (by kernel_rfl) (by kernel_rfl) (by kernel_rfl)) ?_
  intro W base args ds gs before hval0 hW hcnd hsz0 _
  have hval : ∀ (j : Nat) t v, Try.f5.params[j]? = some t → args[j]? = some v → Value.okWide Try.prog W .any base t v := hval0
  have hW' := hW
  obtain ⟨p, q, hA0, hV, rfl, hfz, hnd⟩ := hW
  have hA : DataW.TrodAll enc Try.prog W 0 (fun _ => true) true Try.f5.params.toList args.toList ds p := hA0
  have hsz : (DataW.weightsEach Try.prog (Try.f5.params.toList ++ Rows.pageBackSpec.plain.varTypes Try.prog) (ds ++ gs)).all (· ≤ reachBytes) = true := hsz0
  rw [Try.params5] at hA hval hsz
  obtain ⟨v0, vs0, d0, ds0, p0, q0, hargs, rfl, rfl, h0, r0⟩ := trodAll_cons hA
  obtain ⟨v1, vs1, d1, ds1, p1, q1, rfl, rfl, rfl, h1, r1⟩ := trodAll_cons r0
  obtain ⟨rfl, rfl, rfl⟩ := trodAll_nil r1
  obtain rfl : args = #[v0, v1] := by cases args; simp_all
  obtain ⟨rfl, rfl⟩ := trodVars_none hV
  have k0 := h0
  have lt0 : ∀ x ∈ p0, x.block < W.heap.size := by obtain ⟨m, hm⟩ := k0; exact DataW.trod_lt m _ _ _ hm
  obtain ⟨x0, rfl, w0⟩ := OP.open_page (hval 0 23 v0 rfl rfl) h0
  obtain ⟨a1, rfl, rfl, rfl, m1⟩ := open_string Try.underlying9 (hval 1 9 v1 rfl rfl) h1
  have w1 : a1.size ≤ 140737488351232 := by have := sized_string hsz (j := 1) (t := 9) (bytes := a1.data.toList) rfl rfl; simpa [reachBytes] using this
  clear hA0 hval0 hsz0
  refine (walk x0 a1 W w0 w1).mono fun e W' ⟨he, bel⟩ => ?_
  subst he
  exact ⟨_, rfl, _, _, _, [], _, [], hW', trodAll_mk1 (shut_bool Try.underlying4 _), (trodAll_cons_mk (Below.trod laidOut (by kernel_rfl) (of_decide_eq_true (by kernel_rfl)) k0 bel lt0) (trodAll_cons_mk (shut_string Try.underlying9 m1) trodAll_mk0)), rfl, bel.frame _, fun h => by cases h⟩

theorem over : Rows.pageBackRow.holds Try.pinned (OpenSpec.ofChange Rows.pageBackSpec) :=
  OpenClaim.holds_of_wide 5 Try.f5 rfl rfl rfl rfl rfl rfl rfl ⟨rfl, rfl, rfl, rfl, rfl⟩ rfl rfl rfl rfl rfl (by kernel_rfl) Try.func5 (by kernel_rfl)
    (of_decide_eq_true (by kernel_rfl)) (by unfold Func.isWrapper; first | (rw [if_pos (by decide +kernel)]; kernel_rfl) | (rw [if_neg (by decide +kernel)]; exact ⟨rfl, rfl⟩))
    (fun os started H enc _ => lifted os started H enc)

theorem proved : Rows.PageBackSaid := over
#print axioms proved
end Go.Proofs.Ytolcacmkageidaa.pageBack
