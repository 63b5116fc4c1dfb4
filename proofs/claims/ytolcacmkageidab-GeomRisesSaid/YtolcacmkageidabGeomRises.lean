/- The law GeomRises holds: its Go text answers true for every input, and leaves its arguments as they were. No condition beyond the statement's own. -/
import Derived.Test.YtolcacmkageidabRows
import Derived.Test.YtolcacmkageidabGmRoom
import Derived.Test.YtolcacmkageidabAwake6
import Derived.Test.YtolcacmkageidabOpen5
import Derived.ProofKit
import Derived.OpenShut
import Derived.ShutString
import Derived.ChangeOld
import Derived.Below
import Derived.SizedLaws
namespace Go.Proofs.Ytolcacmkageidab.geomRises
open Go.ChangeShapes Go.WideShapes Go.ChangeAt Go.RowKit
open Go.ChangeMaps (open_string shut_string)
open Go.Proofs.Ytolcacmkageidab.FM
set_option linter.unusedVariables false
set_option linter.unusedSimpArgs false

theorem own : ownKnob Try.prog.godebug = none := by kernel_rfl
theorem laidOut : laidOutB Try.prog = true := by kernel_rfl

open GM MM

set_option maxHeartbeats 2000000 in
theorem rises_a (x0 y0 x1 y1 a b c d g a' b' c' d' g' f : Int) (w : World)
    (HP : Hid (∀ w, Calls Try.prog 11 #[.agg #[.int .i64 x0, .int .i64 y0]] w fun e w' => e = .returned (.tuple #[.agg #[.int .i64 a, .int .i64 b, .int .i64 c, .int .i64 d, .int .i64 g], .int .i64 1]) ∧ Below w.heap.size w w'))
    (HQ : Hid (∀ w, Calls Try.prog 11 #[.agg #[.int .i64 x1, .int .i64 y1]] w fun e w' => e = .returned (.tuple #[.agg #[.int .i64 a', .int .i64 b', .int .i64 c', .int .i64 d', .int .i64 g'], .int .i64 f]) ∧ Below w.heap.size w w')) :
    Calls Try.prog 8 #[.agg #[.int .i64 x0, .int .i64 y0], .agg #[.int .i64 x1, .int .i64 y1]] w fun e w' => e = .returned (.bool true) ∧ Below w.heap.size w w' := by
  obtain ⟨W, hW⟩ : ∃ W, W = (w.alloc (.cells #[.int .i64 x0, .int .i64 y0] 30)).alloc (.cells #[.int .i64 x1, .int .i64 y1] 30) := ⟨_, rfl⟩
  obtain ⟨k1, k2, hs, hb0⟩ := two_new w _ _ _ _ W hW
  have HW := Lib.hid hW
  clear hW hs
  go_enter Try.func8, Try.ntmps8
  go_wp2_with fail
  rw [← HW.out]
  refine (HP.out _).mono ?_
  rintro e w1 ⟨rfl, hb1⟩
  obtain ⟨W1, hW1⟩ : ∃ W1, W1 = w1.alloc (.cells #[.int .i64 a, .int .i64 b, .int .i64 c, .int .i64 d, .int .i64 g] 32) := ⟨_, rfl⟩
  obtain ⟨L1, hL1⟩ : ∃ L1, L1 = w1.heap.size := ⟨_, rfl⟩
  have q1 : PC W1 L1 a b c d g := by rw [hW1, hL1]; exact Blk.new w1 _ _
  have m1 : GC W1 w.heap.size x0 y0 := by rw [hW1]; exact Blk.alloc (k1.below hb1 k1.lt) _
  have m2 : GC W1 (w.heap.size + 1) x1 y1 := by rw [hW1]; exact Blk.alloc (k2.below hb1 k2.lt) _
  have hb2 : Below w.heap.size w W1 := by rw [hW1]; exact (hb0.trans (hb1.mono hb0.size)).alloc (hb0.trans (hb1.mono hb0.size)).size _
  have c0 := m2.c0
  have c1 := m2.c1
  have HB := Lib.hid hb2
  have Q1 := Lib.hid q1
  have M1 := Lib.hid m1
  have M2 := Lib.hid m2
  have HL1 := Lib.hid hL1
  have HW1 := Lib.hid hW1
  rw [hW1] at c0 c1
  clear hb1 hb2 k1 k2 m1 m2 q1 hb0 hW1 hL1
  go_wp2_with fail
  rw [← HW1.out]
  refine (HQ.out _).mono ?_
  rintro e w2 ⟨rfl, hb2⟩
  obtain ⟨W2, hW2⟩ : ∃ W2, W2 = w2.alloc (.cells #[.int .i64 a', .int .i64 b', .int .i64 c', .int .i64 d', .int .i64 g'] 32) := ⟨_, rfl⟩
  obtain ⟨L2, hL2⟩ : ∃ L2, L2 = w2.heap.size := ⟨_, rfl⟩
  have q2 : PC W2 L2 a' b' c' d' g' := by rw [hW2, hL2]; exact Blk.new w2 _ _
  have q1 : PC W2 L1 a b c d g := by rw [hW2]; exact Blk.alloc (Q1.out.keep hb2) _
  have m1 : GC W2 w.heap.size x0 y0 := by rw [hW2]; exact Blk.alloc (M1.out.keep hb2) _
  have m2 : GC W2 (w.heap.size + 1) x1 y1 := by rw [hW2]; exact Blk.alloc (M2.out.keep hb2) _
  have hb3 : Below w.heap.size w W2 := by rw [hW2]; exact (HB.out.trans (hb2.mono HB.out.size)).alloc (HB.out.trans (hb2.mono HB.out.size)).size _
  have d0 := m1.c0
  have d1 := m1.c1
  have d2 := m2.c0
  have d3 := m2.c1
  have HB2 := Lib.hid hb3
  have HQ1 := Lib.hid q1
  have HQ2 := Lib.hid q2
  have HL2 := Lib.hid hL2
  have HW2 := Lib.hid hW2
  rw [hW2] at d0 d1 d2 d3
  clear hb2 hb3 m1 m2 q1 q2 hW2 hL2 c0 c1 Q1 M1 M2 HB
  go_wp2_with fail
  rw [← HW2.out]
  refine (GM.awake_any _).mono ?_
  rintro e w3 ⟨rfl, hb3⟩
  have HB3 := Lib.hid (HB2.out.trans (hb3.mono HB2.out.size))
  clear hb3
  go_wp2
  go_ret
  exact ⟨rfl, HB3.out⟩

set_option maxHeartbeats 2000000 in
theorem rises_b (x0 y0 x1 y1 a b c d g a' b' c' d' g' : Int) (w : World)
    (HP : Hid (∀ w, Calls Try.prog 11 #[.agg #[.int .i64 x0, .int .i64 y0]] w fun e w' => e = .returned (.tuple #[.agg #[.int .i64 a, .int .i64 b, .int .i64 c, .int .i64 d, .int .i64 g], .int .i64 0]) ∧ Below w.heap.size w w'))
    (HQ : Hid (∀ w, Calls Try.prog 11 #[.agg #[.int .i64 x1, .int .i64 y1]] w fun e w' => e = .returned (.tuple #[.agg #[.int .i64 a', .int .i64 b', .int .i64 c', .int .i64 d', .int .i64 g'], .int .i64 1]) ∧ Below w.heap.size w w')) :
    Calls Try.prog 8 #[.agg #[.int .i64 x0, .int .i64 y0], .agg #[.int .i64 x1, .int .i64 y1]] w fun e w' => e = .returned (.bool true) ∧ Below w.heap.size w w' := by
  obtain ⟨W, hW⟩ : ∃ W, W = (w.alloc (.cells #[.int .i64 x0, .int .i64 y0] 30)).alloc (.cells #[.int .i64 x1, .int .i64 y1] 30) := ⟨_, rfl⟩
  obtain ⟨k1, k2, hs, hb0⟩ := two_new w _ _ _ _ W hW
  have HW := Lib.hid hW
  clear hW hs
  go_enter Try.func8, Try.ntmps8
  go_wp2_with fail
  rw [← HW.out]
  refine (HP.out _).mono ?_
  rintro e w1 ⟨rfl, hb1⟩
  obtain ⟨W1, hW1⟩ : ∃ W1, W1 = w1.alloc (.cells #[.int .i64 a, .int .i64 b, .int .i64 c, .int .i64 d, .int .i64 g] 32) := ⟨_, rfl⟩
  obtain ⟨L1, hL1⟩ : ∃ L1, L1 = w1.heap.size := ⟨_, rfl⟩
  have q1 : PC W1 L1 a b c d g := by rw [hW1, hL1]; exact Blk.new w1 _ _
  have m1 : GC W1 w.heap.size x0 y0 := by rw [hW1]; exact Blk.alloc (k1.below hb1 k1.lt) _
  have m2 : GC W1 (w.heap.size + 1) x1 y1 := by rw [hW1]; exact Blk.alloc (k2.below hb1 k2.lt) _
  have hb2 : Below w.heap.size w W1 := by rw [hW1]; exact (hb0.trans (hb1.mono hb0.size)).alloc (hb0.trans (hb1.mono hb0.size)).size _
  have c0 := m2.c0
  have c1 := m2.c1
  have HB := Lib.hid hb2
  have Q1 := Lib.hid q1
  have M1 := Lib.hid m1
  have M2 := Lib.hid m2
  have HL1 := Lib.hid hL1
  have HW1 := Lib.hid hW1
  rw [hW1] at c0 c1
  clear hb1 hb2 k1 k2 m1 m2 q1 hb0 hW1 hL1
  go_wp2_with fail
  rw [← HW1.out]
  refine (HQ.out _).mono ?_
  rintro e w2 ⟨rfl, hb2⟩
  obtain ⟨W2, hW2⟩ : ∃ W2, W2 = w2.alloc (.cells #[.int .i64 a', .int .i64 b', .int .i64 c', .int .i64 d', .int .i64 g'] 32) := ⟨_, rfl⟩
  obtain ⟨L2, hL2⟩ : ∃ L2, L2 = w2.heap.size := ⟨_, rfl⟩
  have q2 : PC W2 L2 a' b' c' d' g' := by rw [hW2, hL2]; exact Blk.new w2 _ _
  have q1 : PC W2 L1 a b c d g := by rw [hW2]; exact Blk.alloc (Q1.out.keep hb2) _
  have m1 : GC W2 w.heap.size x0 y0 := by rw [hW2]; exact Blk.alloc (M1.out.keep hb2) _
  have m2 : GC W2 (w.heap.size + 1) x1 y1 := by rw [hW2]; exact Blk.alloc (M2.out.keep hb2) _
  have hb3 : Below w.heap.size w W2 := by rw [hW2]; exact (HB.out.trans (hb2.mono HB.out.size)).alloc (HB.out.trans (hb2.mono HB.out.size)).size _
  have d0 := m1.c0
  have d1 := m1.c1
  have d2 := m2.c0
  have d3 := m2.c1
  have HB2 := Lib.hid hb3
  have HQ1 := Lib.hid q1
  have HQ2 := Lib.hid q2
  have HL2 := Lib.hid hL2
  have HW2 := Lib.hid hW2
  rw [hW2] at d0 d1 d2 d3
  clear hb2 hb3 m1 m2 q1 q2 hW2 hL2 c0 c1 Q1 M1 M2 HB
  go_wp2_with fail
  rw [← HW2.out]
  refine (GM.awake_any _).mono ?_
  rintro e w3 ⟨rfl, hb3⟩
  have HB3 := Lib.hid (HB2.out.trans (hb3.mono HB2.out.size))
  clear hb3
  go_wp2
  go_ret
  exact ⟨rfl, HB3.out⟩

set_option maxHeartbeats 2000000 in
theorem rises_c (x0 y0 x1 y1 a b c d g a' b' c' d' g' : Int) (w : World) (hx : x1 < x0)
    (HP : Hid (∀ w, Calls Try.prog 11 #[.agg #[.int .i64 x0, .int .i64 y0]] w fun e w' => e = .returned (.tuple #[.agg #[.int .i64 a, .int .i64 b, .int .i64 c, .int .i64 d, .int .i64 g], .int .i64 0]) ∧ Below w.heap.size w w'))
    (HQ : Hid (∀ w, Calls Try.prog 11 #[.agg #[.int .i64 x1, .int .i64 y1]] w fun e w' => e = .returned (.tuple #[.agg #[.int .i64 a', .int .i64 b', .int .i64 c', .int .i64 d', .int .i64 g'], .int .i64 0]) ∧ Below w.heap.size w w')) :
    Calls Try.prog 8 #[.agg #[.int .i64 x0, .int .i64 y0], .agg #[.int .i64 x1, .int .i64 y1]] w fun e w' => e = .returned (.bool true) ∧ Below w.heap.size w w' := by
  obtain ⟨W, hW⟩ : ∃ W, W = (w.alloc (.cells #[.int .i64 x0, .int .i64 y0] 30)).alloc (.cells #[.int .i64 x1, .int .i64 y1] 30) := ⟨_, rfl⟩
  obtain ⟨k1, k2, hs, hb0⟩ := two_new w _ _ _ _ W hW
  have HW := Lib.hid hW
  clear hW hs
  go_enter Try.func8, Try.ntmps8
  go_wp2_with fail
  rw [← HW.out]
  refine (HP.out _).mono ?_
  rintro e w1 ⟨rfl, hb1⟩
  obtain ⟨W1, hW1⟩ : ∃ W1, W1 = w1.alloc (.cells #[.int .i64 a, .int .i64 b, .int .i64 c, .int .i64 d, .int .i64 g] 32) := ⟨_, rfl⟩
  obtain ⟨L1, hL1⟩ : ∃ L1, L1 = w1.heap.size := ⟨_, rfl⟩
  have q1 : PC W1 L1 a b c d g := by rw [hW1, hL1]; exact Blk.new w1 _ _
  have m1 : GC W1 w.heap.size x0 y0 := by rw [hW1]; exact Blk.alloc (k1.below hb1 k1.lt) _
  have m2 : GC W1 (w.heap.size + 1) x1 y1 := by rw [hW1]; exact Blk.alloc (k2.below hb1 k2.lt) _
  have hb2 : Below w.heap.size w W1 := by rw [hW1]; exact (hb0.trans (hb1.mono hb0.size)).alloc (hb0.trans (hb1.mono hb0.size)).size _
  have c0 := m2.c0
  have c1 := m2.c1
  have HB := Lib.hid hb2
  have Q1 := Lib.hid q1
  have M1 := Lib.hid m1
  have M2 := Lib.hid m2
  have HL1 := Lib.hid hL1
  have HW1 := Lib.hid hW1
  rw [hW1] at c0 c1
  clear hb1 hb2 k1 k2 m1 m2 q1 hb0 hW1 hL1
  go_wp2_with fail
  rw [← HW1.out]
  refine (HQ.out _).mono ?_
  rintro e w2 ⟨rfl, hb2⟩
  obtain ⟨W2, hW2⟩ : ∃ W2, W2 = w2.alloc (.cells #[.int .i64 a', .int .i64 b', .int .i64 c', .int .i64 d', .int .i64 g'] 32) := ⟨_, rfl⟩
  obtain ⟨L2, hL2⟩ : ∃ L2, L2 = w2.heap.size := ⟨_, rfl⟩
  have q2 : PC W2 L2 a' b' c' d' g' := by rw [hW2, hL2]; exact Blk.new w2 _ _
  have q1 : PC W2 L1 a b c d g := by rw [hW2]; exact Blk.alloc (Q1.out.keep hb2) _
  have m1 : GC W2 w.heap.size x0 y0 := by rw [hW2]; exact Blk.alloc (M1.out.keep hb2) _
  have m2 : GC W2 (w.heap.size + 1) x1 y1 := by rw [hW2]; exact Blk.alloc (M2.out.keep hb2) _
  have hb3 : Below w.heap.size w W2 := by rw [hW2]; exact (HB.out.trans (hb2.mono HB.out.size)).alloc (HB.out.trans (hb2.mono HB.out.size)).size _
  have d0 := m1.c0
  have d1 := m1.c1
  have d2 := m2.c0
  have d3 := m2.c1
  have HB2 := Lib.hid hb3
  have HQ1 := Lib.hid q1
  have HQ2 := Lib.hid q2
  have HL2 := Lib.hid hL2
  have HW2 := Lib.hid hW2
  rw [hW2] at d0 d1 d2 d3
  clear hb2 hb3 m1 m2 q1 q2 hW2 hL2 c0 c1 Q1 M1 M2 HB
  go_wp2_with fail
  rw [← HW2.out]
  refine (GM.awake_any _).mono ?_
  rintro e w3 ⟨rfl, hb3⟩
  have HB3 := Lib.hid (HB2.out.trans (hb3.mono HB2.out.size))
  clear hb3
  go_wp2
  go_ret
  exact ⟨rfl, HB3.out⟩

set_option maxHeartbeats 2000000 in
theorem rises_d (x0 y0 x1 y1 a b c d g a' b' c' d' g' : Int) (w : World) (hx : ¬ x1 < x0) (hy : y1 < y0)
    (HP : Hid (∀ w, Calls Try.prog 11 #[.agg #[.int .i64 x0, .int .i64 y0]] w fun e w' => e = .returned (.tuple #[.agg #[.int .i64 a, .int .i64 b, .int .i64 c, .int .i64 d, .int .i64 g], .int .i64 0]) ∧ Below w.heap.size w w'))
    (HQ : Hid (∀ w, Calls Try.prog 11 #[.agg #[.int .i64 x1, .int .i64 y1]] w fun e w' => e = .returned (.tuple #[.agg #[.int .i64 a', .int .i64 b', .int .i64 c', .int .i64 d', .int .i64 g'], .int .i64 0]) ∧ Below w.heap.size w w')) :
    Calls Try.prog 8 #[.agg #[.int .i64 x0, .int .i64 y0], .agg #[.int .i64 x1, .int .i64 y1]] w fun e w' => e = .returned (.bool true) ∧ Below w.heap.size w w' := by
  obtain ⟨W, hW⟩ : ∃ W, W = (w.alloc (.cells #[.int .i64 x0, .int .i64 y0] 30)).alloc (.cells #[.int .i64 x1, .int .i64 y1] 30) := ⟨_, rfl⟩
  obtain ⟨k1, k2, hs, hb0⟩ := two_new w _ _ _ _ W hW
  have HW := Lib.hid hW
  clear hW hs
  go_enter Try.func8, Try.ntmps8
  go_wp2_with fail
  rw [← HW.out]
  refine (HP.out _).mono ?_
  rintro e w1 ⟨rfl, hb1⟩
  obtain ⟨W1, hW1⟩ : ∃ W1, W1 = w1.alloc (.cells #[.int .i64 a, .int .i64 b, .int .i64 c, .int .i64 d, .int .i64 g] 32) := ⟨_, rfl⟩
  obtain ⟨L1, hL1⟩ : ∃ L1, L1 = w1.heap.size := ⟨_, rfl⟩
  have q1 : PC W1 L1 a b c d g := by rw [hW1, hL1]; exact Blk.new w1 _ _
  have m1 : GC W1 w.heap.size x0 y0 := by rw [hW1]; exact Blk.alloc (k1.below hb1 k1.lt) _
  have m2 : GC W1 (w.heap.size + 1) x1 y1 := by rw [hW1]; exact Blk.alloc (k2.below hb1 k2.lt) _
  have hb2 : Below w.heap.size w W1 := by rw [hW1]; exact (hb0.trans (hb1.mono hb0.size)).alloc (hb0.trans (hb1.mono hb0.size)).size _
  have c0 := m2.c0
  have c1 := m2.c1
  have HB := Lib.hid hb2
  have Q1 := Lib.hid q1
  have M1 := Lib.hid m1
  have M2 := Lib.hid m2
  have HL1 := Lib.hid hL1
  have HW1 := Lib.hid hW1
  rw [hW1] at c0 c1
  clear hb1 hb2 k1 k2 m1 m2 q1 hb0 hW1 hL1
  go_wp2_with fail
  rw [← HW1.out]
  refine (HQ.out _).mono ?_
  rintro e w2 ⟨rfl, hb2⟩
  obtain ⟨W2, hW2⟩ : ∃ W2, W2 = w2.alloc (.cells #[.int .i64 a', .int .i64 b', .int .i64 c', .int .i64 d', .int .i64 g'] 32) := ⟨_, rfl⟩
  obtain ⟨L2, hL2⟩ : ∃ L2, L2 = w2.heap.size := ⟨_, rfl⟩
  have q2 : PC W2 L2 a' b' c' d' g' := by rw [hW2, hL2]; exact Blk.new w2 _ _
  have q1 : PC W2 L1 a b c d g := by rw [hW2]; exact Blk.alloc (Q1.out.keep hb2) _
  have m1 : GC W2 w.heap.size x0 y0 := by rw [hW2]; exact Blk.alloc (M1.out.keep hb2) _
  have m2 : GC W2 (w.heap.size + 1) x1 y1 := by rw [hW2]; exact Blk.alloc (M2.out.keep hb2) _
  have hb3 : Below w.heap.size w W2 := by rw [hW2]; exact (HB.out.trans (hb2.mono HB.out.size)).alloc (HB.out.trans (hb2.mono HB.out.size)).size _
  have d0 := m1.c0
  have d1 := m1.c1
  have d2 := m2.c0
  have d3 := m2.c1
  have HB2 := Lib.hid hb3
  have HQ1 := Lib.hid q1
  have HQ2 := Lib.hid q2
  have HL2 := Lib.hid hL2
  have HW2 := Lib.hid hW2
  rw [hW2] at d0 d1 d2 d3
  clear hb2 hb3 m1 m2 q1 q2 hW2 hL2 c0 c1 Q1 M1 M2 HB
  go_wp2_with fail
  rw [← HW2.out]
  refine (GM.awake_any _).mono ?_
  rintro e w3 ⟨rfl, hb3⟩
  have HB3 := Lib.hid (HB2.out.trans (hb3.mono HB2.out.size))
  clear hb3
  go_wp2
  go_ret
  exact ⟨rfl, HB3.out⟩

set_option maxHeartbeats 2000000 in
theorem rises_e (x0 y0 x1 y1 a b c d g a' b' c' d' g' : Int) (w : World) (hx : ¬ x1 < x0) (hy : ¬ y1 < y0) (ha : a ≤ a') (hb : b ≤ b') (hc : c ≤ c')
    (HP : Hid (∀ w, Calls Try.prog 11 #[.agg #[.int .i64 x0, .int .i64 y0]] w fun e w' => e = .returned (.tuple #[.agg #[.int .i64 a, .int .i64 b, .int .i64 c, .int .i64 d, .int .i64 g], .int .i64 0]) ∧ Below w.heap.size w w'))
    (HQ : Hid (∀ w, Calls Try.prog 11 #[.agg #[.int .i64 x1, .int .i64 y1]] w fun e w' => e = .returned (.tuple #[.agg #[.int .i64 a', .int .i64 b', .int .i64 c', .int .i64 d', .int .i64 g'], .int .i64 0]) ∧ Below w.heap.size w w')) :
    Calls Try.prog 8 #[.agg #[.int .i64 x0, .int .i64 y0], .agg #[.int .i64 x1, .int .i64 y1]] w fun e w' => e = .returned (.bool true) ∧ Below w.heap.size w w' := by
  obtain ⟨W, hW⟩ : ∃ W, W = (w.alloc (.cells #[.int .i64 x0, .int .i64 y0] 30)).alloc (.cells #[.int .i64 x1, .int .i64 y1] 30) := ⟨_, rfl⟩
  obtain ⟨k1, k2, hs, hb0⟩ := two_new w _ _ _ _ W hW
  have HW := Lib.hid hW
  clear hW hs
  go_enter Try.func8, Try.ntmps8
  go_wp2_with fail
  rw [← HW.out]
  refine (HP.out _).mono ?_
  rintro e w1 ⟨rfl, hb1⟩
  obtain ⟨W1, hW1⟩ : ∃ W1, W1 = w1.alloc (.cells #[.int .i64 a, .int .i64 b, .int .i64 c, .int .i64 d, .int .i64 g] 32) := ⟨_, rfl⟩
  obtain ⟨L1, hL1⟩ : ∃ L1, L1 = w1.heap.size := ⟨_, rfl⟩
  have q1 : PC W1 L1 a b c d g := by rw [hW1, hL1]; exact Blk.new w1 _ _
  have m1 : GC W1 w.heap.size x0 y0 := by rw [hW1]; exact Blk.alloc (k1.below hb1 k1.lt) _
  have m2 : GC W1 (w.heap.size + 1) x1 y1 := by rw [hW1]; exact Blk.alloc (k2.below hb1 k2.lt) _
  have hb2 : Below w.heap.size w W1 := by rw [hW1]; exact (hb0.trans (hb1.mono hb0.size)).alloc (hb0.trans (hb1.mono hb0.size)).size _
  have c0 := m2.c0
  have c1 := m2.c1
  have HB := Lib.hid hb2
  have Q1 := Lib.hid q1
  have M1 := Lib.hid m1
  have M2 := Lib.hid m2
  have HL1 := Lib.hid hL1
  have HW1 := Lib.hid hW1
  rw [hW1] at c0 c1
  clear hb1 hb2 k1 k2 m1 m2 q1 hb0 hW1 hL1
  go_wp2_with fail
  rw [← HW1.out]
  refine (HQ.out _).mono ?_
  rintro e w2 ⟨rfl, hb2⟩
  obtain ⟨W2, hW2⟩ : ∃ W2, W2 = w2.alloc (.cells #[.int .i64 a', .int .i64 b', .int .i64 c', .int .i64 d', .int .i64 g'] 32) := ⟨_, rfl⟩
  obtain ⟨L2, hL2⟩ : ∃ L2, L2 = w2.heap.size := ⟨_, rfl⟩
  have q2 : PC W2 L2 a' b' c' d' g' := by rw [hW2, hL2]; exact Blk.new w2 _ _
  have q1 : PC W2 L1 a b c d g := by rw [hW2]; exact Blk.alloc (Q1.out.keep hb2) _
  have m1 : GC W2 w.heap.size x0 y0 := by rw [hW2]; exact Blk.alloc (M1.out.keep hb2) _
  have m2 : GC W2 (w.heap.size + 1) x1 y1 := by rw [hW2]; exact Blk.alloc (M2.out.keep hb2) _
  have hb3 : Below w.heap.size w W2 := by rw [hW2]; exact (HB.out.trans (hb2.mono HB.out.size)).alloc (HB.out.trans (hb2.mono HB.out.size)).size _
  have d0 := m1.c0
  have d1 := m1.c1
  have d2 := m2.c0
  have d3 := m2.c1
  have HB2 := Lib.hid hb3
  have HQ1 := Lib.hid q1
  have HQ2 := Lib.hid q2
  have HL2 := Lib.hid hL2
  have HW2 := Lib.hid hW2
  rw [hW2] at d0 d1 d2 d3
  clear hb2 hb3 m1 m2 q1 q2 hW2 hL2 c0 c1 Q1 M1 M2 HB
  go_wp2_with fail
  rw [← HW2.out]
  refine (GM.awake_any _).mono ?_
  rintro e w3 ⟨rfl, hb3⟩
  obtain ⟨p0, p1, p2, _, _⟩ := (HQ1.out.keep hb3).cs
  obtain ⟨r0, r1, r2, _, _⟩ := (HQ2.out.keep hb3).cs
  have HB3 := Lib.hid (HB2.out.trans (hb3.mono HB2.out.size))
  rw [HL1.out] at p0 p1 p2
  rw [HL2.out] at r0 r1 r2
  clear hb3
  go_wp2
  go_ret
  exact ⟨rfl, HB3.out⟩

/-- What Plan answers, whatever the geometry. -/
theorem plan_some (x y : Int) : ∃ a b c d g e : Int, Hid (∀ w, Calls Try.prog 11 #[.agg #[.int .i64 x, .int .i64 y]] w fun e' w' => e' = .returned (.tuple #[.agg #[.int .i64 a, .int .i64 b, .int .i64 c, .int .i64 d, .int .i64 g], .int .i64 e]) ∧ Below w.heap.size w w') := by
  by_cases h : Geo x y
  · obtain ⟨m, n, rfl, rfl, h'⟩ := h.nat
    exact ⟨_, _, _, _, _, _, Lib.hid (plan_yes m n h')⟩
  · exact ⟨_, _, _, _, _, _, Lib.hid (plan_no x y h)⟩

theorem walk (x0 y0 : Int) (x1 y1 : Int) (w : World) (wx0 : (Lit.int .i64 x0).wf = true) (wy0 : (Lit.int .i64 y0).wf = true) (wx1 : (Lit.int .i64 x1).wf = true) (wy1 : (Lit.int .i64 y1).wf = true) :
    Calls Try.prog 8 #[.agg #[.int .i64 x0, .int .i64 y0], .agg #[.int .i64 x1, .int .i64 y1]] w fun e w' => e = .returned (.bool true) ∧ Below w.heap.size w w' := by
  by_cases h0 : Geo x0 y0
  · by_cases h1 : Geo x1 y1
    · obtain ⟨m, n, rfl, rfl, h0'⟩ := h0.nat
      obtain ⟨k, l, rfl, rfl, h1'⟩ := h1.nat
      by_cases hx : (k : Int) < (m : Int)
      · exact rises_c _ _ _ _ _ _ _ _ _ _ _ _ _ _ w hx (Lib.hid (plan_yes m n h0')) (Lib.hid (plan_yes k l h1'))
      · by_cases hy : (l : Int) < (n : Int)
        · exact rises_d _ _ _ _ _ _ _ _ _ _ _ _ _ _ w hx hy (Lib.hid (plan_yes m n h0')) (Lib.hid (plan_yes k l h1'))
        · have h2 : m ≤ k := by omega
          have h3 : n ≤ l := by omega
          refine rises_e _ _ _ _ _ _ _ _ _ _ _ _ _ _ w hx hy ?_ ?_ ?_ (Lib.hid (plan_yes m n h0')) (Lib.hid (plan_yes k l h1'))
          · exact Int.ofNat_le.2 (Nat.mul_le_mul h2 h3)
          · exact Int.ofNat_le.2 (Nat.div_le_div_right h2)
          · exact Int.ofNat_le.2 (cap_mono h2 h3)
    · obtain ⟨m, n, rfl, rfl, h0'⟩ := h0.nat
      exact rises_b _ _ _ _ _ _ _ _ _ _ _ _ _ _ w (Lib.hid (plan_yes m n h0')) (Lib.hid (plan_no x1 y1 h1))
  · obtain ⟨a', b', c', d', g', f, HQ⟩ := plan_some x1 y1
    exact rises_a _ _ _ _ _ _ _ _ _ a' b' c' d' g' f w (Lib.hid (plan_no x0 y0 h0)) HQ

set_option maxRecDepth 100000 in
theorem lifted (os : Os) (started : os.Started) (H : Type) (enc : TypeId × Value → H) :
    ReturnsInHanded {} Try.checked os 8 .any (Rows.geomRisesSpec.pre6 enc Try.prog Try.f8 Rows.geomRisesRow.domain false) (Rows.geomRisesSpec.post enc Try.prog Try.f8 false true false false) := by
  refine returnsInHanded_of_change_sized (C := Try.checked) own started (by kernel_rfl) Try.func8
    (ChangeSpec.witness6 (enc := enc) (C := Try.checked) false ⟨#[], #[.agg #[.int .i64 0, .int .i64 0], .agg #[.int .i64 0, .int .i64 0]], []⟩ 8 (by kernel_rfl) (by kernel_rfl) (by kernel_rfl) (by kernel_rfl)) ?_
  intro W base args ds gs before hval0 hW hcnd hsz0 _
  have hval : ∀ (j : Nat) t v, Try.f8.params[j]? = some t → args[j]? = some v → Value.okWide Try.prog W .any base t v := hval0
  have hW' := hW
  obtain ⟨p, q, hA0, hV, rfl, hfz, hnd⟩ := hW
  have hA : DataW.TrodAll enc Try.prog W 0 (fun _ => true) true Try.f8.params.toList args.toList ds p := hA0
  have hsz : (DataW.weightsEach Try.prog (Try.f8.params.toList ++ Rows.geomRisesSpec.plain.varTypes Try.prog) (ds ++ gs)).all (· ≤ reachBytes) = true := hsz0
  rw [Try.params8] at hA hval hsz
  obtain ⟨v0, vs0, d0, ds0, p0, q0, hargs, rfl, rfl, h0, r0⟩ := trodAll_cons hA
  obtain ⟨v1, vs1, d1, ds1, p1, q1, rfl, rfl, rfl, h1, r1⟩ := trodAll_cons r0
  obtain ⟨rfl, rfl, rfl⟩ := trodAll_nil r1
  obtain rfl : args = #[v0, v1] := by cases args; simp_all
  obtain ⟨rfl, rfl⟩ := trodVars_none hV
  have k0 := h0
  have lt0 : ∀ x ∈ p0, x.block < W.heap.size := by obtain ⟨m, hm⟩ := k0; exact DataW.trod_lt m _ _ _ hm
  obtain ⟨x0, y0, rfl, wx0, wy0⟩ := OP.open_geo (hval 0 30 v0 rfl rfl) h0
  have k1 := h1
  have lt1 : ∀ x ∈ p1, x.block < W.heap.size := by obtain ⟨m, hm⟩ := k1; exact DataW.trod_lt m _ _ _ hm
  obtain ⟨x1, y1, rfl, wx1, wy1⟩ := OP.open_geo (hval 1 30 v1 rfl rfl) h1
  clear hA0 hval0 hsz0
  refine (walk x0 y0 x1 y1 W wx0 wy0 wx1 wy1).mono fun e W' ⟨he, bel⟩ => ?_
  subst he
  exact ⟨_, rfl, _, _, _, [], _, [], hW', trodAll_mk1 (shut_bool Try.underlying4 _), (trodAll_cons_mk (Below.trod laidOut (by kernel_rfl) (of_decide_eq_true (by kernel_rfl)) k0 bel lt0) (trodAll_cons_mk (Below.trod laidOut (by kernel_rfl) (of_decide_eq_true (by kernel_rfl)) k1 bel lt1) trodAll_mk0)), rfl, bel.frame _, fun h => by cases h⟩

theorem over : Rows.geomRisesRow.holds Try.pinned (OpenSpec.ofChange Rows.geomRisesSpec) :=
  OpenClaim.holds_of_wide 8 Try.f8 rfl rfl rfl rfl rfl rfl rfl ⟨rfl, rfl, rfl, rfl, rfl⟩ rfl rfl rfl rfl rfl (by kernel_rfl) Try.func8 (by kernel_rfl)
    (of_decide_eq_true (by kernel_rfl)) (by unfold Func.isWrapper; first | (rw [if_pos (by decide +kernel)]; kernel_rfl) | (rw [if_neg (by decide +kernel)]; exact ⟨rfl, rfl⟩))
    (fun os started H enc _ => lifted os started H enc)

theorem proved : Rows.GeomRisesSaid := over
#print axioms proved
end Go.Proofs.Ytolcacmkageidab.geomRises
