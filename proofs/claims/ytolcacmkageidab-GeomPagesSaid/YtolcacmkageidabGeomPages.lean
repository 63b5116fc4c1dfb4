/- The law GeomPages holds: its Go text answers true for every input, and leaves its arguments as they were. No condition beyond the statement's own. -/
import Derived.Test.YtolcacmkageidabRows
import Derived.Test.YtolcacmkageidabGmRoom
import Derived.Test.YtolcacmkageidabGmR
import Derived.Test.YtolcacmkageidabAwake6
import Derived.Test.YtolcacmkageidabOpen5
import Derived.ProofKit
import Derived.OpenShut
import Derived.ShutString
import Derived.ChangeOld
import Derived.Below
import Derived.SizedLaws
namespace Go.Proofs.Ytolcacmkageidab.geomPages
open Go.ChangeShapes Go.WideShapes Go.ChangeAt Go.RowKit
open Go.ChangeMaps (open_string shut_string)
open Go.Proofs.Ytolcacmkageidab.FM
set_option linter.unusedVariables false
set_option linter.unusedSimpArgs false

theorem own : ownKnob Try.prog.godebug = none := by kernel_rfl
theorem laidOut : laidOutB Try.prog = true := by kernel_rfl

open GM MM

theorem keepP (w : World) (x y : Int) {w1 w2 : World} (h : w1.cell? ⟨w.heap.size, 0, none⟩ = some (.int .i64 x) ∧ w1.cell? ⟨w.heap.size, 1, none⟩ = some (.int .i64 y) ∧ w.heap.size < w1.heap.size ∧ Below w.heap.size w w1) (hb : Below w1.heap.size w1 w2) :
    w2.cell? ⟨w.heap.size, 0, none⟩ = some (.int .i64 x) ∧ w2.cell? ⟨w.heap.size, 1, none⟩ = some (.int .i64 y) ∧ w.heap.size < w2.heap.size ∧ Below w.heap.size w w2 := by
  obtain ⟨c0, c1, l1, h⟩ := h
  exact ⟨(hb.cell (p := ⟨w.heap.size, 0, none⟩) l1).trans c0, (hb.cell (p := ⟨w.heap.size, 1, none⟩) l1).trans c1, Nat.lt_of_lt_of_le l1 hb.size, h.trans (hb.mono h.size)⟩

set_option maxHeartbeats 2000000 in
theorem pages_no (x0 y0 a1 a2 : Int) (w : World) (HBL : Hid (∀ w, Calls Try.prog 18 #[.agg #[.int .i64 x0, .int .i64 y0], .int .i64 a1] w fun e w' => e = .returned (.int .i64 (-1)) ∧ Below w.heap.size w w')) (HFI : Hid (∀ w, Calls Try.prog 19 #[.agg #[.int .i64 x0, .int .i64 y0], .int .i64 a2] w fun e w' => e = .returned (.int .i64 (-1)) ∧ Below w.heap.size w w')) (HM : Hid (∀ w, Calls Try.prog 12 #[.int .i64 x0, .int .i64 y0] w fun e w' => e = .returned (.bool false) ∧ w = w')) :
    Calls Try.prog 5 #[.agg #[.int .i64 x0, .int .i64 y0], .int .i64 a1, .int .i64 a2] w fun e w' => e = .returned (.bool true) ∧ Below w.heap.size w w' := by
  obtain ⟨W, hW⟩ : ∃ W, W = w.alloc (.cells #[.int .i64 x0, .int .i64 y0] 30) := ⟨_, rfl⟩
  have k1 : GC W w.heap.size x0 y0 := by rw [hW]; exact Blk.new w _ _
  have HS : Hid (W.drew.cell? ⟨w.heap.size, 0, none⟩ = some (.int .i64 x0) ∧ W.drew.cell? ⟨w.heap.size, 1, none⟩ = some (.int .i64 y0) ∧ w.heap.size < W.drew.heap.size ∧ Below w.heap.size w W.drew) := Lib.hid ⟨k1.c0, k1.c1, Blk.lt k1, by rw [hW]; exact (below_box w _).drew⟩
  have c0 := k1.c0
  have c1 := k1.c1
  have HW := Lib.hid hW
  clear hW k1
  go_enter Try.func5, Try.ntmps5
  go_wp2
  rw [← HW.out]
  go_region_held3 (fun w' => w'.cell? ⟨w.heap.size, 0, none⟩ = some (.int .i64 x0) ∧ w'.cell? ⟨w.heap.size, 1, none⟩ = some (.int .i64 y0) ∧ w.heap.size < w'.heap.size ∧ Below w.heap.size w w') (first | with_reducible exact HS.out | assumption) (first
    | (go_at_call 18; refine (HBL.out _).mono ?_; rintro e w5 ⟨rfl, hb5⟩; have hS5 := keepP w x0 y0 (by assumption) hb5)
    | (go_at_call 19; refine (HFI.out _).mono ?_; rintro e w5 ⟨rfl, hb5⟩; have hS5 := keepP w x0 y0 (by assumption) hb5))
  all_goals
    obtain ⟨d0, d1, dl, db⟩ := hS5
    have HSS := Lib.hid (show w5.cell? ⟨w.heap.size, 0, none⟩ = some (.int .i64 x0) ∧ w5.cell? ⟨w.heap.size, 1, none⟩ = some (.int .i64 y0) ∧ w.heap.size < w5.heap.size ∧ Below w.heap.size w w5 from ⟨d0, d1, dl, db⟩)
    clear dl db c0 c1
    go_wp2_with fail
    refine (HM.out _).mono ?_
    rintro e w6 ⟨rfl, rfl⟩
    go_wp2_with fail
    refine (GM.awake_any _).mono ?_
    rintro e w7 ⟨rfl, hb7⟩
    obtain ⟨g0, g1, gl, gb⟩ := keepP w x0 y0 HSS.out hb7
    have HB7 := Lib.hid gb
    clear hb7 d0 d1 gb gl
    go_wp2
    go_ret
    exact ⟨rfl, HB7.out⟩

set_option maxHeartbeats 2000000 in
theorem pages_lo_a (x0 y0 a1 a2 MN : Int) (w : World) (hm : IntKind.i64.wrap (x0 * y0) = MN) (h0 : a1 < 0) (k0 : a2 < 0) (HBL : Hid (∀ w, Calls Try.prog 18 #[.agg #[.int .i64 x0, .int .i64 y0], .int .i64 a1] w fun e w' => e = .returned (.int .i64 (-1)) ∧ Below w.heap.size w w')) (HFI : Hid (∀ w, Calls Try.prog 19 #[.agg #[.int .i64 x0, .int .i64 y0], .int .i64 a2] w fun e w' => e = .returned (.int .i64 (-1)) ∧ Below w.heap.size w w')) (HM : Hid (∀ w, Calls Try.prog 12 #[.int .i64 x0, .int .i64 y0] w fun e w' => e = .returned (.bool true) ∧ w = w')) :
    Calls Try.prog 5 #[.agg #[.int .i64 x0, .int .i64 y0], .int .i64 a1, .int .i64 a2] w fun e w' => e = .returned (.bool true) ∧ Below w.heap.size w w' := by
  obtain ⟨W, hW⟩ : ∃ W, W = w.alloc (.cells #[.int .i64 x0, .int .i64 y0] 30) := ⟨_, rfl⟩
  have k1 : GC W w.heap.size x0 y0 := by rw [hW]; exact Blk.new w _ _
  have HS : Hid (W.drew.cell? ⟨w.heap.size, 0, none⟩ = some (.int .i64 x0) ∧ W.drew.cell? ⟨w.heap.size, 1, none⟩ = some (.int .i64 y0) ∧ w.heap.size < W.drew.heap.size ∧ Below w.heap.size w W.drew) := Lib.hid ⟨k1.c0, k1.c1, Blk.lt k1, by rw [hW]; exact (below_box w _).drew⟩
  have c0 := k1.c0
  have c1 := k1.c1
  have HW := Lib.hid hW
  clear hW k1
  go_enter Try.func5, Try.ntmps5
  go_wp2
  rw [← HW.out]
  go_region_held3 (fun w' => w'.cell? ⟨w.heap.size, 0, none⟩ = some (.int .i64 x0) ∧ w'.cell? ⟨w.heap.size, 1, none⟩ = some (.int .i64 y0) ∧ w.heap.size < w'.heap.size ∧ Below w.heap.size w w') (first | with_reducible exact HS.out | assumption) (first
    | (go_at_call 18; refine (HBL.out _).mono ?_; rintro e w5 ⟨rfl, hb5⟩; have hS5 := keepP w x0 y0 (by assumption) hb5)
    | (go_at_call 19; refine (HFI.out _).mono ?_; rintro e w5 ⟨rfl, hb5⟩; have hS5 := keepP w x0 y0 (by assumption) hb5))
  all_goals
    obtain ⟨d0, d1, dl, db⟩ := hS5
    have HSS := Lib.hid (show w5.cell? ⟨w.heap.size, 0, none⟩ = some (.int .i64 x0) ∧ w5.cell? ⟨w.heap.size, 1, none⟩ = some (.int .i64 y0) ∧ w.heap.size < w5.heap.size ∧ Below w.heap.size w w5 from ⟨d0, d1, dl, db⟩)
    clear dl db c0 c1
    go_wp2_with fail
    refine (HM.out _).mono ?_
    rintro e w6 ⟨rfl, rfl⟩
    go_wp2_with fail
    refine (GM.awake_any _).mono ?_
    rintro e w7 ⟨rfl, hb7⟩
    obtain ⟨g0, g1, gl, gb⟩ := keepP w x0 y0 HSS.out hb7
    have HB7 := Lib.hid gb
    clear hb7 d0 d1 gb gl
    go_wp2
    go_ret
    exact ⟨rfl, HB7.out⟩

set_option maxHeartbeats 2000000 in
theorem pages_lo_b (x0 y0 a1 a2 MN : Int) (w : World) (hm : IntKind.i64.wrap (x0 * y0) = MN) (h0 : a1 < 0) (k0 : ¬ a2 < 0) (k1 : x0 ≤ a2) (HBL : Hid (∀ w, Calls Try.prog 18 #[.agg #[.int .i64 x0, .int .i64 y0], .int .i64 a1] w fun e w' => e = .returned (.int .i64 (-1)) ∧ Below w.heap.size w w')) (HFI : Hid (∀ w, Calls Try.prog 19 #[.agg #[.int .i64 x0, .int .i64 y0], .int .i64 a2] w fun e w' => e = .returned (.int .i64 (-1)) ∧ Below w.heap.size w w')) (HM : Hid (∀ w, Calls Try.prog 12 #[.int .i64 x0, .int .i64 y0] w fun e w' => e = .returned (.bool true) ∧ w = w')) :
    Calls Try.prog 5 #[.agg #[.int .i64 x0, .int .i64 y0], .int .i64 a1, .int .i64 a2] w fun e w' => e = .returned (.bool true) ∧ Below w.heap.size w w' := by
  obtain ⟨W, hW⟩ : ∃ W, W = w.alloc (.cells #[.int .i64 x0, .int .i64 y0] 30) := ⟨_, rfl⟩
  have k1 : GC W w.heap.size x0 y0 := by rw [hW]; exact Blk.new w _ _
  have HS : Hid (W.drew.cell? ⟨w.heap.size, 0, none⟩ = some (.int .i64 x0) ∧ W.drew.cell? ⟨w.heap.size, 1, none⟩ = some (.int .i64 y0) ∧ w.heap.size < W.drew.heap.size ∧ Below w.heap.size w W.drew) := Lib.hid ⟨k1.c0, k1.c1, Blk.lt k1, by rw [hW]; exact (below_box w _).drew⟩
  have c0 := k1.c0
  have c1 := k1.c1
  have HW := Lib.hid hW
  clear hW k1
  go_enter Try.func5, Try.ntmps5
  go_wp2
  rw [← HW.out]
  go_region_held3 (fun w' => w'.cell? ⟨w.heap.size, 0, none⟩ = some (.int .i64 x0) ∧ w'.cell? ⟨w.heap.size, 1, none⟩ = some (.int .i64 y0) ∧ w.heap.size < w'.heap.size ∧ Below w.heap.size w w') (first | with_reducible exact HS.out | assumption) (first
    | (go_at_call 18; refine (HBL.out _).mono ?_; rintro e w5 ⟨rfl, hb5⟩; have hS5 := keepP w x0 y0 (by assumption) hb5)
    | (go_at_call 19; refine (HFI.out _).mono ?_; rintro e w5 ⟨rfl, hb5⟩; have hS5 := keepP w x0 y0 (by assumption) hb5))
  all_goals
    obtain ⟨d0, d1, dl, db⟩ := hS5
    have HSS := Lib.hid (show w5.cell? ⟨w.heap.size, 0, none⟩ = some (.int .i64 x0) ∧ w5.cell? ⟨w.heap.size, 1, none⟩ = some (.int .i64 y0) ∧ w.heap.size < w5.heap.size ∧ Below w.heap.size w w5 from ⟨d0, d1, dl, db⟩)
    clear dl db c0 c1
    go_wp2_with fail
    refine (HM.out _).mono ?_
    rintro e w6 ⟨rfl, rfl⟩
    go_wp2_with fail
    refine (GM.awake_any _).mono ?_
    rintro e w7 ⟨rfl, hb7⟩
    obtain ⟨g0, g1, gl, gb⟩ := keepP w x0 y0 HSS.out hb7
    have HB7 := Lib.hid gb
    clear hb7 d0 d1 gb gl
    go_wp2
    go_ret
    exact ⟨rfl, HB7.out⟩

set_option maxHeartbeats 2000000 in
theorem pages_lo_c (x0 y0 a1 a2 MN F : Int) (w : World) (hm : IntKind.i64.wrap (x0 * y0) = MN) (h0 : a1 < 0) (k0 : ¬ a2 < 0) (k1 : ¬ x0 ≤ a2) (hf : IntKind.i64.wrap (a2 * y0) = F) (HBL : Hid (∀ w, Calls Try.prog 18 #[.agg #[.int .i64 x0, .int .i64 y0], .int .i64 a1] w fun e w' => e = .returned (.int .i64 (-1)) ∧ Below w.heap.size w w')) (HFI : Hid (∀ w, Calls Try.prog 19 #[.agg #[.int .i64 x0, .int .i64 y0], .int .i64 a2] w fun e w' => e = .returned (.int .i64 F) ∧ Below w.heap.size w w')) (HM : Hid (∀ w, Calls Try.prog 12 #[.int .i64 x0, .int .i64 y0] w fun e w' => e = .returned (.bool true) ∧ w = w')) (HB2 : Hid (∀ w, Calls Try.prog 18 #[.agg #[.int .i64 x0, .int .i64 y0], .int .i64 F] w fun e w' => e = .returned (.int .i64 a2) ∧ Below w.heap.size w w')) :
    Calls Try.prog 5 #[.agg #[.int .i64 x0, .int .i64 y0], .int .i64 a1, .int .i64 a2] w fun e w' => e = .returned (.bool true) ∧ Below w.heap.size w w' := by
  obtain ⟨W, hW⟩ : ∃ W, W = w.alloc (.cells #[.int .i64 x0, .int .i64 y0] 30) := ⟨_, rfl⟩
  have k1 : GC W w.heap.size x0 y0 := by rw [hW]; exact Blk.new w _ _
  have HS : Hid (W.drew.cell? ⟨w.heap.size, 0, none⟩ = some (.int .i64 x0) ∧ W.drew.cell? ⟨w.heap.size, 1, none⟩ = some (.int .i64 y0) ∧ w.heap.size < W.drew.heap.size ∧ Below w.heap.size w W.drew) := Lib.hid ⟨k1.c0, k1.c1, Blk.lt k1, by rw [hW]; exact (below_box w _).drew⟩
  have c0 := k1.c0
  have c1 := k1.c1
  have HW := Lib.hid hW
  clear hW k1
  go_enter Try.func5, Try.ntmps5
  go_wp2
  rw [← HW.out]
  go_region_held3 (fun w' => w'.cell? ⟨w.heap.size, 0, none⟩ = some (.int .i64 x0) ∧ w'.cell? ⟨w.heap.size, 1, none⟩ = some (.int .i64 y0) ∧ w.heap.size < w'.heap.size ∧ Below w.heap.size w w') (first | with_reducible exact HS.out | assumption) (first
    | (go_at_call 18; refine (HBL.out _).mono ?_; rintro e w5 ⟨rfl, hb5⟩; have hS5 := keepP w x0 y0 (by assumption) hb5)
    | (go_at_call 19; refine (HFI.out _).mono ?_; rintro e w5 ⟨rfl, hb5⟩; have hS5 := keepP w x0 y0 (by assumption) hb5))
  all_goals
    obtain ⟨d0, d1, dl, db⟩ := hS5
    have HSS := Lib.hid (show w5.cell? ⟨w.heap.size, 0, none⟩ = some (.int .i64 x0) ∧ w5.cell? ⟨w.heap.size, 1, none⟩ = some (.int .i64 y0) ∧ w.heap.size < w5.heap.size ∧ Below w.heap.size w w5 from ⟨d0, d1, dl, db⟩)
    clear dl db c0 c1
    go_wp2_with fail
    refine (HM.out _).mono ?_
    rintro e w6 ⟨rfl, rfl⟩
    go_wp2_with fail
    refine (GM.awake_any _).mono ?_
    rintro e w7 ⟨rfl, hb7⟩
    have hS7 := keepP w x0 y0 HSS.out hb7
    obtain ⟨g0, g1, gl, gb⟩ := id hS7
    have HS7 := Lib.hid hS7
    clear hb7 d0 d1 gb gl hS7
    go_wp2_with fail
    refine (HB2.out _).mono ?_
    rintro e w8 ⟨rfl, hb8⟩
    have HB8 := Lib.hid (keepP w x0 y0 HS7.out hb8).2.2.2
    clear hb8
    go_wp2
    go_ret
    exact ⟨rfl, HB8.out⟩

set_option maxHeartbeats 2000000 in
theorem pages_hi_a (x0 y0 a1 a2 MN : Int) (w : World) (hm : IntKind.i64.wrap (x0 * y0) = MN) (h0 : ¬ a1 < 0) (h1 : MN ≤ a1) (k0 : a2 < 0) (HBL : Hid (∀ w, Calls Try.prog 18 #[.agg #[.int .i64 x0, .int .i64 y0], .int .i64 a1] w fun e w' => e = .returned (.int .i64 (-1)) ∧ Below w.heap.size w w')) (HFI : Hid (∀ w, Calls Try.prog 19 #[.agg #[.int .i64 x0, .int .i64 y0], .int .i64 a2] w fun e w' => e = .returned (.int .i64 (-1)) ∧ Below w.heap.size w w')) (HM : Hid (∀ w, Calls Try.prog 12 #[.int .i64 x0, .int .i64 y0] w fun e w' => e = .returned (.bool true) ∧ w = w')) :
    Calls Try.prog 5 #[.agg #[.int .i64 x0, .int .i64 y0], .int .i64 a1, .int .i64 a2] w fun e w' => e = .returned (.bool true) ∧ Below w.heap.size w w' := by
  obtain ⟨W, hW⟩ : ∃ W, W = w.alloc (.cells #[.int .i64 x0, .int .i64 y0] 30) := ⟨_, rfl⟩
  have k1 : GC W w.heap.size x0 y0 := by rw [hW]; exact Blk.new w _ _
  have HS : Hid (W.drew.cell? ⟨w.heap.size, 0, none⟩ = some (.int .i64 x0) ∧ W.drew.cell? ⟨w.heap.size, 1, none⟩ = some (.int .i64 y0) ∧ w.heap.size < W.drew.heap.size ∧ Below w.heap.size w W.drew) := Lib.hid ⟨k1.c0, k1.c1, Blk.lt k1, by rw [hW]; exact (below_box w _).drew⟩
  have c0 := k1.c0
  have c1 := k1.c1
  have HW := Lib.hid hW
  clear hW k1
  go_enter Try.func5, Try.ntmps5
  go_wp2
  rw [← HW.out]
  go_region_held3 (fun w' => w'.cell? ⟨w.heap.size, 0, none⟩ = some (.int .i64 x0) ∧ w'.cell? ⟨w.heap.size, 1, none⟩ = some (.int .i64 y0) ∧ w.heap.size < w'.heap.size ∧ Below w.heap.size w w') (first | with_reducible exact HS.out | assumption) (first
    | (go_at_call 18; refine (HBL.out _).mono ?_; rintro e w5 ⟨rfl, hb5⟩; have hS5 := keepP w x0 y0 (by assumption) hb5)
    | (go_at_call 19; refine (HFI.out _).mono ?_; rintro e w5 ⟨rfl, hb5⟩; have hS5 := keepP w x0 y0 (by assumption) hb5))
  all_goals
    obtain ⟨d0, d1, dl, db⟩ := hS5
    have HSS := Lib.hid (show w5.cell? ⟨w.heap.size, 0, none⟩ = some (.int .i64 x0) ∧ w5.cell? ⟨w.heap.size, 1, none⟩ = some (.int .i64 y0) ∧ w.heap.size < w5.heap.size ∧ Below w.heap.size w w5 from ⟨d0, d1, dl, db⟩)
    clear dl db c0 c1
    go_wp2_with fail
    refine (HM.out _).mono ?_
    rintro e w6 ⟨rfl, rfl⟩
    go_wp2_with fail
    refine (GM.awake_any _).mono ?_
    rintro e w7 ⟨rfl, hb7⟩
    obtain ⟨g0, g1, gl, gb⟩ := keepP w x0 y0 HSS.out hb7
    have HB7 := Lib.hid gb
    clear hb7 d0 d1 gb gl
    go_wp2
    go_ret
    exact ⟨rfl, HB7.out⟩

set_option maxHeartbeats 2000000 in
theorem pages_hi_b (x0 y0 a1 a2 MN : Int) (w : World) (hm : IntKind.i64.wrap (x0 * y0) = MN) (h0 : ¬ a1 < 0) (h1 : MN ≤ a1) (k0 : ¬ a2 < 0) (k1 : x0 ≤ a2) (HBL : Hid (∀ w, Calls Try.prog 18 #[.agg #[.int .i64 x0, .int .i64 y0], .int .i64 a1] w fun e w' => e = .returned (.int .i64 (-1)) ∧ Below w.heap.size w w')) (HFI : Hid (∀ w, Calls Try.prog 19 #[.agg #[.int .i64 x0, .int .i64 y0], .int .i64 a2] w fun e w' => e = .returned (.int .i64 (-1)) ∧ Below w.heap.size w w')) (HM : Hid (∀ w, Calls Try.prog 12 #[.int .i64 x0, .int .i64 y0] w fun e w' => e = .returned (.bool true) ∧ w = w')) :
    Calls Try.prog 5 #[.agg #[.int .i64 x0, .int .i64 y0], .int .i64 a1, .int .i64 a2] w fun e w' => e = .returned (.bool true) ∧ Below w.heap.size w w' := by
  obtain ⟨W, hW⟩ : ∃ W, W = w.alloc (.cells #[.int .i64 x0, .int .i64 y0] 30) := ⟨_, rfl⟩
  have k1 : GC W w.heap.size x0 y0 := by rw [hW]; exact Blk.new w _ _
  have HS : Hid (W.drew.cell? ⟨w.heap.size, 0, none⟩ = some (.int .i64 x0) ∧ W.drew.cell? ⟨w.heap.size, 1, none⟩ = some (.int .i64 y0) ∧ w.heap.size < W.drew.heap.size ∧ Below w.heap.size w W.drew) := Lib.hid ⟨k1.c0, k1.c1, Blk.lt k1, by rw [hW]; exact (below_box w _).drew⟩
  have c0 := k1.c0
  have c1 := k1.c1
  have HW := Lib.hid hW
  clear hW k1
  go_enter Try.func5, Try.ntmps5
  go_wp2
  rw [← HW.out]
  go_region_held3 (fun w' => w'.cell? ⟨w.heap.size, 0, none⟩ = some (.int .i64 x0) ∧ w'.cell? ⟨w.heap.size, 1, none⟩ = some (.int .i64 y0) ∧ w.heap.size < w'.heap.size ∧ Below w.heap.size w w') (first | with_reducible exact HS.out | assumption) (first
    | (go_at_call 18; refine (HBL.out _).mono ?_; rintro e w5 ⟨rfl, hb5⟩; have hS5 := keepP w x0 y0 (by assumption) hb5)
    | (go_at_call 19; refine (HFI.out _).mono ?_; rintro e w5 ⟨rfl, hb5⟩; have hS5 := keepP w x0 y0 (by assumption) hb5))
  all_goals
    obtain ⟨d0, d1, dl, db⟩ := hS5
    have HSS := Lib.hid (show w5.cell? ⟨w.heap.size, 0, none⟩ = some (.int .i64 x0) ∧ w5.cell? ⟨w.heap.size, 1, none⟩ = some (.int .i64 y0) ∧ w.heap.size < w5.heap.size ∧ Below w.heap.size w w5 from ⟨d0, d1, dl, db⟩)
    clear dl db c0 c1
    go_wp2_with fail
    refine (HM.out _).mono ?_
    rintro e w6 ⟨rfl, rfl⟩
    go_wp2_with fail
    refine (GM.awake_any _).mono ?_
    rintro e w7 ⟨rfl, hb7⟩
    obtain ⟨g0, g1, gl, gb⟩ := keepP w x0 y0 HSS.out hb7
    have HB7 := Lib.hid gb
    clear hb7 d0 d1 gb gl
    go_wp2
    go_ret
    exact ⟨rfl, HB7.out⟩

set_option maxHeartbeats 2000000 in
theorem pages_hi_c (x0 y0 a1 a2 MN F : Int) (w : World) (hm : IntKind.i64.wrap (x0 * y0) = MN) (h0 : ¬ a1 < 0) (h1 : MN ≤ a1) (k0 : ¬ a2 < 0) (k1 : ¬ x0 ≤ a2) (hf : IntKind.i64.wrap (a2 * y0) = F) (HBL : Hid (∀ w, Calls Try.prog 18 #[.agg #[.int .i64 x0, .int .i64 y0], .int .i64 a1] w fun e w' => e = .returned (.int .i64 (-1)) ∧ Below w.heap.size w w')) (HFI : Hid (∀ w, Calls Try.prog 19 #[.agg #[.int .i64 x0, .int .i64 y0], .int .i64 a2] w fun e w' => e = .returned (.int .i64 F) ∧ Below w.heap.size w w')) (HM : Hid (∀ w, Calls Try.prog 12 #[.int .i64 x0, .int .i64 y0] w fun e w' => e = .returned (.bool true) ∧ w = w')) (HB2 : Hid (∀ w, Calls Try.prog 18 #[.agg #[.int .i64 x0, .int .i64 y0], .int .i64 F] w fun e w' => e = .returned (.int .i64 a2) ∧ Below w.heap.size w w')) :
    Calls Try.prog 5 #[.agg #[.int .i64 x0, .int .i64 y0], .int .i64 a1, .int .i64 a2] w fun e w' => e = .returned (.bool true) ∧ Below w.heap.size w w' := by
  obtain ⟨W, hW⟩ : ∃ W, W = w.alloc (.cells #[.int .i64 x0, .int .i64 y0] 30) := ⟨_, rfl⟩
  have k1 : GC W w.heap.size x0 y0 := by rw [hW]; exact Blk.new w _ _
  have HS : Hid (W.drew.cell? ⟨w.heap.size, 0, none⟩ = some (.int .i64 x0) ∧ W.drew.cell? ⟨w.heap.size, 1, none⟩ = some (.int .i64 y0) ∧ w.heap.size < W.drew.heap.size ∧ Below w.heap.size w W.drew) := Lib.hid ⟨k1.c0, k1.c1, Blk.lt k1, by rw [hW]; exact (below_box w _).drew⟩
  have c0 := k1.c0
  have c1 := k1.c1
  have HW := Lib.hid hW
  clear hW k1
  go_enter Try.func5, Try.ntmps5
  go_wp2
  rw [← HW.out]
  go_region_held3 (fun w' => w'.cell? ⟨w.heap.size, 0, none⟩ = some (.int .i64 x0) ∧ w'.cell? ⟨w.heap.size, 1, none⟩ = some (.int .i64 y0) ∧ w.heap.size < w'.heap.size ∧ Below w.heap.size w w') (first | with_reducible exact HS.out | assumption) (first
    | (go_at_call 18; refine (HBL.out _).mono ?_; rintro e w5 ⟨rfl, hb5⟩; have hS5 := keepP w x0 y0 (by assumption) hb5)
    | (go_at_call 19; refine (HFI.out _).mono ?_; rintro e w5 ⟨rfl, hb5⟩; have hS5 := keepP w x0 y0 (by assumption) hb5))
  all_goals
    obtain ⟨d0, d1, dl, db⟩ := hS5
    have HSS := Lib.hid (show w5.cell? ⟨w.heap.size, 0, none⟩ = some (.int .i64 x0) ∧ w5.cell? ⟨w.heap.size, 1, none⟩ = some (.int .i64 y0) ∧ w.heap.size < w5.heap.size ∧ Below w.heap.size w w5 from ⟨d0, d1, dl, db⟩)
    clear dl db c0 c1
    go_wp2_with fail
    refine (HM.out _).mono ?_
    rintro e w6 ⟨rfl, rfl⟩
    go_wp2_with fail
    refine (GM.awake_any _).mono ?_
    rintro e w7 ⟨rfl, hb7⟩
    have hS7 := keepP w x0 y0 HSS.out hb7
    obtain ⟨g0, g1, gl, gb⟩ := id hS7
    have HS7 := Lib.hid hS7
    clear hb7 d0 d1 gb gl hS7
    go_wp2_with fail
    refine (HB2.out _).mono ?_
    rintro e w8 ⟨rfl, hb8⟩
    have HB8 := Lib.hid (keepP w x0 y0 HS7.out hb8).2.2.2
    clear hb8
    go_wp2
    go_ret
    exact ⟨rfl, HB8.out⟩

set_option maxHeartbeats 2000000 in
theorem pages_in_a (x0 y0 a1 a2 MN Q QN QE : Int) (w : World) (hm : IntKind.i64.wrap (x0 * y0) = MN) (h0 : ¬ a1 < 0) (h1 : ¬ MN ≤ a1) (r0 : ¬ Q < 0) (r1 : ¬ x0 ≤ Q) (hq : IntKind.i64.wrap (Q * y0) = QN) (r2 : ¬ a1 < QN) (hn : IntKind.i64.wrap (QN + y0) = QE) (r3 : ¬ QE ≤ a1) (rn : ¬ Q = -1) (k0 : a2 < 0) (HBL : Hid (∀ w, Calls Try.prog 18 #[.agg #[.int .i64 x0, .int .i64 y0], .int .i64 a1] w fun e w' => e = .returned (.int .i64 Q) ∧ Below w.heap.size w w')) (HFI : Hid (∀ w, Calls Try.prog 19 #[.agg #[.int .i64 x0, .int .i64 y0], .int .i64 a2] w fun e w' => e = .returned (.int .i64 (-1)) ∧ Below w.heap.size w w')) (HM : Hid (∀ w, Calls Try.prog 12 #[.int .i64 x0, .int .i64 y0] w fun e w' => e = .returned (.bool true) ∧ w = w')) :
    Calls Try.prog 5 #[.agg #[.int .i64 x0, .int .i64 y0], .int .i64 a1, .int .i64 a2] w fun e w' => e = .returned (.bool true) ∧ Below w.heap.size w w' := by
  obtain ⟨W, hW⟩ : ∃ W, W = w.alloc (.cells #[.int .i64 x0, .int .i64 y0] 30) := ⟨_, rfl⟩
  have k1 : GC W w.heap.size x0 y0 := by rw [hW]; exact Blk.new w _ _
  have HS : Hid (W.drew.cell? ⟨w.heap.size, 0, none⟩ = some (.int .i64 x0) ∧ W.drew.cell? ⟨w.heap.size, 1, none⟩ = some (.int .i64 y0) ∧ w.heap.size < W.drew.heap.size ∧ Below w.heap.size w W.drew) := Lib.hid ⟨k1.c0, k1.c1, Blk.lt k1, by rw [hW]; exact (below_box w _).drew⟩
  have c0 := k1.c0
  have c1 := k1.c1
  have HW := Lib.hid hW
  clear hW k1
  go_enter Try.func5, Try.ntmps5
  go_wp2
  rw [← HW.out]
  go_region_held3 (fun w' => w'.cell? ⟨w.heap.size, 0, none⟩ = some (.int .i64 x0) ∧ w'.cell? ⟨w.heap.size, 1, none⟩ = some (.int .i64 y0) ∧ w.heap.size < w'.heap.size ∧ Below w.heap.size w w') (first | with_reducible exact HS.out | assumption) (first
    | (go_at_call 18; refine (HBL.out _).mono ?_; rintro e w5 ⟨rfl, hb5⟩; have hS5 := keepP w x0 y0 (by assumption) hb5)
    | (go_at_call 19; refine (HFI.out _).mono ?_; rintro e w5 ⟨rfl, hb5⟩; have hS5 := keepP w x0 y0 (by assumption) hb5))
  all_goals
    obtain ⟨d0, d1, dl, db⟩ := hS5
    have HSS := Lib.hid (show w5.cell? ⟨w.heap.size, 0, none⟩ = some (.int .i64 x0) ∧ w5.cell? ⟨w.heap.size, 1, none⟩ = some (.int .i64 y0) ∧ w.heap.size < w5.heap.size ∧ Below w.heap.size w w5 from ⟨d0, d1, dl, db⟩)
    clear dl db c0 c1
    go_wp2_with fail
    refine (HM.out _).mono ?_
    rintro e w6 ⟨rfl, rfl⟩
    go_wp2_with fail
    refine (GM.awake_any _).mono ?_
    rintro e w7 ⟨rfl, hb7⟩
    obtain ⟨g0, g1, gl, gb⟩ := keepP w x0 y0 HSS.out hb7
    have HB7 := Lib.hid gb
    clear hb7 d0 d1 gb gl
    go_wp2
    go_ret
    exact ⟨rfl, HB7.out⟩

set_option maxHeartbeats 2000000 in
theorem pages_in_b (x0 y0 a1 a2 MN Q QN QE : Int) (w : World) (hm : IntKind.i64.wrap (x0 * y0) = MN) (h0 : ¬ a1 < 0) (h1 : ¬ MN ≤ a1) (r0 : ¬ Q < 0) (r1 : ¬ x0 ≤ Q) (hq : IntKind.i64.wrap (Q * y0) = QN) (r2 : ¬ a1 < QN) (hn : IntKind.i64.wrap (QN + y0) = QE) (r3 : ¬ QE ≤ a1) (rn : ¬ Q = -1) (k0 : ¬ a2 < 0) (k1 : x0 ≤ a2) (HBL : Hid (∀ w, Calls Try.prog 18 #[.agg #[.int .i64 x0, .int .i64 y0], .int .i64 a1] w fun e w' => e = .returned (.int .i64 Q) ∧ Below w.heap.size w w')) (HFI : Hid (∀ w, Calls Try.prog 19 #[.agg #[.int .i64 x0, .int .i64 y0], .int .i64 a2] w fun e w' => e = .returned (.int .i64 (-1)) ∧ Below w.heap.size w w')) (HM : Hid (∀ w, Calls Try.prog 12 #[.int .i64 x0, .int .i64 y0] w fun e w' => e = .returned (.bool true) ∧ w = w')) :
    Calls Try.prog 5 #[.agg #[.int .i64 x0, .int .i64 y0], .int .i64 a1, .int .i64 a2] w fun e w' => e = .returned (.bool true) ∧ Below w.heap.size w w' := by
  obtain ⟨W, hW⟩ : ∃ W, W = w.alloc (.cells #[.int .i64 x0, .int .i64 y0] 30) := ⟨_, rfl⟩
  have k1 : GC W w.heap.size x0 y0 := by rw [hW]; exact Blk.new w _ _
  have HS : Hid (W.drew.cell? ⟨w.heap.size, 0, none⟩ = some (.int .i64 x0) ∧ W.drew.cell? ⟨w.heap.size, 1, none⟩ = some (.int .i64 y0) ∧ w.heap.size < W.drew.heap.size ∧ Below w.heap.size w W.drew) := Lib.hid ⟨k1.c0, k1.c1, Blk.lt k1, by rw [hW]; exact (below_box w _).drew⟩
  have c0 := k1.c0
  have c1 := k1.c1
  have HW := Lib.hid hW
  clear hW k1
  go_enter Try.func5, Try.ntmps5
  go_wp2
  rw [← HW.out]
  go_region_held3 (fun w' => w'.cell? ⟨w.heap.size, 0, none⟩ = some (.int .i64 x0) ∧ w'.cell? ⟨w.heap.size, 1, none⟩ = some (.int .i64 y0) ∧ w.heap.size < w'.heap.size ∧ Below w.heap.size w w') (first | with_reducible exact HS.out | assumption) (first
    | (go_at_call 18; refine (HBL.out _).mono ?_; rintro e w5 ⟨rfl, hb5⟩; have hS5 := keepP w x0 y0 (by assumption) hb5)
    | (go_at_call 19; refine (HFI.out _).mono ?_; rintro e w5 ⟨rfl, hb5⟩; have hS5 := keepP w x0 y0 (by assumption) hb5))
  all_goals
    obtain ⟨d0, d1, dl, db⟩ := hS5
    have HSS := Lib.hid (show w5.cell? ⟨w.heap.size, 0, none⟩ = some (.int .i64 x0) ∧ w5.cell? ⟨w.heap.size, 1, none⟩ = some (.int .i64 y0) ∧ w.heap.size < w5.heap.size ∧ Below w.heap.size w w5 from ⟨d0, d1, dl, db⟩)
    clear dl db c0 c1
    go_wp2_with fail
    refine (HM.out _).mono ?_
    rintro e w6 ⟨rfl, rfl⟩
    go_wp2_with fail
    refine (GM.awake_any _).mono ?_
    rintro e w7 ⟨rfl, hb7⟩
    obtain ⟨g0, g1, gl, gb⟩ := keepP w x0 y0 HSS.out hb7
    have HB7 := Lib.hid gb
    clear hb7 d0 d1 gb gl
    go_wp2
    go_ret
    exact ⟨rfl, HB7.out⟩

set_option maxHeartbeats 2000000 in
theorem pages_in_c (x0 y0 a1 a2 MN Q QN QE F : Int) (w : World) (hm : IntKind.i64.wrap (x0 * y0) = MN) (h0 : ¬ a1 < 0) (h1 : ¬ MN ≤ a1) (r0 : ¬ Q < 0) (r1 : ¬ x0 ≤ Q) (hq : IntKind.i64.wrap (Q * y0) = QN) (r2 : ¬ a1 < QN) (hn : IntKind.i64.wrap (QN + y0) = QE) (r3 : ¬ QE ≤ a1) (rn : ¬ Q = -1) (k0 : ¬ a2 < 0) (k1 : ¬ x0 ≤ a2) (hf : IntKind.i64.wrap (a2 * y0) = F) (HBL : Hid (∀ w, Calls Try.prog 18 #[.agg #[.int .i64 x0, .int .i64 y0], .int .i64 a1] w fun e w' => e = .returned (.int .i64 Q) ∧ Below w.heap.size w w')) (HFI : Hid (∀ w, Calls Try.prog 19 #[.agg #[.int .i64 x0, .int .i64 y0], .int .i64 a2] w fun e w' => e = .returned (.int .i64 F) ∧ Below w.heap.size w w')) (HM : Hid (∀ w, Calls Try.prog 12 #[.int .i64 x0, .int .i64 y0] w fun e w' => e = .returned (.bool true) ∧ w = w')) (HB2 : Hid (∀ w, Calls Try.prog 18 #[.agg #[.int .i64 x0, .int .i64 y0], .int .i64 F] w fun e w' => e = .returned (.int .i64 a2) ∧ Below w.heap.size w w')) :
    Calls Try.prog 5 #[.agg #[.int .i64 x0, .int .i64 y0], .int .i64 a1, .int .i64 a2] w fun e w' => e = .returned (.bool true) ∧ Below w.heap.size w w' := by
  obtain ⟨W, hW⟩ : ∃ W, W = w.alloc (.cells #[.int .i64 x0, .int .i64 y0] 30) := ⟨_, rfl⟩
  have k1 : GC W w.heap.size x0 y0 := by rw [hW]; exact Blk.new w _ _
  have HS : Hid (W.drew.cell? ⟨w.heap.size, 0, none⟩ = some (.int .i64 x0) ∧ W.drew.cell? ⟨w.heap.size, 1, none⟩ = some (.int .i64 y0) ∧ w.heap.size < W.drew.heap.size ∧ Below w.heap.size w W.drew) := Lib.hid ⟨k1.c0, k1.c1, Blk.lt k1, by rw [hW]; exact (below_box w _).drew⟩
  have c0 := k1.c0
  have c1 := k1.c1
  have HW := Lib.hid hW
  clear hW k1
  go_enter Try.func5, Try.ntmps5
  go_wp2
  rw [← HW.out]
  go_region_held3 (fun w' => w'.cell? ⟨w.heap.size, 0, none⟩ = some (.int .i64 x0) ∧ w'.cell? ⟨w.heap.size, 1, none⟩ = some (.int .i64 y0) ∧ w.heap.size < w'.heap.size ∧ Below w.heap.size w w') (first | with_reducible exact HS.out | assumption) (first
    | (go_at_call 18; refine (HBL.out _).mono ?_; rintro e w5 ⟨rfl, hb5⟩; have hS5 := keepP w x0 y0 (by assumption) hb5)
    | (go_at_call 19; refine (HFI.out _).mono ?_; rintro e w5 ⟨rfl, hb5⟩; have hS5 := keepP w x0 y0 (by assumption) hb5))
  all_goals
    obtain ⟨d0, d1, dl, db⟩ := hS5
    have HSS := Lib.hid (show w5.cell? ⟨w.heap.size, 0, none⟩ = some (.int .i64 x0) ∧ w5.cell? ⟨w.heap.size, 1, none⟩ = some (.int .i64 y0) ∧ w.heap.size < w5.heap.size ∧ Below w.heap.size w w5 from ⟨d0, d1, dl, db⟩)
    clear dl db c0 c1
    go_wp2_with fail
    refine (HM.out _).mono ?_
    rintro e w6 ⟨rfl, rfl⟩
    go_wp2_with fail
    refine (GM.awake_any _).mono ?_
    rintro e w7 ⟨rfl, hb7⟩
    have hS7 := keepP w x0 y0 HSS.out hb7
    obtain ⟨g0, g1, gl, gb⟩ := id hS7
    have HS7 := Lib.hid hS7
    clear hb7 d0 d1 gb gl hS7
    go_wp2_with fail
    refine (HB2.out _).mono ?_
    rintro e w8 ⟨rfl, hb8⟩
    have HB8 := Lib.hid (keepP w x0 y0 HS7.out hb8).2.2.2
    clear hb8
    go_wp2
    go_ret
    exact ⟨rfl, HB8.out⟩


/-- Where the second block lies, whatever the first answer was. -/
theorem rest (m n : Nat) (h : 16 ≤ m ∧ m ≤ 64 ∧ 8 ≤ n ∧ n ≤ 32) (a2 : Int) (P : Prop)
    (A : a2 < 0 → Hid (∀ w, Calls Try.prog 19 #[.agg #[.int .i64 m, .int .i64 n], .int .i64 a2] w fun e w' => e = .returned (.int .i64 (-1)) ∧ Below w.heap.size w w') → P)
    (B : ¬ a2 < 0 → (m : Int) ≤ a2 → Hid (∀ w, Calls Try.prog 19 #[.agg #[.int .i64 m, .int .i64 n], .int .i64 a2] w fun e w' => e = .returned (.int .i64 (-1)) ∧ Below w.heap.size w w') → P)
    (C : ∀ F : Int, ¬ a2 < 0 → ¬ (m : Int) ≤ a2 → IntKind.i64.wrap (a2 * (n : Int)) = F → Hid (∀ w, Calls Try.prog 19 #[.agg #[.int .i64 m, .int .i64 n], .int .i64 a2] w fun e w' => e = .returned (.int .i64 F) ∧ Below w.heap.size w w') → Hid (∀ w, Calls Try.prog 18 #[.agg #[.int .i64 m, .int .i64 n], .int .i64 F] w fun e w' => e = .returned (.int .i64 a2) ∧ Below w.heap.size w w') → P) : P := by
  by_cases h0 : a2 < 0
  · exact A h0 (Lib.hid (first_none m n a2 h (.inl h0)))
  · by_cases h1 : (m : Int) ≤ a2
    · exact B h0 h1 (Lib.hid (first_none m n a2 h (.inr h1)))
    · obtain ⟨k, rfl⟩ := Int.eq_ofNat_of_zero_le (show 0 ≤ a2 by omega)
      have hk : k < m := by omega
      have hp := (facts h.1 h.2.1 h.2.2.1 h.2.2.2).pages
      have hkn : k * n < m * n := Nat.mul_lt_mul_of_pos_right hk (by omega)
      have hb := block_yes m n (k * n) h hkn
      rw [Nat.mul_div_cancel k (by omega : 0 < n)] at hb
      exact C _ h0 h1 (wrap_mul k n (by omega)) (Lib.hid (first_yes m n k h hk)) (Lib.hid hb)

theorem walk (x0 y0 : Int) (a1 : Int) (a2 : Int) (w : World) (wx0 : (Lit.int .i64 x0).wf = true) (wy0 : (Lit.int .i64 y0).wf = true) (w1 : (Lit.int .i64 a1).wf = true) (w2 : (Lit.int .i64 a2).wf = true) :
    Calls Try.prog 5 #[.agg #[.int .i64 x0, .int .i64 y0], .int .i64 a1, .int .i64 a2] w fun e w' => e = .returned (.bool true) ∧ Below w.heap.size w w' := by
  by_cases h : Geo x0 y0
  · obtain ⟨m, n, rfl, rfl, h'⟩ := h.nat
    have HM := Lib.hid (rmay_yes m n h)
    have hp := (facts h'.1 h'.2.1 h'.2.2.1 h'.2.2.2).pages
    have hmn := wrap_mul m n (by omega)
    by_cases p0 : a1 < 0
    · have HB := Lib.hid (block_none m n a1 h' (.inl p0))
      exact rest m n h' a2 _ (fun k0 HF => pages_lo_a _ _ _ _ _ w hmn p0 k0 HB HF HM) (fun k0 k1 HF => pages_lo_b _ _ _ _ _ w hmn p0 k0 k1 HB HF HM) (fun F k0 k1 hf HF H2 => pages_lo_c _ _ _ _ _ F w hmn p0 k0 k1 hf HB HF HM H2)
    · by_cases p1 : ((m * n : Nat) : Int) ≤ a1
      · have HB := Lib.hid (block_none m n a1 h' (.inr p1))
        exact rest m n h' a2 _ (fun k0 HF => pages_hi_a _ _ _ _ _ w hmn p0 p1 k0 HB HF HM) (fun k0 k1 HF => pages_hi_b _ _ _ _ _ w hmn p0 p1 k0 k1 HB HF HM) (fun F k0 k1 hf HF H2 => pages_hi_c _ _ _ _ _ F w hmn p0 p1 k0 k1 hf HB HF HM H2)
      · obtain ⟨q, rfl⟩ := Int.eq_ofNat_of_zero_le (show 0 ≤ a1 by omega)
        have hq : q < m * n := by omega
        have HB := Lib.hid (block_yes m n q h' hq)
        have t1 : q / n < m := Nat.div_lt_of_lt_mul (by rw [Nat.mul_comm]; exact hq)
        have t2 : q / n * n ≤ q := Nat.div_mul_le_self q n
        have t3 : q < q / n * n + n := by have := Nat.lt_div_mul_add (a := q) (b := n) (by omega : 0 < n); exact this
        have t4 := wrap_mul (q / n) n (by omega)
        obtain ⟨Q, hQ⟩ : ∃ Q, Q = q / n := ⟨_, rfl⟩
        rw [← hQ] at t1 t2 t3 t4 HB
        obtain ⟨X, hX⟩ : ∃ X, X = Q * n := ⟨_, rfl⟩
        rw [← hX] at t2 t3 t4
        have t5 : Hid (IntKind.i64.wrap ((X : Int) + (n : Int)) = (X : Int) + (n : Int)) := by show IntKind.i64.wrap ((X : Int) + (n : Int)) = (X : Int) + (n : Int); clear t4 hmn; exact IntWalk.i64_in _ (by omega)
        have r0 : ¬ (Q : Int) < 0 := by omega
        have r1 : ¬ (m : Int) ≤ (Q : Int) := by omega
        have r2 : ¬ (q : Int) < (X : Int) := by omega
        have r3 : ¬ (X : Int) + (n : Int) ≤ (q : Int) := by omega
        have rn : ¬ (Q : Int) = -1 := by omega
        exact rest m n h' a2 _ (fun k0 HF => pages_in_a _ _ _ _ _ _ _ _ w hmn p0 p1 r0 r1 t4 r2 t5.out r3 rn k0 HB HF HM) (fun k0 k1 HF => pages_in_b _ _ _ _ _ _ _ _ w hmn p0 p1 r0 r1 t4 r2 t5.out r3 rn k0 k1 HB HF HM) (fun F k0 k1 hf HF H2 => pages_in_c _ _ _ _ _ _ _ _ F w hmn p0 p1 r0 r1 t4 r2 t5.out r3 rn k0 k1 hf HB HF HM H2)
  · exact pages_no _ _ _ _ w (Lib.hid (block_no x0 y0 a1 h)) (Lib.hid (first_no x0 y0 a2 h)) (Lib.hid (rmay_no x0 y0 h))

set_option maxRecDepth 100000 in
theorem lifted (os : Os) (started : os.Started) (H : Type) (enc : TypeId × Value → H) :
    ReturnsInHanded {} Try.checked os 5 .any (Rows.geomPagesSpec.pre6 enc Try.prog Try.f5 Rows.geomPagesRow.domain false) (Rows.geomPagesSpec.post enc Try.prog Try.f5 false true false false) := by
  refine returnsInHanded_of_change_sized (C := Try.checked) own started (by kernel_rfl) Try.func5
    (ChangeSpec.witness6 (enc := enc) (C := Try.checked) false ⟨#[], #[.agg #[.int .i64 0, .int .i64 0], .int .i64 0, .int .i64 0], []⟩ 8 (by kernel_rfl) (by kernel_rfl) (by kernel_rfl) (by kernel_rfl)) ?_
  intro W base args ds gs before hval0 hW hcnd hsz0 _
  have hval : ∀ (j : Nat) t v, Try.f5.params[j]? = some t → args[j]? = some v → Value.okWide Try.prog W .any base t v := hval0
  have hW' := hW
  obtain ⟨p, q, hA0, hV, rfl, hfz, hnd⟩ := hW
  have hA : DataW.TrodAll enc Try.prog W 0 (fun _ => true) true Try.f5.params.toList args.toList ds p := hA0
  have hsz : (DataW.weightsEach Try.prog (Try.f5.params.toList ++ Rows.geomPagesSpec.plain.varTypes Try.prog) (ds ++ gs)).all (· ≤ reachBytes) = true := hsz0
  rw [Try.params5] at hA hval hsz
  obtain ⟨v0, vs0, d0, ds0, p0, q0, hargs, rfl, rfl, h0, r0⟩ := trodAll_cons hA
  obtain ⟨v1, vs1, d1, ds1, p1, q1, rfl, rfl, rfl, h1, r1⟩ := trodAll_cons r0
  obtain ⟨v2, vs2, d2, ds2, p2, q2, rfl, rfl, rfl, h2, r2⟩ := trodAll_cons r1
  obtain ⟨rfl, rfl, rfl⟩ := trodAll_nil r2
  obtain rfl : args = #[v0, v1, v2] := by cases args; simp_all
  obtain ⟨rfl, rfl⟩ := trodVars_none hV
  have k0 := h0
  have lt0 : ∀ x ∈ p0, x.block < W.heap.size := by obtain ⟨m, hm⟩ := k0; exact DataW.trod_lt m _ _ _ hm
  obtain ⟨x0, y0, rfl, wx0, wy0⟩ := OP.open_geo (hval 0 30 v0 rfl rfl) h0
  obtain ⟨a1, rfl, rfl, rfl, w1⟩ := open_int Try.underlying3 (hval 1 3 v1 rfl rfl) h1
  obtain ⟨a2, rfl, rfl, rfl, w2⟩ := open_int Try.underlying3 (hval 2 3 v2 rfl rfl) h2
  clear hA0 hval0 hsz0
  refine (walk x0 y0 a1 a2 W wx0 wy0 w1 w2).mono fun e W' ⟨he, bel⟩ => ?_
  subst he
  exact ⟨_, rfl, _, _, _, [], _, [], hW', trodAll_mk1 (shut_bool Try.underlying4 _), (trodAll_cons_mk (Below.trod laidOut (by kernel_rfl) (of_decide_eq_true (by kernel_rfl)) k0 bel lt0) (trodAll_cons_mk (shut_int Try.underlying3 w1) (trodAll_cons_mk (shut_int Try.underlying3 w2) trodAll_mk0))), rfl, bel.frame _, fun h => by cases h⟩

theorem over : Rows.geomPagesRow.holds Try.pinned (OpenSpec.ofChange Rows.geomPagesSpec) :=
  OpenClaim.holds_of_wide 5 Try.f5 rfl rfl rfl rfl rfl rfl rfl ⟨rfl, rfl, rfl, rfl, rfl⟩ rfl rfl rfl rfl rfl (by kernel_rfl) Try.func5 (by kernel_rfl)
    (of_decide_eq_true (by kernel_rfl)) (by unfold Func.isWrapper; first | (rw [if_pos (by decide +kernel)]; kernel_rfl) | (rw [if_neg (by decide +kernel)]; exact ⟨rfl, rfl⟩))
    (fun os started H enc _ => lifted os started H enc)

theorem proved : Rows.GeomPagesSaid := over
#print axioms proved
end Go.Proofs.Ytolcacmkageidab.geomPages
