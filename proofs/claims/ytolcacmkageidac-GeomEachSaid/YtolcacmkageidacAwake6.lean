/- The worked example of layer 6 holds: scorialaw06.awake answers true. No condition. -/
import Derived.Test.YtolcacmkageidacGmB
namespace Go.Proofs.Ytolcacmkageidac
open Go.RowKit
namespace GM
open MM
set_option linter.unusedVariables false
set_option linter.unusedSimpArgs false

theorem ex_plan (w : World) : Calls Try.prog 4 #[.agg #[.int .i64 16, .int .i64 8]] w fun e w' => e = .returned (.tuple #[.agg #[.int .i64 128, .int .i64 2, .int .i64 5, .int .i64 9, .int .i64 10], .int .i64 0]) ∧ Below w.heap.size w w' :=
  plan_yes 16 8 (by decide) w
theorem ex_nodes (w : World) : Calls Try.prog 10 #[.agg #[.int .i64 16, .int .i64 8]] w fun e w' => e = .returned (.int .i64 18) ∧ Below w.heap.size w w' :=
  nodes_yes 16 8 (by decide) w
set_option maxHeartbeats 1000000 in
theorem awake_any (w : World) : Calls Try.prog 5 #[] w fun e w' => e = .returned (.bool true) ∧ Below w.heap.size w w' := by
  obtain ⟨W, hW⟩ : ∃ W, W = w.alloc (.cells #[.int .i64 16, .int .i64 8] 23) := ⟨_, rfl⟩
  have k1 : Blk W w.heap.size 23 #[.int .i64 16, .int .i64 8] := by rw [hW]; exact Blk.new w _ _
  have hb0 : Below w.heap.size w W := by rw [hW]; exact below_box w _
  have HW := Lib.hid hW
  clear hW
  go_enter Try.func5, Try.ntmps5
  go_wp2_with fail
  rw [← HW.out]
  refine (ex_plan _).mono ?_
  rintro e w1 ⟨rfl, hb1⟩
  have m1 := (k1.below hb1 k1.lt).alloc (.cells #[.int .i64 128, .int .i64 2, .int .i64 5, .int .i64 9, .int .i64 10] 25)
  have c0 : (w1.alloc (.cells #[.int .i64 128, .int .i64 2, .int .i64 5, .int .i64 9, .int .i64 10] 25)).cell? ⟨w.heap.size, 0, none⟩ = some (.int .i64 16) := m1.cell 0
  have c1 : (w1.alloc (.cells #[.int .i64 128, .int .i64 2, .int .i64 5, .int .i64 9, .int .i64 10] 25)).cell? ⟨w.heap.size, 1, none⟩ = some (.int .i64 8) := m1.cell 1
  have hbb := hb0.trans (hb1.mono hb0.size)
  have HB1 := Lib.hid (hbb.alloc hbb.size (.cells #[.int .i64 128, .int .i64 2, .int .i64 5, .int .i64 9, .int .i64 10] 25))
  clear hb1 hbb k1 m1 hb0
  go_wp2_with fail
  refine (ex_nodes _).mono ?_
  rintro e w2 ⟨rfl, hb2⟩
  have HB2 := Lib.hid (HB1.out.trans (hb2.mono HB1.out.size))
  clear hb2
  go_wp2
  go_ret
  exact ⟨rfl, HB2.out⟩
end GM
end Go.Proofs.Ytolcacmkageidac
