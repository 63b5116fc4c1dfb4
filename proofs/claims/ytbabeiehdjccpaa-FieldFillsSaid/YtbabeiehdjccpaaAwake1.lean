/- The worked examples of layer 1 hold: scorialaw01.awake answers true. No condition. -/
import Derived.Test.YtbabeiehdjccpaaFGet
namespace Go.Proofs.Ytbabeiehdjccpaa
open Go.RowKit
namespace FM
set_option linter.unusedVariables false
set_option linter.unusedSimpArgs false

theorem ex1 (w : World) : Calls Try.prog 9 #[.int .u64 258, .int .i64 2] w fun e w' => e = .returned (.tuple #[.string ⟨#[2, 1]⟩, .int .i64 0]) ∧ Below w.heap.size w w' := by
  have h := put_ok 258 2 (by decide) (by decide) (by decide) (by decide) w
  have e1 : str (fb 258 2) = ⟨#[2, 1]⟩ := by decide +kernel
  rw [e1] at h
  exact h
theorem ex2 (w : World) : Calls Try.prog 9 #[.int .u64 256, .int .i64 1] w fun e w' => e = .returned (.tuple #[.string ⟨#[]⟩, .int .i64 2]) ∧ w = w' :=
  put_long 256 1 (by decide) (by decide) (by decide) (by decide) w
theorem ex3 (w : World) : Calls Try.prog 12 #[.string ⟨#[2, 1, 0]⟩, .int .i64 0, .int .i64 2] w fun e w' => e = .returned (.tuple #[.int .u64 258, .int .i64 0]) ∧ w = w' := by
  have h := get_ok ⟨#[2, 1, 0]⟩ (by decide) 0 2 (by decide) (by decide) (by decide) w
  have e3 : (val (((⟨#[2, 1, 0]⟩ : ByteArray).data.toList.drop 0).take 2) : Int) = 258 := by decide +kernel
  rw [e3] at h
  exact h

theorem awake_any (w : World) : Calls Try.prog 11 #[] w fun e w' => e = .returned (.bool true) ∧ Below w.heap.size w w' := by
  go_enter Try.func11, Try.ntmps11
  go_wp2_with fail
  go_at_call 9
  refine (ex1 _).mono ?_
  rintro e w1 ⟨rfl, hb1⟩
  go_wp2_with fail
  go_at_call 9
  refine (ex2 _).mono ?_
  rintro e w2 ⟨rfl, rfl⟩
  go_wp2_with fail
  go_at_call 12
  refine (ex3 _).mono ?_
  rintro e w2 ⟨rfl, rfl⟩
  go_wp2
  go_ret
  exact ⟨rfl, hb1⟩
end FM
end Go.Proofs.Ytbabeiehdjccpaa
