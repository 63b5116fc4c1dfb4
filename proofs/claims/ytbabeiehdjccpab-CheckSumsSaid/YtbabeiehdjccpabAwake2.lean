/- The worked examples of layer 2 hold: scorialaw02.awake answers true. No condition. -/
import Derived.Test.YtbabeiehdjccpabCheck
namespace Go.Proofs.Ytbabeiehdjccpab
open Go.RowKit
namespace CM
open FM (str str_toList str_size)
set_option linter.unusedVariables false
set_option linter.unusedSimpArgs false

theorem ex1 (w : World) : Calls Try.prog 19 #[.string ⟨#[97]⟩] w fun e w' => e = .returned (.string (str (sealed [97]))) ∧ Below w.heap.size w w' :=
  seal_any ⟨#[97]⟩ (by decide) w
theorem ex2 (w : World) : Calls Try.prog 21 #[.string (str (sealed [97]))] w fun e w' => e = .returned (.tuple #[.string ⟨#[97]⟩, .int .i64 0]) ∧ Below w.heap.size w w' := by
  have h := open_ok (str (sealed [97])) (by rw [str_size, sealed_len]; decide) (by rw [str_size, sealed_len]; decide) (sealed_ok _) w
  have e : body (str (sealed [97])).data.toList = [97] := body_sealed _
  rw [e] at h
  exact h
theorem ex3 (w : World) : Calls Try.prog 15 #[.string ⟨#[49, 50, 51, 52, 53, 54, 55, 56, 57]⟩] w fun e w' => e = .returned (.int .u32 4236843288) ∧ w = w' := by
  have h := sum_any ⟨#[49, 50, 51, 52, 53, 54, 55, 56, 57]⟩ (by decide) w
  have e : ((sum (⟨#[49, 50, 51, 52, 53, 54, 55, 56, 57]⟩ : ByteArray).data.toList).toNat : Int) = 4236843288 := by decide +kernel
  rw [e] at h
  exact h
theorem ex4 (w : World) : Calls Try.prog 19 #[.string ⟨#[]⟩] w fun e w' => e = .returned (.string ⟨#[0, 0, 0, 0]⟩) ∧ Below w.heap.size w w' := by
  have h := seal_any ⟨#[]⟩ (by decide) w
  have e : str (sealed (⟨#[]⟩ : ByteArray).data.toList) = ⟨#[0, 0, 0, 0]⟩ := by decide +kernel
  rw [e] at h
  exact h

theorem awake_any (w : World) : Calls Try.prog 14 #[] w fun e w' => e = .returned (.bool true) ∧ Below w.heap.size w w' := by
  go_enter Try.func14, Try.ntmps14
  go_wp2_with fail
  refine (ex1 _).mono ?_
  rintro e w1 ⟨rfl, hb1⟩
  go_wp2_with fail
  refine (ex2 _).mono ?_
  rintro e w2 ⟨rfl, hb2⟩
  go_wp2_with fail
  refine (ex3 _).mono ?_
  rintro e w3 ⟨rfl, rfl⟩
  go_wp2_with fail
  refine (ex4 _).mono ?_
  rintro e w3 ⟨rfl, hb3⟩
  have hb : Below w.heap.size w w3 := hb1.trans ((hb2.mono hb1.size).trans (hb3.mono (Nat.le_trans hb1.size hb2.size)))
  go_wp2
  go_ret
  exact ⟨rfl, hb⟩
end CM
end Go.Proofs.Ytbabeiehdjccpab
