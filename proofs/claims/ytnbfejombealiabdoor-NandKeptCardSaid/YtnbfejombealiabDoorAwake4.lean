/- The worked example of layer 4 holds: scorialaw04.awake answers true, where errors.errorType holds what start-up lays. -/
import Derived.Test.YtnbfejombealiabDoorNdS
namespace Go.Proofs.YtnbfejombealiabDoor
namespace ND
open Go.RowKit MM
set_option linter.unusedVariables false
set_option linter.unusedSimpArgs false

theorem plain_any (w : World) : Calls Tryd.prog 9 #[] w fun e w' => e = .returned (.agg #[.int .i64 16, .int .i64 8]) ∧ Below w.heap.size w w' := by
  go_enter Tryd.func9, Tryd.ntmps9
  go_wp2
  simp [bodyPost, results, Tryd.results9, go_sem]
  exact (Below.refl _ _).alloc (Nat.le_refl _) _

abbrev aX : ByteArray := ⟨#[120]⟩
abbrev aABC : ByteArray := ⟨#[97, 98, 99]⟩
def aM : Mis := ⟨1, 1, 1, ⟨#[122]⟩⟩
def A1 : Nd := ((fresh 16 8).program 0 aX).1
def A2 : Nd := A1.planned [aM]
def A3 : Nd := (A2.program 1 aABC).1
theorem a_order : (fresh 16 8).program 1 aX = (fresh 16 8, 40) := by rfl
theorem a_ok : ((fresh 16 8).program 0 aX).2 = 0 := by rfl
theorem a_down : (A2.program 1 aABC).2 = 9 := by rfl
theorem a_isdown : A3.down = true := by rfl
theorem a_read : A3.up.read 1 = (⟨#[97, 122]⟩, 0) := by rfl

theorem e_a1 : ((fresh 16 8).program 0 aX).1 = A1 := by unfold A1; rfl
theorem e_a2 : A1.planned [aM] = A2 := by unfold A2; rfl
theorem e_a3 : (A2.program 1 aABC).1 = A3 := by unfold A3; rfl
theorem ops_a1 : A1.ops ≤ 4611686018427387904 := by decide
theorem ops_a2 : A2.ops ≤ 4611686018427387904 := by decide

set_option maxRecDepth 100000 in
set_option maxHeartbeats 800000 in
theorem awake_any (w : World) (hg : ER.ErrorType w) : Calls Tryd.prog 10 #[] w fun e w' => e = .returned (.bool true) ∧ Below w.heap.size w w' := by
  have HG := Lib.hid hg
  clear hg
  go_enter Tryd.func10, Tryd.ntmps10
  go_wp2_with fail
  refine (plain_any _).mono ?_
  rintro e w0 ⟨rfl, hb0⟩
  go_wp2_with fail
  refine (st_new 16 8 (by omega) w hb0).mono ?_
  rintro e w1 ⟨r, rfl, h1, _⟩
  have H1 := Lib.hid h1
  clear h1 hb0
  go_wp2_with fail
  refine (st_program H1.out (by decide) 1 rfl aX).mono ?_
  rintro e w2 ⟨v2, rfl, he2, h2, _⟩
  rw [a_order] at he2 h2
  have H2 := Lib.hid h2
  have E2 := Lib.hid he2
  clear h2 he2 H1
  go_wp2_with fail
  refine (st_program H2.out (by decide) 0 rfl aX).mono ?_
  rintro e w3 ⟨v3, rfl, he3, h3, k3⟩
  obtain rfl := he3.none a_ok
  rw [e_a1] at h3
  have H3 := Lib.hid h3
  have E3 := Lib.hid (E2.out.keep k3)
  clear h3 he3 H2 E2 k3
  go_wp2_with fail
  refine (st_plan_new H3.out [aM] _ rfl 1 1 rfl (by decide) (by simp [Mis.Wf, aM, Lit.wf, maxLen]; decide) _ rfl).mono ?_
  rintro e w4 ⟨rfl, h4, k4⟩
  rw [e_a2] at h4
  have H4 := Lib.hid h4
  have E4 := Lib.hid (E3.out.keep k4)
  clear h4 H3 E3 k4
  go_wp2_with fail
  refine (st_program H4.out ops_a2 1 rfl aABC).mono ?_
  rintro e w5 ⟨v5, rfl, he5, h5, k5⟩
  rw [a_down] at he5
  rw [e_a3] at h5
  have H5 := Lib.hid h5
  have E5 := Lib.hid he5
  have E4 := Lib.hid (E4.out.keep k5)
  clear h5 he5 k5
  go_wp2_with fail
  refine (st_down H5.out).mono ?_
  rintro e w6 ⟨rfl, rfl⟩
  rw [a_isdown]
  go_wp2_with fail
  refine (st_up H5.out).mono ?_
  rintro e w7 ⟨rfl, h7, k7⟩
  have H7 := Lib.hid h7
  have E5 := Lib.hid (E5.out.keep k7)
  have E4 := Lib.hid (E4.out.keep k7)
  clear h7 k7
  go_wp2_with fail
  refine (st_read H7.out 1 rfl).mono ?_
  rintro e w8 ⟨v8, rfl, he8, h8, k8⟩
  rw [a_read] at he8
  obtain rfl := he8.none rfl
  rw [a_read]
  have H8 := Lib.hid h8
  have E5 := Lib.hid (E5.out.keep k8)
  have E4 := Lib.hid (E4.out.keep k8)
  clear h8 he8 k8
  go_wp2_with fail
  refine (st_code H8.out HG.out E4.out).mono ?_
  rintro e w9 ⟨rfl, h9, k9⟩
  have H9 := Lib.hid h9
  have E5 := Lib.hid (E5.out.keep k9)
  clear h9 k9
  go_wp2_with fail
  refine (st_code H9.out HG.out E5.out).mono ?_
  rintro e w10 ⟨rfl, h10, k10⟩
  have H10 := Lib.hid h10
  clear h10 k10
  go_wp2
  go_ret
  exact ⟨rfl, H10.out.bel⟩
end ND
end Go.Proofs.YtnbfejombealiabDoor
