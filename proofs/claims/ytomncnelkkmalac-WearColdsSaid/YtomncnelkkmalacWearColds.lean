/- The law WearColds holds: its Go text answers true for every input, and leaves its arguments as they were. No condition beyond the statement's own. -/
import Derived.Test.YtomncnelkkmalacRows
import Derived.Test.YtomncnelkkmalacWrX
import Derived.Test.YtomncnelkkmalacWrW
import Derived.Test.YtomncnelkkmalacOpen8
import Derived.Test.YtomncnelkkmalacOpen
import Derived.ProofKit
import Derived.OpenShut
import Derived.ShutString
import Derived.ChangeOld
import Derived.Below
import Derived.SizedLaws
namespace Go.Proofs.Ytomncnelkkmalac.wearColds
open Go.ChangeShapes Go.WideShapes Go.ChangeAt Go.RowKit
open Go.ChangeMaps (open_string shut_string)
open Go.Proofs.Ytomncnelkkmalac.FM
set_option linter.unusedVariables false
set_option linter.unusedSimpArgs false

theorem own : ownKnob Try.prog.godebug = none := by kernel_rfl
theorem laidOut : laidOutB Try.prog = true := by kernel_rfl

open MM WR OP

set_option maxHeartbeats 1000000 in
theorem big (a0 : Option Addr) (len0 cap0 : Nat) (L0 : List WR.Bk) (a1 : Int) (w : World) (lm0 : len0 ≤ maxLen) (hbig : ¬ len0 ≤ 300) :
    Calls Try.prog 3 #[.slice a0 len0 cap0, .int .i64 a1] w fun e w' => e = .returned (.bool true) ∧ Below w.heap.size w w' := by
  have t0 : (300 : Int) < (len0 : Int) := by omega
  unfold maxLen at lm0
  clear hbig
  go_enter Try.func3, Try.ntmps3
  go_wp2_with fail
  refine (awake_any _).mono ?_
  rintro r w2 ⟨rfl, hb2⟩
  have B2 := Lib.hid hb2
  clear hb2
  go_wp2
  go_ret
  exact ⟨rfl, B2.out⟩

set_option maxHeartbeats 4000000 in
theorem few_ (a0 : Option Addr) (len0 cap0 : Nat) (L0 : List WR.Bk) (a1 : Int) (w : World) (hl0 : len0 = L0.length) (lm0 : len0 ≤ 300) (w0 : Bks w a0 L0) (wf0 : ∀ e ∈ L0, WfB e) :
    Calls Try.prog 3 #[.slice a0 len0 cap0, .int .i64 a1] w fun e w' => e = .returned (.bool true) ∧ Below w.heap.size w w' := by
  have HX := Lib.hid w0
  have HWF := Lib.hid wf0
  clear wf0
  have HL := Lib.hid hl0
  have t0 : ¬ (300 : Int) < (len0 : Int) := by omega
  clear hl0 w0
  go_enter Try.func3, Try.ntmps3
  go_wp2_with fail
  refine (awake_any _).mono ?_
  rintro r w1 ⟨rfl, hb1⟩
  have B1 := Lib.hid hb1
  clear hb1
  go_wp2_with fail
  refine (gap_any L0 len0 cap0 HL.out (by omega) a0 _ (HX.out.below B1.out) HWF.out).mono ?_
  rintro r w3 ⟨q3, rfl, hq3, hb3⟩
  have Q3 := Lib.hid hq3
  have B3 := Lib.hid (below_kept B1.out hb3)
  clear hq3 hb3
  go_wp2_with fail
  refine (refs_any L0 len0 cap0 HL.out (by omega) a0 _ (HX.out.below B3.out)).mono ?_
  rintro r w4 ⟨A4, c4, rfl, hx4, hb4⟩
  have X4 := Lib.hid hx4
  have B4 := Lib.hid (below_kept B3.out hb4)
  clear hx4 hb4
  go_wp2_with fail
  refine (rgap_any L0 len0 c4 HL.out (by omega) A4 _ X4.out HWF.out).mono ?_
  rintro r w5 ⟨q5, rfl, hq5, hb5⟩
  obtain rfl := gp_uniq Q3.out hq5
  have B5 := Lib.hid (below_kept B4.out hb5)
  clear hq5 hb5 Q3
  go_wp2_with fail
  refine (cold_any L0 len0 cap0 HL.out (by omega) a0 a1 _ (HX.out.below B5.out) HWF.out).mono ?_
  rintro r w7 ⟨q7, rfl, hq7, hb7⟩
  have Q7 := Lib.hid hq7
  have B7 := Lib.hid (below_kept B5.out hb7)
  clear hq7 hb7
  go_wp2_with fail
  refine (refs_any L0 len0 cap0 HL.out (by omega) a0 _ (HX.out.below B7.out)).mono ?_
  rintro r w8 ⟨A8, c8, rfl, hx8, hb8⟩
  have X8 := Lib.hid hx8
  have B8 := Lib.hid (below_kept B7.out hb8)
  clear hx8 hb8
  go_wp2_with fail
  refine (rcold_any L0 len0 c8 HL.out (by omega) A8 a1 _ X8.out HWF.out).mono ?_
  rintro r w9 ⟨q9, rfl, hq9, hb9⟩
  obtain rfl := cd_uniq Q7.out hq9
  have B9 := Lib.hid (below_kept B8.out hb9)
  clear hq9 hb9 Q7
  go_wp2
  go_ret
  exact ⟨rfl, B9.out⟩

theorem walk (a0 : Option Addr) (len0 cap0 : Nat) (L0 : List WR.Bk) (a1 : Int) (w : World) (hl0 : len0 = L0.length) (lm0 : len0 ≤ maxLen) (w0 : WR.Bks w a0 L0) (wf0 : ∀ e ∈ L0, WR.WfB e) (w1 : (Lit.int .i64 a1).wf = true) :
    Calls Try.prog 3 #[.slice a0 len0 cap0, .int .i64 a1] w fun e w' => e = .returned (.bool true) ∧ Below w.heap.size w w' := by
  by_cases hf : len0 ≤ 300
  · exact few_ a0 len0 cap0 L0 a1 w hl0 hf w0 wf0
  · exact big a0 len0 cap0 L0 a1 w lm0 hf

set_option maxRecDepth 100000 in
theorem lifted (os : Os) (started : os.Started) (H : Type) (enc : TypeId × Value → H) :
    ReturnsInHanded {} Try.checked os 3 .any (Rows.wearColdsSpec.pre6 enc Try.prog Try.f3 Rows.wearColdsRow.domain false) (Rows.wearColdsSpec.post enc Try.prog Try.f3 false true false false) := by
  refine returnsInHanded_of_change_sized (C := Try.checked) own started (by kernel_rfl) Try.func3
    (ChangeSpec.witness6 (enc := enc) (C := Try.checked) false ⟨#[], #[.slice none 0 0, .int .i64 0], []⟩ 8 (by kernel_rfl) (by kernel_rfl) (by kernel_rfl) (by kernel_rfl)) ?_
  intro W base args ds gs before hval0 hW hcnd hsz0 _
  have hval : ∀ (j : Nat) t v, Try.f3.params[j]? = some t → args[j]? = some v → Value.okWide Try.prog W .any base t v := hval0
  have hW' := hW
  obtain ⟨p, q, hA0, hV, rfl, hfz, hnd⟩ := hW
  have hA : DataW.TrodAll enc Try.prog W 0 (fun _ => true) true Try.f3.params.toList args.toList ds p := hA0
  have hsz : (DataW.weightsEach Try.prog (Try.f3.params.toList ++ Rows.wearColdsSpec.plain.varTypes Try.prog) (ds ++ gs)).all (· ≤ reachBytes) = true := hsz0
  rw [Try.params3] at hA hval hsz
  obtain ⟨v0, vs0, d0, ds0, p0, q0, hargs, rfl, rfl, h0, r0⟩ := trodAll_cons hA
  obtain ⟨v1, vs1, d1, ds1, p1, q1, rfl, rfl, rfl, h1, r1⟩ := trodAll_cons r0
  obtain ⟨rfl, rfl, rfl⟩ := trodAll_nil r1
  obtain rfl : args = #[v0, v1] := by cases args; simp_all
  obtain ⟨rfl, rfl⟩ := trodVars_none hV
  have k0 := h0
  have lt0 : ∀ x ∈ p0, x.block < W.heap.size := by obtain ⟨m, hm⟩ := k0; exact DataW.trod_lt m _ _ _ hm
  obtain ⟨a0, len0, cap0, L0, rfl, hl0, lm0, w0, wf0⟩ := OP.open_blocks (hval 0 22 v0 rfl rfl) h0
  obtain ⟨a1, rfl, rfl, rfl, w1⟩ := open_int Try.underlying3 (hval 1 3 v1 rfl rfl) h1
  clear hA0 hval0 hsz0
  refine (walk a0 len0 cap0 L0 a1 W hl0 lm0 w0 wf0 w1).mono fun e W' ⟨he, bel⟩ => ?_
  subst he
  exact ⟨_, rfl, _, _, _, [], _, [], hW', trodAll_mk1 (shut_bool Try.underlying4 _), (trodAll_cons_mk (Below.trod laidOut (by kernel_rfl) (of_decide_eq_true (by kernel_rfl)) k0 bel lt0) (trodAll_cons_mk (shut_int Try.underlying3 w1) trodAll_mk0)), rfl, bel.frame _, fun h => by cases h⟩

theorem over : Rows.wearColdsRow.holds Try.pinned (OpenSpec.ofChange Rows.wearColdsSpec) :=
  OpenClaim.holds_of_wide 3 Try.f3 rfl rfl rfl rfl rfl rfl rfl ⟨rfl, rfl, rfl, rfl, rfl⟩ rfl rfl rfl rfl rfl (by kernel_rfl) Try.func3 (by kernel_rfl)
    (of_decide_eq_true (by kernel_rfl)) (by unfold Func.isWrapper; first | (rw [if_pos (by decide +kernel)]; kernel_rfl) | (rw [if_neg (by decide +kernel)]; exact ⟨rfl, rfl⟩))
    (fun os started H enc _ => lifted os started H enc)

theorem proved : Rows.WearColdsSaid := over
#print axioms proved
end Go.Proofs.Ytomncnelkkmalac.wearColds
