/- The law WearVictims holds: its Go text answers true for every input, and leaves its arguments as they were. No condition beyond the statement's own. -/
import Derived.Test.YtomncnelkkmalabRows
import Derived.Test.YtomncnelkkmalabWrW
import Derived.Test.YtomncnelkkmalabOpen8
import Derived.Test.YtomncnelkkmalabOpen
import Derived.ProofKit
import Derived.OpenShut
import Derived.ShutString
import Derived.ChangeOld
import Derived.Below
import Derived.SizedLaws
namespace Go.Proofs.Ytomncnelkkmalab.wearVictims
open Go.ChangeShapes Go.WideShapes Go.ChangeAt Go.RowKit
open Go.ChangeMaps (open_string shut_string)
open Go.Proofs.Ytomncnelkkmalab.FM
set_option linter.unusedVariables false
set_option linter.unusedSimpArgs false

theorem own : ownKnob Try.prog.godebug = none := by kernel_rfl
theorem laidOut : laidOutB Try.prog = true := by kernel_rfl

open MM WR OP

set_option maxHeartbeats 1000000 in
theorem big (a0 : Option Addr) (len0 cap0 : Nat) (L0 : List WR.Bk) (w : World) (lm0 : len0 ≤ maxLen) (hbig : ¬ len0 ≤ 300) :
    Calls Try.prog 8 #[.slice a0 len0 cap0] w fun e w' => e = .returned (.bool true) ∧ Below w.heap.size w w' := by
  have t0 : (300 : Int) < (len0 : Int) := by omega
  unfold maxLen at lm0
  clear hbig
  go_enter Try.func8, Try.ntmps8
  go_wp2_with fail
  refine (awake_any _).mono ?_
  rintro r w2 ⟨rfl, hb2⟩
  have B2 := Lib.hid hb2
  clear hb2
  go_wp2
  go_ret
  exact ⟨rfl, B2.out⟩

set_option maxHeartbeats 4000000 in
theorem few_ (a0 : Option Addr) (len0 cap0 : Nat) (L0 : List WR.Bk) (w : World) (hl0 : len0 = L0.length) (lm0 : len0 ≤ 300) (w0 : Bks w a0 L0) :
    Calls Try.prog 8 #[.slice a0 len0 cap0] w fun e w' => e = .returned (.bool true) ∧ Below w.heap.size w w' := by
  have HX := Lib.hid w0
  have HL := Lib.hid hl0
  have t0 : ¬ (300 : Int) < (len0 : Int) := by omega
  clear hl0 w0
  go_enter Try.func8, Try.ntmps8
  go_wp2_with fail
  refine (awake_any _).mono ?_
  rintro r w1 ⟨rfl, hb1⟩
  have B1 := Lib.hid hb1
  clear hb1
  go_wp2_with fail
  refine (victim_any L0 len0 cap0 HL.out (by omega) a0 _ (HX.out.below B1.out)).mono ?_
  rintro r w3 ⟨q3, rfl, hq3, hb3⟩
  have Q3 := Lib.hid hq3
  have B3 := Lib.hid (below_kept B1.out hb3)
  clear hq3 hb3
  go_wp2_with fail
  refine (refs_any L0 len0 cap0 HL.out (by omega) a0 _ (HX.out.below B3.out)).mono ?_
  rintro r w4 ⟨A4, c4, rfl, hx4, hb4⟩
  have X4 := Lib.hid hx4
  have B4 := Lib.hid (below_kept B3.out hb4)
  clear hx4 hb4
  go_wp2_with fail
  refine (rvictim_any L0 len0 c4 HL.out (by omega) A4 _ X4.out).mono ?_
  rintro r w5 ⟨q5, rfl, hq5, hb5⟩
  obtain rfl := vic_uniq Q3.out hq5
  have B5 := Lib.hid (below_kept B4.out hb5)
  clear hq5 hb5 Q3
  go_wp2
  go_ret
  exact ⟨rfl, B5.out⟩

theorem walk (a0 : Option Addr) (len0 cap0 : Nat) (L0 : List WR.Bk) (w : World) (hl0 : len0 = L0.length) (lm0 : len0 ≤ maxLen) (w0 : WR.Bks w a0 L0) (wf0 : ∀ e ∈ L0, WR.WfB e) :
    Calls Try.prog 8 #[.slice a0 len0 cap0] w fun e w' => e = .returned (.bool true) ∧ Below w.heap.size w w' := by
  by_cases hf : len0 ≤ 300
  · exact few_ a0 len0 cap0 L0 w hl0 hf w0
  · exact big a0 len0 cap0 L0 w lm0 hf

set_option maxRecDepth 100000 in
theorem lifted (os : Os) (started : os.Started) (H : Type) (enc : TypeId × Value → H) :
    ReturnsInHanded {} Try.checked os 8 .any (Rows.wearVictimsSpec.pre6 enc Try.prog Try.f8 Rows.wearVictimsRow.domain false) (Rows.wearVictimsSpec.post enc Try.prog Try.f8 false true false false) := by
  refine returnsInHanded_of_change_sized (C := Try.checked) own started (by kernel_rfl) Try.func8
    (ChangeSpec.witness6 (enc := enc) (C := Try.checked) false ⟨#[], #[.slice none 0 0], []⟩ 8 (by kernel_rfl) (by kernel_rfl) (by kernel_rfl) (by kernel_rfl)) ?_
  intro W base args ds gs before hval0 hW hcnd hsz0 _
  have hval : ∀ (j : Nat) t v, Try.f8.params[j]? = some t → args[j]? = some v → Value.okWide Try.prog W .any base t v := hval0
  have hW' := hW
  obtain ⟨p, q, hA0, hV, rfl, hfz, hnd⟩ := hW
  have hA : DataW.TrodAll enc Try.prog W 0 (fun _ => true) true Try.f8.params.toList args.toList ds p := hA0
  have hsz : (DataW.weightsEach Try.prog (Try.f8.params.toList ++ Rows.wearVictimsSpec.plain.varTypes Try.prog) (ds ++ gs)).all (· ≤ reachBytes) = true := hsz0
  rw [Try.params8] at hA hval hsz
  obtain ⟨v0, vs0, d0, ds0, p0, q0, hargs, rfl, rfl, h0, r0⟩ := trodAll_cons hA
  obtain ⟨rfl, rfl, rfl⟩ := trodAll_nil r0
  obtain rfl : args = #[v0] := by cases args; simp_all
  obtain ⟨rfl, rfl⟩ := trodVars_none hV
  have k0 := h0
  have lt0 : ∀ x ∈ p0, x.block < W.heap.size := by obtain ⟨m, hm⟩ := k0; exact DataW.trod_lt m _ _ _ hm
  obtain ⟨a0, len0, cap0, L0, rfl, hl0, lm0, w0, wf0⟩ := OP.open_blocks (hval 0 48 v0 rfl rfl) h0
  clear hA0 hval0 hsz0
  refine (walk a0 len0 cap0 L0 W hl0 lm0 w0 wf0).mono fun e W' ⟨he, bel⟩ => ?_
  subst he
  exact ⟨_, rfl, _, _, _, [], _, [], hW', trodAll_mk1 (shut_bool Try.underlying4 _), (trodAll_cons_mk (Below.trod laidOut (by kernel_rfl) (of_decide_eq_true (by kernel_rfl)) k0 bel lt0) trodAll_mk0), rfl, bel.frame _, fun h => by cases h⟩

theorem over : Rows.wearVictimsRow.holds Try.pinned (OpenSpec.ofChange Rows.wearVictimsSpec) :=
  OpenClaim.holds_of_wide 8 Try.f8 rfl rfl rfl rfl rfl rfl rfl ⟨rfl, rfl, rfl, rfl, rfl⟩ rfl rfl rfl rfl rfl (by kernel_rfl) Try.func8 (by kernel_rfl)
    (of_decide_eq_true (by kernel_rfl)) (by unfold Func.isWrapper; first | (rw [if_pos (by decide +kernel)]; kernel_rfl) | (rw [if_neg (by decide +kernel)]; exact ⟨rfl, rfl⟩))
    (fun os started H enc _ => lifted os started H enc)

theorem proved : Rows.WearVictimsSaid := over
#print axioms proved
end Go.Proofs.Ytomncnelkkmalab.wearVictims
