/- The law CheckOpens holds: its Go text answers true for every input, and leaves its arguments as they were. No condition beyond the statement's own. -/
import Derived.Test.YtbabeiehdjccpabRows
import Derived.Test.YtbabeiehdjccpabAwake2
import Derived.Test.YtbabeiehdjccpabRef2
import Derived.ProofKit
import Derived.OpenShut
import Derived.ShutString
import Derived.ChangeOld
import Derived.Below
import Derived.SizedLaws
namespace Go.Proofs.Ytbabeiehdjccpab.checkOpens
open Go.ChangeShapes Go.WideShapes Go.ChangeAt Go.RowKit
open Go.ChangeMaps (open_string shut_string)
open Go.Proofs.Ytbabeiehdjccpab.FM
set_option linter.unusedVariables false
set_option linter.unusedSimpArgs false

theorem own : ownKnob Try.prog.godebug = none := by kernel_rfl
theorem laidOut : laidOutB Try.prog = true := by kernel_rfl

open Go.Proofs.Ytbabeiehdjccpab.CM

set_option maxHeartbeats 1600000 in
/-- Both answer alike: the law answers true. -/
theorem alike (a0 : ByteArray) (hlen : ¬ 20000 < a0.size) (B : ByteArray) (k : Int)
    (H1 : Hid (∀ w, Calls Try.prog 21 #[.string a0] w fun e w' => e = .returned (.tuple #[.string B, .int .i64 k]) ∧ Below w.heap.size w w'))
    (H2 : Hid (∀ w, Calls Try.prog 22 #[.string a0] w fun e w' => e = .returned (.tuple #[.string B, .int .i64 k]) ∧ Below w.heap.size w w')) (w : World) :
    Calls Try.prog 8 #[.string a0] w fun e w' => e = .returned (.bool true) ∧ Below w.heap.size w w' := by
  go_enter Try.func8, Try.ntmps8
  go_wp2_with fail
  refine (H1.out _).mono ?_
  rintro e w1 ⟨rfl, hb1⟩
  go_wp2_with fail
  refine (H2.out _).mono ?_
  rintro e w2 ⟨rfl, hb2⟩
  go_wp2_with fail
  refine (CM.awake_any _).mono ?_
  rintro e w3 ⟨rfl, hb3⟩
  have hb : Below w.heap.size w w3 := hb1.trans ((hb2.mono hb1.size).trans (hb3.mono (Nat.le_trans hb1.size hb2.size)))
  go_wp2
  go_ret
  exact ⟨rfl, hb⟩

set_option maxHeartbeats 1600000 in
theorem walk (a0 : ByteArray) (w : World) (w0 : a0.size ≤ 140737488351232) :
    Calls Try.prog 8 #[.string a0] w fun e w' => e = .returned (.bool true) ∧ Below w.heap.size w w' := by
  by_cases hlen : 20000 < a0.size
  · go_enter Try.func8, Try.ntmps8
    go_wp2_with fail
    refine (CM.awake_any _).mono ?_
    rintro e w1 ⟨rfl, hb1⟩
    go_wp2
    go_ret
    exact ⟨rfl, hb1⟩
  · have hs : a0.size ≤ 140737488355328 := by omega
    by_cases h4 : a0.size < 4
    · exact alike a0 hlen _ _ (Lib.hid fun w => (open_short a0 h4 w).mono fun e w' h => ⟨h.1, h.2 ▸ Below.refl _ _⟩) (Lib.hid fun w => (ropen_short a0 h4 w).mono fun e w' h => ⟨h.1, h.2 ▸ Below.refl _ _⟩) w
    · by_cases hok : sealOk a0.data.toList
      · exact alike a0 hlen _ _ (Lib.hid (open_ok a0 hs (by omega) hok)) (Lib.hid (ropen_ok a0 hs (by omega) hok)) w
      · exact alike a0 hlen _ _ (Lib.hid (open_bad a0 hs (by omega) hok)) (Lib.hid (ropen_bad a0 hs (by omega) hok)) w

set_option maxRecDepth 100000 in
theorem lifted (os : Os) (started : os.Started) (H : Type) (enc : TypeId × Value → H) :
    ReturnsInHanded {} Try.checked os 8 .any (Rows.checkOpensSpec.pre6 enc Try.prog Try.f8 Rows.checkOpensRow.domain false) (Rows.checkOpensSpec.post enc Try.prog Try.f8 false true false false) := by
  refine returnsInHanded_of_change_sized (C := Try.checked) own started (by kernel_rfl) Try.func8
    (ChangeSpec.witness6 (enc := enc) (C := Try.checked) false ⟨#[], #[.string ByteArray.empty], []⟩ 8 (by kernel_rfl) (by kernel_rfl) (by kernel_rfl) (by kernel_rfl)) ?_
  intro W base args ds gs before hval0 hW hcnd hsz0 _
  have hval : ∀ (j : Nat) t v, Try.f8.params[j]? = some t → args[j]? = some v → Value.okWide Try.prog W .any base t v := hval0
  have hW' := hW
  obtain ⟨p, q, hA0, hV, rfl, hfz, hnd⟩ := hW
  have hA : DataW.TrodAll enc Try.prog W 0 (fun _ => true) true Try.f8.params.toList args.toList ds p := hA0
  have hsz : (DataW.weightsEach Try.prog (Try.f8.params.toList ++ Rows.checkOpensSpec.plain.varTypes Try.prog) (ds ++ gs)).all (· ≤ reachBytes) = true := hsz0
  rw [Try.params8] at hA hval hsz
  obtain ⟨v0, vs0, d0, ds0, p0, q0, hargs, rfl, rfl, h0, r0⟩ := trodAll_cons hA
  obtain ⟨rfl, rfl, rfl⟩ := trodAll_nil r0
  obtain rfl : args = #[v0] := by cases args; simp_all
  obtain ⟨rfl, rfl⟩ := trodVars_none hV
  obtain ⟨a0, rfl, rfl, rfl, m0⟩ := open_string Try.underlying9 (hval 0 9 v0 rfl rfl) h0
  have w0 : a0.size ≤ 140737488351232 := by have := sized_string hsz (j := 0) (t := 9) (bytes := a0.data.toList) rfl rfl; simpa [reachBytes] using this
  clear hA0 hval0 hsz0
  refine (walk a0 W w0).mono fun e W' ⟨he, bel⟩ => ?_
  subst he
  exact ⟨_, rfl, _, _, _, [], _, [], hW', trodAll_mk1 (shut_bool Try.underlying4 _), (trodAll_cons_mk (shut_string Try.underlying9 m0) trodAll_mk0), rfl, bel.frame _, fun h => by cases h⟩

theorem over : Rows.checkOpensRow.holds Try.pinned (OpenSpec.ofChange Rows.checkOpensSpec) :=
  OpenClaim.holds_of_wide 8 Try.f8 rfl rfl rfl rfl rfl rfl rfl ⟨rfl, rfl, rfl, rfl, rfl⟩ rfl rfl rfl rfl rfl (by kernel_rfl) Try.func8 (by kernel_rfl)
    (of_decide_eq_true (by kernel_rfl)) (by unfold Func.isWrapper; first | (rw [if_pos (by decide +kernel)]; kernel_rfl) | (rw [if_neg (by decide +kernel)]; exact ⟨rfl, rfl⟩))
    (fun os started H enc _ => lifted os started H enc)

theorem proved : Rows.CheckOpensSaid := over
#print axioms proved
end Go.Proofs.Ytbabeiehdjccpab.checkOpens
