/- The law LeafUnder holds: its Go text answers true for every input, and leaves its arguments as they were. No condition beyond the statement's own. -/
import Derived.Test.YtmndbdkodijlbaaRows
import Derived.Test.YtmndbdkodijlbaaLfQ
import Derived.Test.YtmndbdkodijlbaaOpen9
import Derived.Test.YtmndbdkodijlbaaOpen
import Derived.ProofKit
import Derived.OpenShut
import Derived.ShutString
import Derived.ChangeOld
import Derived.Below
import Derived.SizedLaws
namespace Go.Proofs.Ytmndbdkodijlbaa.leafUnder
open Go.ChangeShapes Go.WideShapes Go.ChangeAt Go.RowKit
open Go.ChangeMaps (open_string shut_string)
open Go.Proofs.Ytmndbdkodijlbaa.FM
set_option linter.unusedVariables false
set_option linter.unusedSimpArgs false

theorem own : ownKnob Try.prog.godebug = none := by kernel_rfl
theorem laidOut : laidOutB Try.prog = true := by kernel_rfl

open MM EX OP LF FM

theorem big (a0 : Option Addr) (len0 cap0 : Nat) (a1 : Int) (w : World) (hbig : ¬ len0 ≤ 300) :
    Calls Try.prog 7 #[.slice a0 len0 cap0, .int .i64 a1] w fun e w' => e = .returned (.bool true) ∧ Below w.heap.size w w' := by
  have hf : (300 : Int) < (len0 : Int) := by omega
  clear hbig
  go_enter Try.func7, Try.ntmps7
  go_wp2_with fail
  refine (LF.awake_any _).mono ?_
  rintro r w2 ⟨rfl, hb2⟩
  go_wp2
  go_ret
  exact ⟨rfl, hb2⟩

set_option maxHeartbeats 2000000 in
theorem walk (a0 : Option Addr) (len0 cap0 : Nat) (L0 : List LF.Kid) (a1 : Int) (w : World) (hl0 : len0 = L0.length) (lm0 : len0 ≤ maxLen) (w0 : LF.Kds w a0 L0) (wf0 : ∀ e ∈ L0, OP.WfK e) (lc0 : len0 ≤ cap0) (w1 : (Lit.int .i64 a1).wf = true) :
    Calls Try.prog 7 #[.slice a0 len0 cap0, .int .i64 a1] w fun e w' => e = .returned (.bool true) ∧ Below w.heap.size w w' := by
  by_cases hbig : len0 ≤ 300
  · have hf : ¬ (300 : Int) < (len0 : Int) := by omega
    have HU := Lib.hid (fun w1 (h : Below w.heap.size w w1) => under_any L0 len0 cap0 hl0 (by omega) a0 a1 w1 (w0.below h))
    have HR := Lib.hid (fun w1 (h : Below w.heap.size w w1) => krefs_any L0 len0 cap0 hl0 (by omega) a0 w1 (w0.below h))
    have HL := Lib.hid hl0
    have HB := Lib.hid hbig
    obtain ⟨u, hu⟩ : ∃ u : Int, u = ((und L0 a1 len0 : Nat) : Int) := ⟨_, rfl⟩
    have HUE := Lib.hid hu
    rw [← hu] at HU
    clear hl0 w0 wf0 hu hbig lm0 lc0
    go_enter Try.func7, Try.ntmps7
    go_wp2_with fail
    refine (LF.awake_any _).mono ?_
    rintro r w2 ⟨rfl, hb2⟩
    have B2 := Lib.hid hb2
    clear hb2
    go_wp2_with fail
    refine (HU.out _ B2.out).mono ?_
    rintro r w3 ⟨rfl, hb3⟩
    have B3 := Lib.hid (bkept B2.out hb3)
    clear hb3
    go_wp2_with fail
    refine (HR.out _ B3.out).mono ?_
    rintro r w4 ⟨A, n, c, rfl, hn, hx, hb4⟩
    obtain rfl : n = len0 := by rw [hn, HL.out]
    have B4 := Lib.hid (bkept B3.out hb4)
    have HRU := Lib.hid (runder_any L0 n c hn (by have := HB.out; omega) A a1 w4 hx)
    rw [← HUE.out] at HRU
    clear hb4 hn hx
    go_wp2_with fail
    refine HRU.out.mono ?_
    rintro r w5 ⟨rfl, rfl⟩
    go_wp2
    go_ret
    exact ⟨by simp, B4.out⟩
  · exact big a0 len0 cap0 a1 w hbig

set_option maxRecDepth 100000 in
theorem lifted (os : Os) (started : os.Started) (H : Type) (enc : TypeId × Value → H) :
    ReturnsInHanded {} Try.checked os 7 .any (Rows.leafUnderSpec.pre6 enc Try.prog Try.f7 Rows.leafUnderRow.domain false) (Rows.leafUnderSpec.post enc Try.prog Try.f7 false true false false) := by
  refine returnsInHanded_of_change_sized (C := Try.checked) own started (by kernel_rfl) Try.func7
    (ChangeSpec.witness6 (enc := enc) (C := Try.checked) false ⟨#[], #[.slice none 0 0, .int .i64 0], []⟩ 8 (by kernel_rfl) (by kernel_rfl) (by kernel_rfl) (by kernel_rfl)) ?_
  intro W base args ds gs before hval0 hW hcnd hsz0 _
  have hval : ∀ (j : Nat) t v, Try.f7.params[j]? = some t → args[j]? = some v → Value.okWide Try.prog W .any base t v := hval0
  have hW' := hW
  obtain ⟨p, q, hA0, hV, rfl, hfz, hnd⟩ := hW
  have hA : DataW.TrodAll enc Try.prog W 0 (fun _ => true) true Try.f7.params.toList args.toList ds p := hA0
  have hsz : (DataW.weightsEach Try.prog (Try.f7.params.toList ++ Rows.leafUnderSpec.plain.varTypes Try.prog) (ds ++ gs)).all (· ≤ reachBytes) = true := hsz0
  rw [Try.params7] at hA hval hsz
  obtain ⟨v0, vs0, d0, ds0, p0, q0, hargs, rfl, rfl, h0, r0⟩ := trodAll_cons hA
  obtain ⟨v1, vs1, d1, ds1, p1, q1, rfl, rfl, rfl, h1, r1⟩ := trodAll_cons r0
  obtain ⟨rfl, rfl, rfl⟩ := trodAll_nil r1
  obtain rfl : args = #[v0, v1] := by cases args; simp_all
  obtain ⟨rfl, rfl⟩ := trodVars_none hV
  have k0 := h0
  have lt0 : ∀ x ∈ p0, x.block < W.heap.size := by obtain ⟨m, hm⟩ := k0; exact DataW.trod_lt m _ _ _ hm
  obtain ⟨a0, len0, cap0, L0, rfl, hl0, lm0, w0, wf0, lc0⟩ := OP.open_kids (hval 0 32 v0 rfl rfl) h0
  obtain ⟨a1, rfl, rfl, rfl, w1⟩ := open_int Try.underlying3 (hval 1 3 v1 rfl rfl) h1
  clear hA0 hval0 hsz0
  refine (walk a0 len0 cap0 L0 a1 W hl0 lm0 w0 wf0 lc0 w1).mono fun e W' ⟨he, bel⟩ => ?_
  subst he
  exact ⟨_, rfl, _, _, _, [], _, [], hW', trodAll_mk1 (shut_bool Try.underlying4 _), (trodAll_cons_mk (Below.trod laidOut (by kernel_rfl) (of_decide_eq_true (by kernel_rfl)) k0 bel lt0) (trodAll_cons_mk (shut_int Try.underlying3 w1) trodAll_mk0)), rfl, bel.frame _, fun h => by cases h⟩

theorem over : Rows.leafUnderRow.holds Try.pinned (OpenSpec.ofChange Rows.leafUnderSpec) :=
  OpenClaim.holds_of_wide 7 Try.f7 rfl rfl rfl rfl rfl rfl rfl ⟨rfl, rfl, rfl, rfl, rfl⟩ rfl rfl rfl rfl rfl (by kernel_rfl) Try.func7 (by kernel_rfl)
    (of_decide_eq_true (by kernel_rfl)) (by unfold Func.isWrapper; first | (rw [if_pos (by decide +kernel)]; kernel_rfl) | (rw [if_neg (by decide +kernel)]; exact ⟨rfl, rfl⟩))
    (fun os started H enc _ => lifted os started H enc)

theorem proved : Rows.LeafUnderSaid := over
#print axioms proved
end Go.Proofs.Ytmndbdkodijlbaa.leafUnder
