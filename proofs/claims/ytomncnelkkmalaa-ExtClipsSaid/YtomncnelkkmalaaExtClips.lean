/- The law ExtClips holds: its Go text answers true for every input, and leaves its arguments as they were. No condition beyond the statement's own. -/
import Derived.Test.YtomncnelkkmalaaRows
import Derived.Test.YtomncnelkkmalaaExH
import Derived.Test.YtomncnelkkmalaaExW
import Derived.Test.YtomncnelkkmalaaOpen7
import Derived.Test.YtomncnelkkmalaaOpen
import Derived.Test.YtomncnelkkmalaaShort
import Derived.ProofKit
import Derived.OpenShut
import Derived.ShutString
import Derived.ChangeOld
import Derived.Below
import Derived.SizedLaws
namespace Go.Proofs.Ytomncnelkkmalaa.extClips
open Go.ChangeShapes Go.WideShapes Go.ChangeAt Go.RowKit
open Go.ChangeMaps (open_string shut_string)
open Go.Proofs.Ytomncnelkkmalaa.FM
set_option linter.unusedVariables false
set_option linter.unusedSimpArgs false

theorem own : ownKnob Try.prog.godebug = none := by kernel_rfl
theorem laidOut : laidOutB Try.prog = true := by kernel_rfl

open MM EX OP

set_option maxHeartbeats 1000000 in
theorem big (a0 : Option Addr) (len0 cap0 : Nat) (L0 : List EX.Ext) (a1 : Int) (a2 : Int) (w : World) (lm0 : len0 ≤ maxLen) (hbig : ¬ len0 ≤ 60) :
    Calls Try.prog 7 #[.slice a0 len0 cap0, .int .i64 a1, .int .i64 a2] w fun e w' => e = .returned (.bool true) ∧ Below w.heap.size w w' := by
  have hf : decide ((len0 : Int) ≤ 60) = false := decide_eq_false (by omega)
  have HF := Lib.hid (few_any len0 cap0 lm0 a0)
  rw [hf] at HF
  clear hf lm0 hbig
  go_enter Try.func7, Try.ntmps7
  go_wp2_with fail
  refine (HF.out _).mono ?_
  rintro r w1 ⟨rfl, rfl⟩
  go_wp2_with fail
  refine (awake_any _).mono ?_
  rintro r w2 ⟨rfl, hb2⟩
  have B2 := Lib.hid hb2
  clear hb2
  go_wp2
  go_ret
  exact ⟨rfl, B2.out⟩

set_option maxHeartbeats 4000000 in
theorem far (a0 : Option Addr) (len0 cap0 : Nat) (L0 : List EX.Ext) (a1 : Int) (a2 : Int) (w : World) (hl0 : len0 = L0.length) (lm0 : len0 ≤ 60) (w0 : Exs w a0 L0) (v : Bool)
    (HCK : Hid (∀ (w1 : World) (A : Option Addr) (n c : Nat), n = L0.length → Exs w1 A L0 → Calls Try.prog 16 #[.slice A n c] w1 fun e w' => e = .returned (.bool v) ∧ Below w1.heap.size w1 w'))
    (HRG : v = true → Hid (∀ w1, Calls Try.prog 21 #[.int .i64 a1, .int .i64 a2] w1 fun e w' => e = .returned (.bool false) ∧ w1 = w'))
    (HCU : Hid (∀ (w1 : World) (A : Option Addr), Exs w1 A L0 → Calls Try.prog 24 #[.slice A len0 cap0, .int .i64 a1, .int .i64 a2] w1 fun r w' => r = .returned (.tuple #[.slice none 0 0, .int .i64 1]) ∧ Below w1.heap.size w1 w')) :
    Calls Try.prog 7 #[.slice a0 len0 cap0, .int .i64 a1, .int .i64 a2] w fun e w' => e = .returned (.bool true) ∧ Below w.heap.size w w' := by
  have HX := Lib.hid w0
  have HL := Lib.hid hl0
  have hf : decide ((len0 : Int) ≤ 60) = true := decide_eq_true (by omega)
  have HF := Lib.hid (few_any len0 cap0 (by unfold maxLen; omega) a0)
  rw [hf] at HF
  clear hf
  have HRC := Lib.hid HRG
  clear hl0 w0 HRG
  go_enter Try.func7, Try.ntmps7
  go_wp2_with fail
  refine (HF.out _).mono ?_
  rintro r w1 ⟨rfl, rfl⟩
  clear HF
  go_wp2_with fail
  refine (refs_any L0 len0 cap0 HL.out (by omega) a0 _ HX.out).mono ?_
  rintro r w1 ⟨A1, n1, c1, rfl, hn1, hx1, hb1⟩
  have N1 := Lib.hid hn1
  have X1 := Lib.hid hx1
  have B1 := Lib.hid hb1
  clear hn1 hx1 hb1
  go_wp2_with fail
  refine (HCU.out _ _ (HX.out.below B1.out)).mono ?_
  rintro r w2 ⟨rfl, hb2⟩
  have X2 := Lib.hid (X1.out.below hb2)
  have B2 := Lib.hid (below_kept B1.out hb2)
  clear hb2
  cases v
  · go_wp2_with fail
    refine (HCK.out _ _ _ _ N1.out X2.out).mono ?_
    rintro r w3 ⟨rfl, hb3⟩
    have B3 := Lib.hid (below_kept B2.out hb3)
    clear hb3
    go_wp2_with fail
    refine (awake_any _).mono ?_
    rintro r w4 ⟨rfl, hb4⟩
    have B4 := Lib.hid (below_kept B3.out hb4)
    clear hb4
    go_wp2
    go_ret
    exact ⟨rfl, B4.out⟩
  · have HR := HRC.out rfl
    clear HRC
    go_wp2_with fail
    refine (HCK.out _ _ _ _ N1.out X2.out).mono ?_
    rintro r w3 ⟨rfl, hb3⟩
    have B3 := Lib.hid (below_kept B2.out hb3)
    clear hb3
    go_wp2_with fail
    refine (HR.out _).mono ?_
    rintro r w9 ⟨rfl, rfl⟩
    go_wp2_with fail
    refine (awake_any _).mono ?_
    rintro r w4 ⟨rfl, hb4⟩
    have B4 := Lib.hid (below_kept B3.out hb4)
    clear hb4
    go_wp2
    go_ret
    exact ⟨rfl, B4.out⟩

set_option maxHeartbeats 4000000 in
theorem yes (a0 : Option Addr) (len0 cap0 : Nat) (L0 : List EX.Ext) (a1 : Int) (a2 : Int) (w : World) (hl0 : len0 = L0.length) (lm0 : len0 ≤ 60) (w0 : Exs w a0 L0) (hv : Valid L0) (hg : Rng a1 a2 16777216) :
    Calls Try.prog 7 #[.slice a0 len0 cap0, .int .i64 a1, .int .i64 a2] w fun e w' => e = .returned (.bool true) ∧ Below w.heap.size w w' := by
  have HX := Lib.hid w0
  have HL := Lib.hid hl0
  have HV := Lib.hid hv
  have hf : decide ((len0 : Int) ≤ 60) = true := decide_eq_true (by omega)
  have HF := Lib.hid (few_any len0 cap0 (by unfold maxLen; omega) a0)
  rw [hf] at HF
  clear hf
  have HR := Lib.hid (rrange_yes a1 a2 hg)
  have hg' := hg
  obtain ⟨g0, g1, g2⟩ := hg
  have HG := Lib.hid hg'
  have e9 : Hid ((clip L0 a1 a2).length ≤ 1000) := Lib.hid (by have := clip_short L0 a1 a2; rw [← hl0] at this; omega)
  clear hl0 w0 hv hg'
  go_enter Try.func7, Try.ntmps7
  go_wp2_with fail
  refine (HF.out _).mono ?_
  rintro r w1 ⟨rfl, rfl⟩
  clear HF
  go_wp2_with fail
  refine (refs_any L0 len0 cap0 HL.out (by omega) a0 _ HX.out).mono ?_
  rintro r w1 ⟨A1, n1, c1, rfl, hn1, hx1, hb1⟩
  have N1 := Lib.hid hn1
  have X1 := Lib.hid hx1
  have B1 := Lib.hid hb1
  clear hn1 hx1 hb1
  go_wp2_with fail
  refine (clip_yes L0 len0 cap0 HL.out (by unfold maxLen; omega) a0 a1 a2 _ (HX.out.below B1.out) HV.out HG.out).mono ?_
  rintro r w2 ⟨A2, n2, c2, rfl, hn2, hx2, hb2⟩
  have N2 := Lib.hid hn2
  have X2 := Lib.hid hx2
  have Y2 := Lib.hid (X1.out.below hb2)
  have B2 := Lib.hid (below_kept B1.out hb2)
  clear hn2 hx2 hb2
  have HCK := Lib.hid (rcheck_any L0 n1 c1 N1.out (by rw [N1.out, ← HL.out]; unfold maxLen; omega) A1 w2 Y2.out)
  rw [decide_eq_true HV.out] at HCK
  go_wp2_with fail
  refine (HCK.out).mono ?_
  rintro r w3 ⟨rfl, hb3⟩
  have X3 := Lib.hid (X2.out.below hb3)
  have Y3 := Lib.hid (Y2.out.below hb3)
  have B3 := Lib.hid (below_kept B2.out hb3)
  clear hb3 HCK
  go_wp2_with fail
  refine (HR.out _).mono ?_
  rintro r w9 ⟨rfl, rfl⟩
  clear HR
  go_wp2_with fail
  refine (awake_any _).mono ?_
  rintro r w4 ⟨rfl, hb4⟩
  have X4 := Lib.hid (X3.out.below hb4)
  have Y4 := Lib.hid (Y3.out.below hb4)
  have B4 := Lib.hid (below_kept B3.out hb4)
  clear hb4
  have HH := Lib.hid (holds_yes (clip L0 a1 a2) L0 L0 [] n2 c2 len0 cap0 n1 c1 0 0 N2.out HL.out N1.out rfl (by rw [N2.out]; exact e9.out) (by omega) (by rw [N1.out, ← HL.out]; omega) (by omega) A2 a0 A1 none a1 a2 g0 g1 g2 w4 X4.out (HX.out.below B4.out) Y4.out (.inl rfl) (clip_ok HV.out a1 a2) HV.out.1 HV.out.1 (fun _ h => (List.not_mem_nil h).elim) (fun s => by rw [clip_say HV.out a1 a2 s]; rfl))
  go_wp2_with fail
  refine (HH.out).mono ?_
  rintro r w5 ⟨rfl, hb5⟩
  have B5 := Lib.hid (below_kept B4.out hb5)
  clear hb5 HH
  go_wp2
  go_ret
  exact ⟨rfl, B5.out⟩

theorem i64_le {x : Int} (h : (Lit.int .i64 x).wf = true) : x ≤ 9223372036854775807 := (i64_of h).2
theorem walk (a0 : Option Addr) (len0 cap0 : Nat) (L0 : List EX.Ext) (a1 : Int) (a2 : Int) (w : World) (hl0 : len0 = L0.length) (lm0 : len0 ≤ maxLen) (w0 : EX.Exs w a0 L0) (wf0 : ∀ e ∈ L0, EX.WfE e) (w1 : (Lit.int .i64 a1).wf = true) (w2 : (Lit.int .i64 a2).wf = true) :
    Calls Try.prog 7 #[.slice a0 len0 cap0, .int .i64 a1, .int .i64 a2] w fun e w' => e = .returned (.bool true) ∧ Below w.heap.size w w' := by
  by_cases hf : len0 ≤ 60
  · by_cases hv : Valid L0
    · by_cases hg : Rng a1 a2 16777216
      · exact yes a0 len0 cap0 L0 a1 a2 w hl0 hf w0 hv hg
      · refine far a0 len0 cap0 L0 a1 a2 w hl0 hf w0 true ?_ (fun _ => Lib.hid (rrange_no a1 a2 hg)) ?_
        · exact Lib.hid fun w1 A n c h1 h2 => by have h3 := rcheck_any L0 n c h1 (by rw [h1, ← hl0]; unfold maxLen; omega) A w1 h2; rw [decide_eq_true hv] at h3; exact h3
        · exact Lib.hid fun wq A h1 => clip_far L0 len0 cap0 hl0 lm0 A a1 a2 (i64_le w1) wq h1 wf0 hv hg
    · refine far a0 len0 cap0 L0 a1 a2 w hl0 hf w0 false ?_ (fun h => by cases h) ?_
      · exact Lib.hid fun w1 A n c h1 h2 => by have h3 := rcheck_any L0 n c h1 (by rw [h1, ← hl0]; unfold maxLen; omega) A w1 h2; rw [decide_eq_false hv] at h3; exact h3
      · exact Lib.hid fun w1 A h1 => clip_bad L0 len0 cap0 hl0 lm0 A a1 a2 w1 h1 wf0 hv
  · exact big a0 len0 cap0 L0 a1 a2 w lm0 hf

set_option maxRecDepth 100000 in
theorem lifted (os : Os) (started : os.Started) (H : Type) (enc : TypeId × Value → H) :
    ReturnsInHanded {} Try.checked os 7 .any (Rows.extClipsSpec.pre6 enc Try.prog Try.f7 Rows.extClipsRow.domain false) (Rows.extClipsSpec.post enc Try.prog Try.f7 false true false false) := by
  refine returnsInHanded_of_change_sized (C := Try.checked) own started (by kernel_rfl) Try.func7
    (ChangeSpec.witness6 (enc := enc) (C := Try.checked) false ⟨#[], #[.slice none 0 0, .int .i64 0, .int .i64 0], []⟩ 8 (by kernel_rfl) (by kernel_rfl) (by kernel_rfl) (by kernel_rfl)) ?_
  intro W base args ds gs before hval0 hW hcnd hsz0 _
  have hval : ∀ (j : Nat) t v, Try.f7.params[j]? = some t → args[j]? = some v → Value.okWide Try.prog W .any base t v := hval0
  have hW' := hW
  obtain ⟨p, q, hA0, hV, rfl, hfz, hnd⟩ := hW
  have hA : DataW.TrodAll enc Try.prog W 0 (fun _ => true) true Try.f7.params.toList args.toList ds p := hA0
  have hsz : (DataW.weightsEach Try.prog (Try.f7.params.toList ++ Rows.extClipsSpec.plain.varTypes Try.prog) (ds ++ gs)).all (· ≤ reachBytes) = true := hsz0
  rw [Try.params7] at hA hval hsz
  obtain ⟨v0, vs0, d0, ds0, p0, q0, hargs, rfl, rfl, h0, r0⟩ := trodAll_cons hA
  obtain ⟨v1, vs1, d1, ds1, p1, q1, rfl, rfl, rfl, h1, r1⟩ := trodAll_cons r0
  obtain ⟨v2, vs2, d2, ds2, p2, q2, rfl, rfl, rfl, h2, r2⟩ := trodAll_cons r1
  obtain ⟨rfl, rfl, rfl⟩ := trodAll_nil r2
  obtain rfl : args = #[v0, v1, v2] := by cases args; simp_all
  obtain ⟨rfl, rfl⟩ := trodVars_none hV
  have k0 := h0
  have lt0 : ∀ x ∈ p0, x.block < W.heap.size := by obtain ⟨m, hm⟩ := k0; exact DataW.trod_lt m _ _ _ hm
  obtain ⟨a0, len0, cap0, L0, rfl, hl0, lm0, w0, wf0⟩ := OP.open_exts (hval 0 22 v0 rfl rfl) h0
  obtain ⟨a1, rfl, rfl, rfl, w1⟩ := open_int Try.underlying3 (hval 1 3 v1 rfl rfl) h1
  obtain ⟨a2, rfl, rfl, rfl, w2⟩ := open_int Try.underlying3 (hval 2 3 v2 rfl rfl) h2
  clear hA0 hval0 hsz0
  refine (walk a0 len0 cap0 L0 a1 a2 W hl0 lm0 w0 wf0 w1 w2).mono fun e W' ⟨he, bel⟩ => ?_
  subst he
  exact ⟨_, rfl, _, _, _, [], _, [], hW', trodAll_mk1 (shut_bool Try.underlying4 _), (trodAll_cons_mk (Below.trod laidOut (by kernel_rfl) (of_decide_eq_true (by kernel_rfl)) k0 bel lt0) (trodAll_cons_mk (shut_int Try.underlying3 w1) (trodAll_cons_mk (shut_int Try.underlying3 w2) trodAll_mk0))), rfl, bel.frame _, fun h => by cases h⟩

theorem over : Rows.extClipsRow.holds Try.pinned (OpenSpec.ofChange Rows.extClipsSpec) :=
  OpenClaim.holds_of_wide 7 Try.f7 rfl rfl rfl rfl rfl rfl rfl ⟨rfl, rfl, rfl, rfl, rfl⟩ rfl rfl rfl rfl rfl (by kernel_rfl) Try.func7 (by kernel_rfl)
    (of_decide_eq_true (by kernel_rfl)) (by unfold Func.isWrapper; first | (rw [if_pos (by decide +kernel)]; kernel_rfl) | (rw [if_neg (by decide +kernel)]; exact ⟨rfl, rfl⟩))
    (fun os started H enc _ => lifted os started H enc)

theorem proved : Rows.ExtClipsSaid := over
#print axioms proved
end Go.Proofs.Ytomncnelkkmalaa.extClips
