/- The law ExtWhole holds: its Go text answers true for every input, and leaves its arguments as they were. No condition beyond the statement's own. -/
import Derived.Test.YtomncnelkkmalabRows
import Derived.Test.YtomncnelkkmalabExU
import Derived.Test.YtomncnelkkmalabExL
import Derived.Test.YtomncnelkkmalabExMath4
import Derived.Test.YtomncnelkkmalabShort
import Derived.Test.YtomncnelkkmalabExR4
import Derived.Test.YtomncnelkkmalabExW
import Derived.Test.YtomncnelkkmalabOpen7
import Derived.Test.YtomncnelkkmalabOpen
import Derived.ProofKit
import Derived.OpenShut
import Derived.ShutString
import Derived.ChangeOld
import Derived.Below
import Derived.SizedLaws
namespace Go.Proofs.Ytomncnelkkmalab.extWhole
open Go.ChangeShapes Go.WideShapes Go.ChangeAt Go.RowKit
open Go.ChangeMaps (open_string shut_string)
open Go.Proofs.Ytomncnelkkmalab.FM
set_option linter.unusedVariables false
set_option linter.unusedSimpArgs false

theorem own : ownKnob Try.prog.godebug = none := by kernel_rfl
theorem laidOut : laidOutB Try.prog = true := by kernel_rfl

open MM EX OP

set_option maxHeartbeats 1000000 in
theorem big (a0 : Option Addr) (len0 cap0 : Nat) (L0 : List EX.Ext) (a1 a2 : Int) (w : World) (lm0 : len0 ≤ maxLen) (hbig : ¬ len0 ≤ 60) :
    Calls Try.prog 4 #[.slice a0 len0 cap0, .int .i64 a1, .int .i64 a2] w fun e w' => e = .returned (.bool true) ∧ Below w.heap.size w w' := by
  have hf : decide ((len0 : Int) ≤ 60) = false := decide_eq_false (by omega)
  have HF := Lib.hid (few_any len0 cap0 lm0 a0)
  rw [hf] at HF
  clear hf lm0 hbig
  go_enter Try.func4, Try.ntmps4
  go_wp2_with fail
  refine (HF.out _).mono ?_
  rintro r w1 ⟨rfl, rfl⟩
  go_wp2_with fail
  refine (awake_any _).mono ?_
  rintro r w2 ⟨rfl, hb2⟩
  have B2 := Lib.hid hb2
  clear hb2
  go_wp2
  go_ret
  exact ⟨rfl, B2.out⟩

set_option maxHeartbeats 4000000 in
theorem few_ (a0 : Option Addr) (len0 cap0 : Nat) (L0 : List EX.Ext) (a1 a2 : Int) (w : World) (hl0 : len0 = L0.length) (lm0 : len0 ≤ 60) (w0 : Exs w a0 L0) (wf0 : ∀ e ∈ L0, WfE e) (u1 : a1 ≤ 9223372036854775807) :
    Calls Try.prog 4 #[.slice a0 len0 cap0, .int .i64 a1, .int .i64 a2] w fun e w' => e = .returned (.bool true) ∧ Below w.heap.size w w' := by
  have HX := Lib.hid w0
  have HL := Lib.hid hl0
  have hf : decide ((len0 : Int) ≤ 60) = true := decide_eq_true (by omega)
  have HF := Lib.hid (few_any len0 cap0 (by unfold maxLen; omega) a0)
  rw [hf] at HF
  clear hf
  have HC1 := Lib.hid (clip_any L0 len0 cap0 hl0 (by unfold maxLen; omega) a0 a1 a2 u1 w w0 wf0)
  have HC2 := Lib.hid (fun w1 (h : Below w.heap.size w w1) => cut_any L0 len0 cap0 hl0 (by unfold maxLen; omega) a0 a1 a2 u1 w1 (w0.below h) wf0)
  have hshort : (clip L0 a1 a2).length ≤ 60 := by have := clip_short L0 a1 a2; omega
  have HSH := Lib.hid hshort
  clear hl0 w0 wf0 u1 hshort
  go_enter Try.func4, Try.ntmps4
  go_wp2_with fail
  refine (HF.out _).mono ?_
  rintro r w1 ⟨rfl, rfl⟩
  clear HF
  go_wp2_with fail
  refine HC1.out.mono ?_
  rintro r w2 h2
  rcases h2 with ⟨⟨hv, hg⟩, A2, n2, c2, rfl, hn2, hx2, hb2⟩ | ⟨hno, rfl, hb2⟩
  · have hn60 : n2 ≤ 60 := by rw [hn2]; exact HSH.out
    have N2 := Lib.hid hn2
    have X2 := Lib.hid hx2
    have HV := Lib.hid hv
    have HG := Lib.hid hg
    have B2 := Lib.hid hb2
    clear hn2 hx2 hv hg hb2 HC1
    go_wp2_with fail
    refine (HC2.out _ B2.out).mono ?_
    rintro r w3 h3
    rcases h3 with ⟨_, A3, n3, c3, rfl, hn3, hx3, hb3⟩ | ⟨hno3, _⟩
    · have N3 := Lib.hid hn3
      have X3 := Lib.hid hx3
      have X23 := Lib.hid (X2.out.below hb3)
      have B3 := Lib.hid (below_kept B2.out hb3)
      have HCL := Lib.hid (clip_ok HV.out a1 a2)
      have HCU := Lib.hid (cut_ok HV.out (f := a1) HG.out.2.1)
      clear hn3 hx3 hb3
      go_wp2
      go_loopw [9, 10, 11] (fun x y i wr => ∃ (k : Nat) (A : Option Addr) (n c : Nat), k ≤ n2 ∧ i = .int .i64 k ∧ y = .int .i64 0 ∧ x = .slice A n c ∧ Hid (n = (overAll (cut L0 a1 a2) ((clip L0 a1 a2).take k)).length) ∧ Hid (Exs wr A (overAll (cut L0 a1 a2) ((clip L0 a1 a2).take k))) ∧ Below w3.heap.size w3 wr) (fun _ _ i _ => n2 - (intOf i).toNat)
      case atStart => exact ⟨0, A3, n3, c3, Nat.zero_le _, rfl, rfl, rfl, Lib.hid (by rw [N3.out]; rfl), Lib.hid X3.out, Below.refl _ _⟩
      case round =>
        obtain ⟨k, A, n, c, hk, rfl, rfl, rfl, hn, hx, hbel⟩ := hrel
        have BL := Lib.hid hbel
        have hov := overAll_say HCU.out (HCL.out.wv.take k)
        by_cases hlt : k < n2
        · obtain ⟨e, he⟩ : ∃ e, (clip L0 a1 a2)[k]? = some e := ⟨_, List.getElem?_eq_getElem (by rw [← N2.out]; exact hlt)⟩
          have ho := valid_at HCL.out he
          obtain ⟨b, off, rfl, p0, p1, p2, p3⟩ := exs_get (X23.out.below hbel) he
          have hln : n ≤ maxLen := by rw [hn.out]; have := valid_len hov.1; unfold maxLen; omega
          have HO := Lib.hid (over_yes _ n c hn.out hln A e wr hx.out hov.1 ho)
          have HT : Hid (overAll (cut L0 a1 a2) ((clip L0 a1 a2).take (k + 1)) = over (overAll (cut L0 a1 a2) ((clip L0 a1 a2).take k)) e) := by show _ = _; rw [take_snoc he, overAll_snoc]
          have t1 : (k : Int) < (n2 : Int) := by omega
          have t2 : (0 : Int) ≤ (k : Int) := by omega
          have t3 : (k : Int) < 80 := by omega
          clear he ho hov hln hbel
          go_wp2_with fail
          refine HO.out.mono ?_
          rintro r w5 ⟨A5, n5, c5, rfl, hn5, hx5, hb5⟩
          have N5 := Lib.hid hn5
          have X5 := Lib.hid hx5
          have B5 := Lib.hid (below_kept BL.out hb5)
          clear hn5 hx5 hb5 HO
          go_wp2
          go_roundw
          case rel => exact ⟨k + 1, A5, n5, c5, by omega, by go_num, rfl, rfl, Lib.hid (by rw [HT.out]; exact N5.out), Lib.hid (by rw [HT.out]; exact X5.out), B5.out⟩
          case measure => simp [intOf]; omega
        · obtain rfl : k = n2 := by omega
          have i0' : decide ((k : Int) < (k : Int)) = false := decide_eq_false (by omega)
          have hfin : overAll (cut L0 a1 a2) ((clip L0 a1 a2).take k) = L0 := by rw [List.take_of_length_le (by rw [← N2.out]; exact Nat.le_refl _)]; exact whole HV.out HG.out.1 HG.out.2.1 HG.out.2.2
          have HN : Hid (n = L0.length) := by show _ = _; rw [hn.out, hfin]
          have HXF : Hid (Exs wr A L0) := by have h := hx.out; rw [hfin] at h; exact h
          have B4 := Lib.hid (below_kept B3.out hbel)
          have hnn : n = len0 := by rw [HN.out, HL.out]
          subst hnn
          clear hov hfin hbel
          go_wp2_with fail
          refine (awake_any _).mono ?_
          rintro r w6 ⟨rfl, hb6⟩
          have HAL := Lib.hid (alike_yes L0 n c cap0 HN.out (by omega) A a0 w6 (HXF.out.below hb6) (HX.out.below (below_kept B4.out hb6)))
          have B6 := Lib.hid (below_kept B4.out hb6)
          clear hb6
          go_wp2_with fail
          refine HAL.out.mono ?_
          rintro r w7 ⟨rfl, hb7⟩
          have B7 := Lib.hid (below_kept B6.out hb7)
          clear hb7 HAL
          go_wp2
          go_ret
          exact ⟨rfl, B7.out⟩
    · exact absurd ⟨HV.out, HG.out⟩ hno3
  · have B2 := Lib.hid hb2
    have HNO := Lib.hid hno
    clear hb2 hno HC1
    go_wp2_with fail
    refine (HC2.out _ B2.out).mono ?_
    rintro r w3 h3
    rcases h3 with ⟨hok, _⟩ | ⟨_, rfl, hb3⟩
    · exact absurd hok HNO.out
    · have B3 := Lib.hid (below_kept B2.out hb3)
      clear hb3
      go_wp2_with fail
      refine (awake_any _).mono ?_
      rintro r w9 ⟨rfl, hb9⟩
      have B9 := Lib.hid (below_kept B3.out hb9)
      clear hb9
      go_wp2
      go_ret
      exact ⟨rfl, B9.out⟩

theorem walk (a0 : Option Addr) (len0 cap0 : Nat) (L0 : List EX.Ext) (a1 : Int) (a2 : Int) (w : World) (hl0 : len0 = L0.length) (lm0 : len0 ≤ maxLen) (w0 : EX.Exs w a0 L0) (wf0 : ∀ e ∈ L0, EX.WfE e) (w1 : (Lit.int .i64 a1).wf = true) (w2 : (Lit.int .i64 a2).wf = true) :
    Calls Try.prog 4 #[.slice a0 len0 cap0, .int .i64 a1, .int .i64 a2] w fun e w' => e = .returned (.bool true) ∧ Below w.heap.size w w' := by
  by_cases hf : len0 ≤ 60
  · exact few_ a0 len0 cap0 L0 a1 a2 w hl0 hf w0 wf0 (i64_of w1).2
  · exact big a0 len0 cap0 L0 a1 a2 w lm0 hf

set_option maxRecDepth 100000 in
theorem lifted (os : Os) (started : os.Started) (H : Type) (enc : TypeId × Value → H) :
    ReturnsInHanded {} Try.checked os 4 .any (Rows.extWholeSpec.pre6 enc Try.prog Try.f4 Rows.extWholeRow.domain false) (Rows.extWholeSpec.post enc Try.prog Try.f4 false true false false) := by
  refine returnsInHanded_of_change_sized (C := Try.checked) own started (by kernel_rfl) Try.func4
    (ChangeSpec.witness6 (enc := enc) (C := Try.checked) false ⟨#[], #[.slice none 0 0, .int .i64 0, .int .i64 0], []⟩ 8 (by kernel_rfl) (by kernel_rfl) (by kernel_rfl) (by kernel_rfl)) ?_
  intro W base args ds gs before hval0 hW hcnd hsz0 _
  have hval : ∀ (j : Nat) t v, Try.f4.params[j]? = some t → args[j]? = some v → Value.okWide Try.prog W .any base t v := hval0
  have hW' := hW
  obtain ⟨p, q, hA0, hV, rfl, hfz, hnd⟩ := hW
  have hA : DataW.TrodAll enc Try.prog W 0 (fun _ => true) true Try.f4.params.toList args.toList ds p := hA0
  have hsz : (DataW.weightsEach Try.prog (Try.f4.params.toList ++ Rows.extWholeSpec.plain.varTypes Try.prog) (ds ++ gs)).all (· ≤ reachBytes) = true := hsz0
  rw [Try.params4] at hA hval hsz
  obtain ⟨v0, vs0, d0, ds0, p0, q0, hargs, rfl, rfl, h0, r0⟩ := trodAll_cons hA
  obtain ⟨v1, vs1, d1, ds1, p1, q1, rfl, rfl, rfl, h1, r1⟩ := trodAll_cons r0
  obtain ⟨v2, vs2, d2, ds2, p2, q2, rfl, rfl, rfl, h2, r2⟩ := trodAll_cons r1
  obtain ⟨rfl, rfl, rfl⟩ := trodAll_nil r2
  obtain rfl : args = #[v0, v1, v2] := by cases args; simp_all
  obtain ⟨rfl, rfl⟩ := trodVars_none hV
  have k0 := h0
  have lt0 : ∀ x ∈ p0, x.block < W.heap.size := by obtain ⟨m, hm⟩ := k0; exact DataW.trod_lt m _ _ _ hm
  obtain ⟨a0, len0, cap0, L0, rfl, hl0, lm0, w0, wf0⟩ := OP.open_exts (hval 0 22 v0 rfl rfl) h0
  obtain ⟨a1, rfl, rfl, rfl, w1⟩ := open_int Try.underlying3 (hval 1 3 v1 rfl rfl) h1
  obtain ⟨a2, rfl, rfl, rfl, w2⟩ := open_int Try.underlying3 (hval 2 3 v2 rfl rfl) h2
  clear hA0 hval0 hsz0
  refine (walk a0 len0 cap0 L0 a1 a2 W hl0 lm0 w0 wf0 w1 w2).mono fun e W' ⟨he, bel⟩ => ?_
  subst he
  exact ⟨_, rfl, _, _, _, [], _, [], hW', trodAll_mk1 (shut_bool Try.underlying4 _), (trodAll_cons_mk (Below.trod laidOut (by kernel_rfl) (of_decide_eq_true (by kernel_rfl)) k0 bel lt0) (trodAll_cons_mk (shut_int Try.underlying3 w1) (trodAll_cons_mk (shut_int Try.underlying3 w2) trodAll_mk0))), rfl, bel.frame _, fun h => by cases h⟩

theorem over : Rows.extWholeRow.holds Try.pinned (OpenSpec.ofChange Rows.extWholeSpec) :=
  OpenClaim.holds_of_wide 4 Try.f4 rfl rfl rfl rfl rfl rfl rfl ⟨rfl, rfl, rfl, rfl, rfl⟩ rfl rfl rfl rfl rfl (by kernel_rfl) Try.func4 (by kernel_rfl)
    (of_decide_eq_true (by kernel_rfl)) (by unfold Func.isWrapper; first | (rw [if_pos (by decide +kernel)]; kernel_rfl) | (rw [if_neg (by decide +kernel)]; exact ⟨rfl, rfl⟩))
    (fun os started H enc _ => lifted os started H enc)

theorem proved : Rows.ExtWholeSaid := over
#print axioms proved
end Go.Proofs.Ytomncnelkkmalab.extWhole
