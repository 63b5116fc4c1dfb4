/- The law ExtOrder holds: its Go text answers true for every input, and leaves its arguments as they were. No condition beyond the statement's own. -/
import Derived.Test.YtomncnelkkmalabRows
import Derived.Test.YtomncnelkkmalabExU
import Derived.Test.YtomncnelkkmalabExL
import Derived.Test.YtomncnelkkmalabExMath4
import Derived.Test.YtomncnelkkmalabExR4
import Derived.Test.YtomncnelkkmalabExW
import Derived.Test.YtomncnelkkmalabOpen7
import Derived.Test.YtomncnelkkmalabOpen
import Derived.ProofKit
import Derived.OpenShut
import Derived.ShutString
import Derived.ChangeOld
import Derived.Below
import Derived.SizedLaws
namespace Go.Proofs.Ytomncnelkkmalab.extOrder
open Go.ChangeShapes Go.WideShapes Go.ChangeAt Go.RowKit
open Go.ChangeMaps (open_string shut_string)
open Go.Proofs.Ytomncnelkkmalab.FM
set_option linter.unusedVariables false
set_option linter.unusedSimpArgs false

theorem own : ownKnob Try.prog.godebug = none := by kernel_rfl
theorem laidOut : laidOutB Try.prog = true := by kernel_rfl

open MM EX OP

set_option maxHeartbeats 1000000 in
theorem big (a0 : Option Addr) (len0 cap0 : Nat) (L0 : List EX.Ext) (f1 g1 f2 g2 : Int) (w : World) (lm0 : len0 ≤ maxLen) (hbig : ¬ len0 ≤ 60) :
    Calls Try.prog 6 #[.slice a0 len0 cap0, .agg #[.int .i64 f1, .int .i64 g1], .agg #[.int .i64 f2, .int .i64 g2]] w fun e w' => e = .returned (.bool true) ∧ Below w.heap.size w w' := by
  have hf : decide ((len0 : Int) ≤ 60) = false := decide_eq_false (by omega)
  have HF := Lib.hid (few_any len0 cap0 lm0 a0)
  rw [hf] at HF
  clear hf lm0 hbig
  go_enter Try.func6, Try.ntmps6
  go_wp2_with fail
  refine (HF.out _).mono ?_
  rintro r w1 ⟨rfl, rfl⟩
  go_wp2_with fail
  refine (awake_any _).mono ?_
  rintro r w2 ⟨rfl, hb2⟩
  have B2 := Lib.hid hb2
  clear hb2
  go_wp2
  go_ret
  exact ⟨rfl, ((below_box w _).alloc (by simp) _).trans (B2.out.mono (by simp; omega))⟩

structure Tw (w : World) (f1 g1 f2 g2 : Int) (w' : World) : Prop where
  a : Blk w' w.heap.size 46 #[.int .i64 f1, .int .i64 g1]
  b : Blk w' (w.heap.size + 1) 46 #[.int .i64 f2, .int .i64 g2]
  bel : Below w.heap.size w w'
theorem Tw.below {w w1 w2 : World} {f1 g1 f2 g2 : Int} (h : Tw w f1 g1 f2 g2 w1) (hb : Below w1.heap.size w1 w2) : Tw w f1 g1 f2 g2 w2 := ⟨h.a.below hb h.a.lt, h.b.below hb h.b.lt, h.bel.trans (hb.mono (Nat.le_of_lt h.a.lt))⟩

set_option maxHeartbeats 4000000 in
theorem few_ (a0 : Option Addr) (len0 cap0 : Nat) (L0 : List EX.Ext) (f1 g1 f2 g2 : Int) (w : World) (hl0 : len0 = L0.length) (lm0 : len0 ≤ 60) (w0 : Exs w a0 L0) (wf0 : ∀ e ∈ L0, WfE e) (u1 : I64 f1) (u2 : I64 f2) :
    Calls Try.prog 6 #[.slice a0 len0 cap0, .agg #[.int .i64 f1, .int .i64 g1], .agg #[.int .i64 f2, .int .i64 g2]] w fun e w' => e = .returned (.bool true) ∧ Below w.heap.size w w' := by
  have HX := Lib.hid w0
  have HL := Lib.hid hl0
  have hf : decide ((len0 : Int) ≤ 60) = true := decide_eq_true (by omega)
  have HF := Lib.hid (few_any len0 cap0 (by unfold maxLen; omega) a0)
  rw [hf] at HF
  clear hf
  have HC1 := Lib.hid (fun w1 (h : Below w.heap.size w w1) => cut_any L0 len0 cap0 hl0 (by unfold maxLen; omega) a0 f1 g1 u1.2 w1 (w0.below h) wf0)
  have HC2 := Lib.hid (fun w1 (h : Below w.heap.size w w1) => cut_any L0 len0 cap0 hl0 (by unfold maxLen; omega) a0 f2 g2 u2.2 w1 (w0.below h) wf0)
  obtain ⟨W, hW⟩ : ∃ W, W = (w.alloc (.cells #[.int .i64 f1, .int .i64 g1] 46)).alloc (.cells #[.int .i64 f2, .int .i64 g2] 46) := ⟨_, rfl⟩
  obtain ⟨k1, k2, hb0⟩ := box_two w _ _ _ _ W hW
  have TW : Hid (Tw w f1 g1 f2 g2 W) := Lib.hid ⟨k1, k2, hb0⟩
  have HW := Lib.hid hW
  clear hl0 w0 wf0 hW k1 k2 hb0 u1 u2
  obtain ⟨⟨a1', a2'⟩, b1', b2'⟩ : (_ ∧ _) ∧ _ ∧ _ := ⟨⟨TW.out.a.cell 0, TW.out.a.cell 1⟩, TW.out.b.cell 0, TW.out.b.cell 1⟩
  go_enter Try.func6, Try.ntmps6
  go_wp2_with fail
  rw [← HW.out]
  refine (HF.out _).mono ?_
  rintro r w1 ⟨rfl, rfl⟩
  clear HF
  go_wp2_with fail
  refine (HC1.out _ TW.out.bel).mono ?_
  rintro r w2 h2
  rcases h2 with ⟨⟨hv, ha⟩, A2, n2, c2, rfl, hn2, hx2, hb2⟩ | ⟨hno, rfl, hb2⟩
  · have N2 := Lib.hid hn2
    have X2 := Lib.hid hx2
    have HV := Lib.hid hv
    have HA := Lib.hid ha
    have TW2 := Lib.hid (TW.out.below hb2)
    clear hb2 hn2 hx2 hv ha
    clear a1' a2' b1' b2'
    obtain ⟨⟨a1', a2'⟩, b1', b2'⟩ : (_ ∧ _) ∧ _ ∧ _ := ⟨⟨TW2.out.a.cell 0, TW2.out.a.cell 1⟩, TW2.out.b.cell 0, TW2.out.b.cell 1⟩
    go_wp2_with fail
    refine (HC2.out _ TW2.out.bel).mono ?_
    rintro r w3 h3
    rcases h3 with ⟨⟨hv', hb⟩, A3, n3, c3, rfl, hn3, hx3, hb3⟩ | ⟨hno3, rfl, hb3⟩
    · have N3 := Lib.hid hn3
      have X3 := Lib.hid hx3
      have HB := Lib.hid hb
      have TW3 := Lib.hid (TW2.out.below hb3)
      have X23 := Lib.hid (X2.out.below hb3)
      clear hb3 hn3 hx3 hb hv'
      clear a1' a2' b1' b2'
      obtain ⟨⟨a1', a2'⟩, b1', b2'⟩ : (_ ∧ _) ∧ _ ∧ _ := ⟨⟨TW3.out.a.cell 0, TW3.out.a.cell 1⟩, TW3.out.b.cell 0, TW3.out.b.cell 1⟩
      have hl2 : n2 ≤ maxLen := by rw [N2.out]; have := valid_len (cut_ok HV.out (f := f1) HA.out.2.1); unfold maxLen; omega
      have hl3 : n3 ≤ maxLen := by rw [N3.out]; have := valid_len (cut_ok HV.out (f := f2) HB.out.2.1); unfold maxLen; omega
      have HD1 := Lib.hid (cut_yes (cut L0 f1 g1) n2 c2 N2.out hl2 A2 f2 g2 w3 X23.out (cut_ok HV.out HA.out.2.1) HB.out)
      go_wp2_with fail
      refine HD1.out.mono ?_
      rintro r w4 ⟨A4, n4, c4, rfl, hn4, hx4, hb4⟩
      have N4 := Lib.hid hn4
      have X4 := Lib.hid hx4
      have TW4 := Lib.hid (TW3.out.below hb4)
      have X34 := Lib.hid (X3.out.below hb4)
      clear hb4 hn4 hx4 HD1
      clear a1' a2' b1' b2'
      obtain ⟨⟨a1', a2'⟩, b1', b2'⟩ : (_ ∧ _) ∧ _ ∧ _ := ⟨⟨TW4.out.a.cell 0, TW4.out.a.cell 1⟩, TW4.out.b.cell 0, TW4.out.b.cell 1⟩
      have HD2 := Lib.hid (cut_yes (cut L0 f2 g2) n3 c3 N3.out hl3 A3 f1 g1 w4 X34.out (cut_ok HV.out HB.out.2.1) HA.out)
      go_wp2_with fail
      refine HD2.out.mono ?_
      rintro r w5 ⟨A5, n5, c5, rfl, hn5, hx5, hb5⟩
      have hcc := cut_cut HV.out HA.out.1 HA.out.2.1 HA.out.2.2 HB.out.1 HB.out.2.1 HB.out.2.2
      rw [← hcc] at hn5 hx5
      have hn45 : n5 = n4 := by rw [hn5, N4.out]
      subst hn45
      have X5 := Lib.hid hx5
      have X45 := Lib.hid (X4.out.below hb5)
      have TW5 := Lib.hid (TW4.out.below hb5)
      clear hb5 hn5 hx5 hcc HD2 a1' a2' b1' b2'
      go_wp2_with fail
      refine (awake_any _).mono ?_
      rintro r w6 ⟨rfl, hb6⟩
      have hl5 : n5 ≤ 100000000 := by rw [N4.out]; have := valid_len (cut_ok (cut_ok HV.out (f := f1) HA.out.2.1) (f := f2) HB.out.2.1); omega
      have HAL := Lib.hid (alike_yes _ n5 c4 c5 N4.out hl5 A4 A5 w6 (X45.out.below hb6) (X5.out.below hb6))
      have TW6 := Lib.hid (TW5.out.below hb6)
      clear hb6
      go_wp2_with fail
      refine HAL.out.mono ?_
      rintro r w7 ⟨rfl, hb7⟩
      have B7 := Lib.hid (TW6.out.below hb7).bel
      clear hb7 HAL
      go_wp2
      go_ret
      exact ⟨rfl, B7.out⟩
    · have TW3 := Lib.hid (TW2.out.below hb3)
      clear hb3 a1' a2' b1' b2'
      go_wp2_with fail
      refine (awake_any _).mono ?_
      rintro r w9 ⟨rfl, hb9⟩
      have B9 := Lib.hid (TW3.out.below hb9).bel
      clear hb9
      go_wp2
      go_ret
      exact ⟨rfl, B9.out⟩
  · have TW2 := Lib.hid (TW.out.below hb2)
    clear hb2 hno
    clear a1' a2' b1' b2'
    obtain ⟨⟨a1', a2'⟩, b1', b2'⟩ : (_ ∧ _) ∧ _ ∧ _ := ⟨⟨TW2.out.a.cell 0, TW2.out.a.cell 1⟩, TW2.out.b.cell 0, TW2.out.b.cell 1⟩
    go_wp2_with fail
    refine (HC2.out _ TW2.out.bel).mono ?_
    rintro r w3 h3
    rcases h3 with ⟨_, A3, n3, c3, rfl, hn3, hx3, hb3⟩ | ⟨hno3, rfl, hb3⟩
    · have TW3 := Lib.hid (TW2.out.below hb3)
      clear hn3 hx3 hb3 a1' a2' b1' b2'
      go_wp2_with fail
      refine (awake_any _).mono ?_
      rintro r w9 ⟨rfl, hb9⟩
      have B9 := Lib.hid (TW3.out.below hb9).bel
      clear hb9
      go_wp2
      go_ret
      exact ⟨rfl, B9.out⟩
    · have TW3 := Lib.hid (TW2.out.below hb3)
      clear hb3 a1' a2' b1' b2'
      go_wp2_with fail
      refine (awake_any _).mono ?_
      rintro r w9 ⟨rfl, hb9⟩
      have B9 := Lib.hid (TW3.out.below hb9).bel
      clear hb9
      go_wp2
      go_ret
      exact ⟨rfl, B9.out⟩

theorem walk (a0 : Option Addr) (len0 cap0 : Nat) (L0 : List EX.Ext) (f1 g1 : Int) (f2 g2 : Int) (w : World) (hl0 : len0 = L0.length) (lm0 : len0 ≤ maxLen) (w0 : EX.Exs w a0 L0) (wf0 : ∀ e ∈ L0, EX.WfE e) (u1 : EX.I64 f1) (t1 : EX.I64 g1) (u2 : EX.I64 f2) (t2 : EX.I64 g2) :
    Calls Try.prog 6 #[.slice a0 len0 cap0, .agg #[.int .i64 f1, .int .i64 g1], .agg #[.int .i64 f2, .int .i64 g2]] w fun e w' => e = .returned (.bool true) ∧ Below w.heap.size w w' := by
  by_cases hf : len0 ≤ 60
  · exact few_ a0 len0 cap0 L0 f1 g1 f2 g2 w hl0 hf w0 wf0 u1 u2
  · exact big a0 len0 cap0 L0 f1 g1 f2 g2 w lm0 hf

set_option maxRecDepth 100000 in
theorem lifted (os : Os) (started : os.Started) (H : Type) (enc : TypeId × Value → H) :
    ReturnsInHanded {} Try.checked os 6 .any (Rows.extOrderSpec.pre6 enc Try.prog Try.f6 Rows.extOrderRow.domain false) (Rows.extOrderSpec.post enc Try.prog Try.f6 false true false false) := by
  refine returnsInHanded_of_change_sized (C := Try.checked) own started (by kernel_rfl) Try.func6
    (ChangeSpec.witness6 (enc := enc) (C := Try.checked) false ⟨#[], #[.slice none 0 0, .agg #[.int .i64 0, .int .i64 0], .agg #[.int .i64 0, .int .i64 0]], []⟩ 8 (by kernel_rfl) (by kernel_rfl) (by kernel_rfl) (by kernel_rfl)) ?_
  intro W base args ds gs before hval0 hW hcnd hsz0 _
  have hval : ∀ (j : Nat) t v, Try.f6.params[j]? = some t → args[j]? = some v → Value.okWide Try.prog W .any base t v := hval0
  have hW' := hW
  obtain ⟨p, q, hA0, hV, rfl, hfz, hnd⟩ := hW
  have hA : DataW.TrodAll enc Try.prog W 0 (fun _ => true) true Try.f6.params.toList args.toList ds p := hA0
  have hsz : (DataW.weightsEach Try.prog (Try.f6.params.toList ++ Rows.extOrderSpec.plain.varTypes Try.prog) (ds ++ gs)).all (· ≤ reachBytes) = true := hsz0
  rw [Try.params6] at hA hval hsz
  obtain ⟨v0, vs0, d0, ds0, p0, q0, hargs, rfl, rfl, h0, r0⟩ := trodAll_cons hA
  obtain ⟨v1, vs1, d1, ds1, p1, q1, rfl, rfl, rfl, h1, r1⟩ := trodAll_cons r0
  obtain ⟨v2, vs2, d2, ds2, p2, q2, rfl, rfl, rfl, h2, r2⟩ := trodAll_cons r1
  obtain ⟨rfl, rfl, rfl⟩ := trodAll_nil r2
  obtain rfl : args = #[v0, v1, v2] := by cases args; simp_all
  obtain ⟨rfl, rfl⟩ := trodVars_none hV
  have k0 := h0
  have lt0 : ∀ x ∈ p0, x.block < W.heap.size := by obtain ⟨m, hm⟩ := k0; exact DataW.trod_lt m _ _ _ hm
  obtain ⟨a0, len0, cap0, L0, rfl, hl0, lm0, w0, wf0⟩ := OP.open_exts (hval 0 22 v0 rfl rfl) h0
  have k1 := h1
  have lt1 : ∀ x ∈ p1, x.block < W.heap.size := by obtain ⟨m, hm⟩ := k1; exact DataW.trod_lt m _ _ _ hm
  obtain ⟨f1, g1, rfl, u1, t1⟩ := OP.open_ints2 (hval 1 46 v1 rfl rfl) h1
  have k2 := h2
  have lt2 : ∀ x ∈ p2, x.block < W.heap.size := by obtain ⟨m, hm⟩ := k2; exact DataW.trod_lt m _ _ _ hm
  obtain ⟨f2, g2, rfl, u2, t2⟩ := OP.open_ints2 (hval 2 46 v2 rfl rfl) h2
  clear hA0 hval0 hsz0
  refine (walk a0 len0 cap0 L0 f1 g1 f2 g2 W hl0 lm0 w0 wf0 u1 t1 u2 t2).mono fun e W' ⟨he, bel⟩ => ?_
  subst he
  exact ⟨_, rfl, _, _, _, [], _, [], hW', trodAll_mk1 (shut_bool Try.underlying4 _), (trodAll_cons_mk (Below.trod laidOut (by kernel_rfl) (of_decide_eq_true (by kernel_rfl)) k0 bel lt0) (trodAll_cons_mk (Below.trod laidOut (by kernel_rfl) (of_decide_eq_true (by kernel_rfl)) k1 bel lt1) (trodAll_cons_mk (Below.trod laidOut (by kernel_rfl) (of_decide_eq_true (by kernel_rfl)) k2 bel lt2) trodAll_mk0))), rfl, bel.frame _, fun h => by cases h⟩

theorem over : Rows.extOrderRow.holds Try.pinned (OpenSpec.ofChange Rows.extOrderSpec) :=
  OpenClaim.holds_of_wide 6 Try.f6 rfl rfl rfl rfl rfl rfl rfl ⟨rfl, rfl, rfl, rfl, rfl⟩ rfl rfl rfl rfl rfl (by kernel_rfl) Try.func6 (by kernel_rfl)
    (of_decide_eq_true (by kernel_rfl)) (by unfold Func.isWrapper; first | (rw [if_pos (by decide +kernel)]; kernel_rfl) | (rw [if_neg (by decide +kernel)]; exact ⟨rfl, rfl⟩))
    (fun os started H enc _ => lifted os started H enc)

theorem proved : Rows.ExtOrderSaid := over
#print axioms proved
end Go.Proofs.Ytomncnelkkmalab.extOrder
