/- The law ExtFinds holds: its Go text answers true for every input, and leaves its arguments as they were. No condition beyond the statement's own. -/
import Derived.Test.YtomncnelkkmalaaRows
import Derived.Test.YtomncnelkkmalaaExH
import Derived.Test.YtomncnelkkmalaaExW
import Derived.Test.YtomncnelkkmalaaOpen7
import Derived.Test.YtomncnelkkmalaaOpen
import Derived.Test.YtomncnelkkmalaaShort
import Derived.ProofKit
import Derived.OpenShut
import Derived.ShutString
import Derived.ChangeOld
import Derived.Below
import Derived.SizedLaws
namespace Go.Proofs.Ytomncnelkkmalaa.extFinds
open Go.ChangeShapes Go.WideShapes Go.ChangeAt Go.RowKit
open Go.ChangeMaps (open_string shut_string)
open Go.Proofs.Ytomncnelkkmalaa.FM
set_option linter.unusedVariables false
set_option linter.unusedSimpArgs false

theorem own : ownKnob Try.prog.godebug = none := by kernel_rfl
theorem laidOut : laidOutB Try.prog = true := by kernel_rfl

open MM EX OP

set_option maxHeartbeats 1000000 in
theorem big (a0 : Option Addr) (len0 cap0 : Nat) (L0 : List EX.Ext) (a1 : Int) (w : World) (lm0 : len0 ≤ maxLen) (hbig : ¬ len0 ≤ 60) :
    Calls Try.prog 4 #[.slice a0 len0 cap0, .int .i64 a1] w fun e w' => e = .returned (.bool true) ∧ Below w.heap.size w w' := by
  have hf : decide ((len0 : Int) ≤ 60) = false := decide_eq_false (by omega)
  have HF := Lib.hid (few_any len0 cap0 lm0 a0)
  rw [hf] at HF
  clear hf lm0 hbig
  go_enter Try.func4, Try.ntmps4
  go_wp2_with fail
  refine (HF.out _).mono ?_
  rintro r w1 ⟨rfl, rfl⟩
  go_wp2_with fail
  refine (awake_any _).mono ?_
  rintro r w2 ⟨rfl, hb2⟩
  have B2 := Lib.hid hb2
  clear hb2
  go_wp2
  go_ret
  exact ⟨rfl, B2.out⟩

set_option maxHeartbeats 4000000 in
theorem few_ (a0 : Option Addr) (len0 cap0 : Nat) (L0 : List EX.Ext) (a1 : Int) (w : World) (hl0 : len0 = L0.length) (lm0 : len0 ≤ 60) (w0 : Exs w a0 L0) (hs : a1 ≤ 9223372036854775807) :
    Calls Try.prog 4 #[.slice a0 len0 cap0, .int .i64 a1] w fun e w' => e = .returned (.bool true) ∧ Below w.heap.size w w' := by
  have HX := Lib.hid w0
  have HL := Lib.hid hl0
  have hf : decide ((len0 : Int) ≤ 60) = true := decide_eq_true (by omega)
  have HF := Lib.hid (few_any len0 cap0 (by unfold maxLen; omega) a0)
  rw [hf] at HF
  clear hf
  clear hl0 w0
  go_enter Try.func4, Try.ntmps4
  go_wp2_with fail
  refine (HF.out _).mono ?_
  rintro r w1 ⟨rfl, rfl⟩
  clear HF
  go_wp2
  go_loopw [5] (fun i wr => ∃ k : Nat, k ≤ len0 ∧ i = .int .i64 k ∧ Hid (∀ e ∈ L0.take k, EX.One e) ∧ Below w.heap.size w wr) (fun i _ => len0 - (intOf i).toNat)
  case atStart => exact ⟨0, Nat.zero_le _, rfl, Lib.hid (fun e he => by simp at he), Below.refl _ _⟩
  case round =>
    obtain ⟨k, hk, rfl, hall, hbel⟩ := hrel
    have B0 := Lib.hid hbel
    by_cases hlt : k < len0
    · obtain ⟨e, he⟩ : ∃ e, L0[k]? = some e := ⟨_, List.getElem?_eq_getElem (by rw [← HL.out]; exact hlt)⟩
      rcases HX.out with h0 | ⟨b, off, rfl, hb, hc⟩
      · rw [h0] at he; simp at he
      · obtain ⟨q0, q1, q2, q3⟩ := (hc k e he).kept hbel hb
        have HON := Lib.hid (rone_any e wr)
        have HE := Lib.hid he
        have t1 : (k : Int) < (len0 : Int) := by omega
        have t2 : (0 : Int) ≤ (k : Int) := by omega
        clear hc he hbel
        by_cases h1 : EX.One e
        · rw [decide_eq_true h1] at HON
          have HA : Hid (∀ e ∈ L0.take (k + 1), EX.One e) := by
            show ∀ e ∈ L0.take (k + 1), EX.One e
            intro x hx
            rw [take_snoc HE.out] at hx
            rcases List.mem_append.1 hx with hx | hx
            · exact hall.out x hx
            · rw [List.mem_singleton.1 hx]; exact h1
          go_wp2_with fail
          refine HON.out.mono ?_
          rintro r w1 ⟨rfl, hb1⟩
          have B1 := Lib.hid (below_kept B0.out hb1)
          clear hb1 HON
          go_wp2
          go_roundw
          case rel => exact ⟨k + 1, by omega, by go_num, HA, B1.out⟩
          case measure => simp [intOf]; omega
        · rw [decide_eq_false h1] at HON
          go_wp2_with fail
          refine HON.out.mono ?_
          rintro r w1 ⟨rfl, hb1⟩
          have B1 := Lib.hid (below_kept B0.out hb1)
          clear hb1 HON
          go_wp2_with fail
          refine (awake_any _).mono ?_
          rintro r w2 ⟨rfl, hb2⟩
          have B2 := Lib.hid (below_kept B1.out hb2)
          clear hb2
          go_wp2
          go_ret
          exact ⟨rfl, B2.out⟩
    · obtain rfl : k = len0 := by omega
      have i0' : ¬ (k : Int) < (k : Int) := by omega
      have hall2 : ∀ e ∈ L0, EX.One e := by have h := hall.out; rw [List.take_of_length_le (by rw [← HL.out]; exact Nat.le_refl _)] at h; exact h
      obtain ⟨T1, T2, hT⟩ : ∃ T1 T2, say L0 a1 = (T1, T2) := ⟨_, _, rfl⟩
      have HT := Lib.hid hT
      have HA := Lib.hid hall2
      clear hbel hT hall2
      go_wp2_with fail
      refine (awake_any _).mono ?_
      rintro r w2 ⟨rfl, hb2⟩
      have B2 := Lib.hid (below_kept B0.out hb2)
      clear hb2
      have HSY := Lib.hid (say_any L0 k cap0 HL.out (by omega) a0 a1 w2 (HX.out.below B2.out) HA.out)
      rw [HT.out] at HSY
      go_wp2_with fail
      refine HSY.out.mono ?_
      rintro r w3 ⟨rfl, hb3⟩
      have B3 := Lib.hid (below_kept B2.out hb3)
      clear hb3 HSY
      go_wp2_with fail
      refine (refs_any L0 k cap0 HL.out (by omega) a0 w3 (HX.out.below B3.out)).mono ?_
      rintro r w4 ⟨A4, n4, c4, rfl, hn4, hx4, hb4⟩
      have HFI := Lib.hid (rfind_any L0 n4 c4 hn4 (by rw [hn4, ← HL.out]; omega) A4 a1 w4 hx4 HA.out hs)
      rw [HT.out] at HFI
      have B4 := Lib.hid (below_kept B3.out hb4)
      clear hn4 hx4 hb4
      go_wp2_with fail
      refine HFI.out.mono ?_
      rintro r w5 ⟨rfl, hb5⟩
      have B5 := Lib.hid (below_kept B4.out hb5)
      clear hb5 HFI
      go_wp2
      go_ret
      exact ⟨rfl, B5.out⟩

theorem walk (a0 : Option Addr) (len0 cap0 : Nat) (L0 : List EX.Ext) (a1 : Int) (w : World) (hl0 : len0 = L0.length) (lm0 : len0 ≤ maxLen) (w0 : EX.Exs w a0 L0) (wf0 : ∀ e ∈ L0, EX.WfE e) (w1 : (Lit.int .i64 a1).wf = true) :
    Calls Try.prog 4 #[.slice a0 len0 cap0, .int .i64 a1] w fun e w' => e = .returned (.bool true) ∧ Below w.heap.size w w' := by
  by_cases hf : len0 ≤ 60
  · exact few_ a0 len0 cap0 L0 a1 w hl0 hf w0 (i64_of w1).2
  · exact big a0 len0 cap0 L0 a1 w lm0 hf

set_option maxRecDepth 100000 in
theorem lifted (os : Os) (started : os.Started) (H : Type) (enc : TypeId × Value → H) :
    ReturnsInHanded {} Try.checked os 4 .any (Rows.extFindsSpec.pre6 enc Try.prog Try.f4 Rows.extFindsRow.domain false) (Rows.extFindsSpec.post enc Try.prog Try.f4 false true false false) := by
  refine returnsInHanded_of_change_sized (C := Try.checked) own started (by kernel_rfl) Try.func4
    (ChangeSpec.witness6 (enc := enc) (C := Try.checked) false ⟨#[], #[.slice none 0 0, .int .i64 0], []⟩ 8 (by kernel_rfl) (by kernel_rfl) (by kernel_rfl) (by kernel_rfl)) ?_
  intro W base args ds gs before hval0 hW hcnd hsz0 _
  have hval : ∀ (j : Nat) t v, Try.f4.params[j]? = some t → args[j]? = some v → Value.okWide Try.prog W .any base t v := hval0
  have hW' := hW
  obtain ⟨p, q, hA0, hV, rfl, hfz, hnd⟩ := hW
  have hA : DataW.TrodAll enc Try.prog W 0 (fun _ => true) true Try.f4.params.toList args.toList ds p := hA0
  have hsz : (DataW.weightsEach Try.prog (Try.f4.params.toList ++ Rows.extFindsSpec.plain.varTypes Try.prog) (ds ++ gs)).all (· ≤ reachBytes) = true := hsz0
  rw [Try.params4] at hA hval hsz
  obtain ⟨v0, vs0, d0, ds0, p0, q0, hargs, rfl, rfl, h0, r0⟩ := trodAll_cons hA
  obtain ⟨v1, vs1, d1, ds1, p1, q1, rfl, rfl, rfl, h1, r1⟩ := trodAll_cons r0
  obtain ⟨rfl, rfl, rfl⟩ := trodAll_nil r1
  obtain rfl : args = #[v0, v1] := by cases args; simp_all
  obtain ⟨rfl, rfl⟩ := trodVars_none hV
  have k0 := h0
  have lt0 : ∀ x ∈ p0, x.block < W.heap.size := by obtain ⟨m, hm⟩ := k0; exact DataW.trod_lt m _ _ _ hm
  obtain ⟨a0, len0, cap0, L0, rfl, hl0, lm0, w0, wf0⟩ := OP.open_exts (hval 0 22 v0 rfl rfl) h0
  obtain ⟨a1, rfl, rfl, rfl, w1⟩ := open_int Try.underlying3 (hval 1 3 v1 rfl rfl) h1
  clear hA0 hval0 hsz0
  refine (walk a0 len0 cap0 L0 a1 W hl0 lm0 w0 wf0 w1).mono fun e W' ⟨he, bel⟩ => ?_
  subst he
  exact ⟨_, rfl, _, _, _, [], _, [], hW', trodAll_mk1 (shut_bool Try.underlying4 _), (trodAll_cons_mk (Below.trod laidOut (by kernel_rfl) (of_decide_eq_true (by kernel_rfl)) k0 bel lt0) (trodAll_cons_mk (shut_int Try.underlying3 w1) trodAll_mk0)), rfl, bel.frame _, fun h => by cases h⟩

theorem over : Rows.extFindsRow.holds Try.pinned (OpenSpec.ofChange Rows.extFindsSpec) :=
  OpenClaim.holds_of_wide 4 Try.f4 rfl rfl rfl rfl rfl rfl rfl ⟨rfl, rfl, rfl, rfl, rfl⟩ rfl rfl rfl rfl rfl (by kernel_rfl) Try.func4 (by kernel_rfl)
    (of_decide_eq_true (by kernel_rfl)) (by unfold Func.isWrapper; first | (rw [if_pos (by decide +kernel)]; kernel_rfl) | (rw [if_neg (by decide +kernel)]; exact ⟨rfl, rfl⟩))
    (fun os started H enc _ => lifted os started H enc)

theorem proved : Rows.ExtFindsSaid := over
#print axioms proved
end Go.Proofs.Ytomncnelkkmalaa.extFinds
