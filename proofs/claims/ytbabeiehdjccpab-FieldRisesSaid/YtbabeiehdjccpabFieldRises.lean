/- The law FieldRises holds: its Go text answers true for every input, and leaves its arguments as they were. No condition beyond the statement's own. -/
import Derived.Test.YtbabeiehdjccpabRows
import Derived.Test.YtbabeiehdjccpabAwake1
import Derived.Deep.QuietTactic
import Derived.BigQuiet
import Derived.PlainAid
import Derived.RegionTactic
import Derived.Deep.RegionHeld3
import Derived.WalkSmall
import Derived.ProofKit
import Derived.OpenShut
import Derived.ShutString
import Derived.ChangeOld
import Derived.Below
import Derived.SizedLaws
namespace Go.Proofs.Ytbabeiehdjccpab.fieldRises
open Go.ChangeShapes Go.WideShapes Go.ChangeAt Go.RowKit
open Go.ChangeMaps (open_string shut_string)
open Go.Proofs.Ytbabeiehdjccpab.FM
set_option linter.unusedVariables false
set_option linter.unusedSimpArgs false

theorem own : ownKnob Try.prog.godebug = none := by kernel_rfl
theorem laidOut : laidOutB Try.prog = true := by kernel_rfl

theorem u64_bounds {x : Int} (h : (Lit.int .u64 x).wf = true) : 0 ≤ x ∧ x < 18446744073709551616 := by
  have : 0 ≤ x ∧ x ≤ 18446744073709551615 := by simpa [Lit.wf, IntKind.min, IntKind.max, IntKind.signed, IntKind.bits] using h
  omega

/-- The loop's relation: the bytes from place j on are alike; i stands one below. -/
def Same (A B : ByteArray) (j : Nat) : Prop := ∀ q, j ≤ q → q < A.size → PlainAid.bt A q = PlainAid.bt B q

theorem bt_str (l : List UInt8) (i : Nat) (h : i < l.length) : PlainAid.bt (str l) i = ((l[i]).toNat : Int) := by
  unfold PlainAid.bt
  rw [dif_pos (by rw [str_size]; exact h)]
  rfl
theorem same_drop {n m wd j : Nat} (h : Same (str (fb n wd)) (str (fb m wd)) j) : (fb n wd).drop j = (fb m wd).drop j := by
  apply List.ext_getElem
  · simp [fb_length]
  · intro q h1 h2
    simp only [List.length_drop, fb_length] at h1 h2
    have hq := h (j + q) (by omega) (by rw [str_size, fb_length]; omega)
    rw [bt_str _ _ (by rw [fb_length]; omega), bt_str _ _ (by rw [fb_length]; omega)] at hq
    rw [List.getElem_drop, List.getElem_drop]
    exact UInt8.toNat_inj.1 (by omega)
theorem val_at (l : List UInt8) (i : Nat) (h : i < l.length) : val l = val (l.take i) + 256 ^ i * ((l[i]).toNat + 256 * val (l.drop (i + 1))) := by
  have e : l = l.take i ++ (l[i] :: l.drop (i + 1)) := by rw [← List.drop_eq_getElem_cons h, List.take_append_drop]
  have hl : (l.take i).length = i := by rw [List.length_take]; omega
  have h2 := val_append (l.take i) (l[i] :: l.drop (i + 1))
  rw [← e, hl] at h2
  exact h2
theorem same_eq {n m wd : Nat} (hn : n < 256 ^ wd) (hm : m < 256 ^ wd) (h : Same (str (fb n wd)) (str (fb m wd)) 0) : n = m := by
  have e := same_drop h
  simp only [List.drop_zero] at e
  have := congrArg val e
  rwa [val_fb, val_fb, Nat.mod_eq_of_lt hn, Nat.mod_eq_of_lt hm] at this
theorem lt_at {n m wd i : Nat} (hn : n < 256 ^ wd) (hm : m < 256 ^ wd) (hi : i < wd) (h : Same (str (fb n wd)) (str (fb m wd)) (i + 1)) (hlt : PlainAid.bt (str (fb n wd)) i < PlainAid.bt (str (fb m wd)) i) : n < m := by
  have hd := same_drop h
  have ha := val_at (fb n wd) i (by rw [fb_length]; exact hi)
  have hb := val_at (fb m wd) i (by rw [fb_length]; exact hi)
  rw [bt_str _ _ (by rw [fb_length]; exact hi), bt_str _ _ (by rw [fb_length]; exact hi)] at hlt
  rw [val_fb, Nat.mod_eq_of_lt hn] at ha
  rw [val_fb, Nat.mod_eq_of_lt hm, ← hd] at hb
  have hx := val_lt ((fb n wd).take i)
  rw [List.length_take, fb_length, Nat.min_eq_left (by omega)] at hx
  have hle : ((fb n wd)[i]'(by rw [fb_length]; exact hi)).toNat + 256 * val ((fb n wd).drop (i + 1)) + 1 ≤ ((fb m wd)[i]'(by rw [fb_length]; exact hi)).toNat + 256 * val ((fb n wd).drop (i + 1)) := by omega
  have hmul := Nat.mul_le_mul_left (256 ^ i) hle
  rw [Nat.mul_add, Nat.mul_one] at hmul
  omega
theorem same_step {A B : ByteArray} {i : Nat} (h : Same A B (i + 1)) (e : PlainAid.bt A i = PlainAid.bt B i) : Same A B i := by
  intro q h1 h2
  by_cases hq : q = i
  · rw [hq]; exact e
  · exact h q (by omega) h2
theorem Same.symm {A B : ByteArray} {i : Nat} (hs : A.size = B.size) (h : Same A B i) : Same B A i := fun q h1 h2 => (h q h1 (by omega)).symm

set_option maxHeartbeats 800000 in
theorem loop_ok (n m wd : Nat) (hn : n < 18446744073709551616) (hm : m < 18446744073709551616) (h1 : 1 ≤ wd) (h8 : wd ≤ 8) (A B : ByteArray) (hA : Hid (A = str (fb n wd))) (hB : Hid (B = str (fb m wd))) (hfn : Hid (n < 256 ^ wd)) (hfm : Hid (m < 256 ^ wd)) (w : World)
    (pA : Hid (∀ w, Calls Try.prog 13 #[.int .u64 (n : Int), .int .i64 (wd : Int)] w fun e w' => e = .returned (.tuple #[.string A, .int .i64 0]) ∧ Below w.heap.size w w'))
    (pB : Hid (∀ w, Calls Try.prog 13 #[.int .u64 (m : Int), .int .i64 (wd : Int)] w fun e w' => e = .returned (.tuple #[.string B, .int .i64 0]) ∧ Below w.heap.size w w'))
    (sA : A.size = wd) (sB : B.size = wd) :
    Calls Try.prog 5 #[.int .u64 (n : Int), .int .u64 (m : Int), .int .i64 (wd : Int)] w fun e w' => e = .returned (.bool true) ∧ Below w.heap.size w w' := by
  have gbA := PlainAid.get_bt A
  have gbB := PlainAid.get_bt B
  go_enter Try.func5, Try.ntmps5
  go_wp2_with fail
  refine (pA.out _).mono ?_
  rintro e w1 ⟨rfl, hb1⟩
  go_wp2_with fail
  refine (pB.out _).mono ?_
  rintro e w2 ⟨rfl, hb2⟩
  have hbel : Below w.heap.size w w2 := hb1.trans (hb2.mono hb1.size)
  clear hb1 hb2
  go_wp2
  go_loopw [11] (fun v wr => ∃ j : Nat, j ≤ wd ∧ Hid (Same A B j) ∧ Below w.heap.size w wr ∧ ((j = 0 ∧ v = .int .i64 (-1)) ∨ ∃ i : Nat, j = i + 1 ∧ v = .int .i64 (i : Int))) (fun v _ => (intOf v + 1).toNat)
  case atStart => exact ⟨wd, Nat.le_refl _, (fun q h1 h2 => by omega : Same A B wd), hbel, .inr ⟨wd - 1, by omega, by congr 1; omega⟩⟩
  case round =>
    obtain ⟨j, hj, hsame, hbl, ⟨rfl, rfl⟩ | ⟨i, rfl, rfl⟩⟩ := hrel
    · have hnm : ((n : Int) == (m : Int)) = true := by
        have := hsame.out
        rw [hA.out, hB.out] at this
        have := same_eq hfn.out hfm.out this
        simp [this]
      go_wp2_with fail
      refine (awake_any _).mono ?_
      rintro e w3 ⟨rfl, hb3⟩
      go_wp2
      go_ret
      exact ⟨rfl, hbl.trans (hb3.mono hbl.size)⟩
    · have HB : Hid (∀ n, Below w.heap.size w (wr.drewN n)) := Lib.hid (fun n => below_drewN hbl n)
      by_cases he : PlainAid.bt A i = PlainAid.bt B i
      · have HE := Lib.hid he
        have hne : (PlainAid.bt A i != PlainAid.bt B i) = false := by simp [he]
        clear he
        go_wp2
        go_quiet (fail)
        go_wp2
        go_roundw
        case rel => exact ⟨i, by omega, same_step hsame.out HE.out, below_drewN hbl _, by
          by_cases h0 : i = 0
          · exact .inl ⟨h0, by subst h0; rfl⟩
          · exact .inr ⟨i - 1, by omega, by congr 1; omega⟩⟩
        case measure => simp [intOf]
      · have hne : (PlainAid.bt A i != PlainAid.bt B i) = true := by simp [he]
        have hS := hsame.out
        rw [hA.out, hB.out] at hS
        have hcase : (PlainAid.bt A i < PlainAid.bt B i ∧ n < m) ∨ (¬ PlainAid.bt A i < PlainAid.bt B i ∧ ¬ n < m) := by
          rcases Int.lt_trichotomy (PlainAid.bt A i) (PlainAid.bt B i) with h | h | h
          · exact .inl ⟨h, lt_at hfn.out hfm.out (by omega) hS (by rw [← hA.out, ← hB.out]; exact h)⟩
          · exact absurd h he
          · have := lt_at hfm.out hfn.out (by omega) (hS.symm (by rw [str_size, str_size, fb_length, fb_length])) (by rw [← hA.out, ← hB.out]; exact h)
            exact .inr ⟨by omega, by omega⟩
        clear he hS
        rcases hcase with ⟨c1, c2⟩ | ⟨c1, c2⟩
        · have d1 : decide (PlainAid.bt A i < PlainAid.bt B i) = true := by simpa using c1
          have d2 : decide (n < m) = true := by simpa using c2
          go_wp2
          go_quiet (fail)
          go_wp2
          go_region_held3 (fun w' => Below w.heap.size w w') (first | exact (HB.out _).drew | exact HB.out _ | assumption) ((go_at_call 9; refine (awake_any _).mono ?_; rintro e w3 ⟨rfl, hb3⟩; have hb4 : Below w.heap.size w w3 := (HB.out _).trans (hb3.mono (HB.out _).size)))
          all_goals (try go_wp2)
          all_goals go_ret
          all_goals exact ⟨rfl, by assumption⟩
        · have d1 : decide (PlainAid.bt A i < PlainAid.bt B i) = false := by simpa using c1
          have d2 : decide (n < m) = false := by simpa using c2
          go_wp2
          go_quiet (fail)
          go_wp2
          go_region_held3 (fun w' => Below w.heap.size w w') (first | exact (HB.out _).drew | exact HB.out _ | assumption) ((go_at_call 9; refine (awake_any _).mono ?_; rintro e w3 ⟨rfl, hb3⟩; have hb4 : Below w.heap.size w w3 := (HB.out _).trans (hb3.mono (HB.out _).size)))
          all_goals (try go_wp2)
          all_goals go_ret
          all_goals exact ⟨rfl, by assumption⟩

theorem put_any_size (n wd : Nat) : (str (fb n wd)).size = wd := by rw [str_size, fb_length]

set_option maxHeartbeats 800000 in
theorem walk (a0 : Int) (a1 : Int) (a2 : Int) (w : World) (w0 : (Lit.int .u64 a0).wf = true) (w1 : (Lit.int .u64 a1).wf = true) (w2 : (Lit.int .i64 a2).wf = true) :
    Calls Try.prog 5 #[.int .u64 a0, .int .u64 a1, .int .i64 a2] w fun e w' => e = .returned (.bool true) ∧ Below w.heap.size w w' := by
  by_cases hb : a2 < 1 ∨ 8 < a2
  · have H := Lib.hid hb
    clear hb
    go_enter Try.func5, Try.ntmps5
    go_wp2_with fail
    refine (put_arg a0 a2 H.out _).mono ?_
    rintro e w1 ⟨rfl, rfl⟩
    go_wp2_with fail
    refine (put_arg a1 a2 H.out _).mono ?_
    rintro e w1 ⟨rfl, rfl⟩
    go_wp2_with fail
    refine (awake_any _).mono ?_
    rintro e w1 ⟨rfl, hb1⟩
    go_wp2
    go_ret
    exact ⟨rfl, hb1⟩
  · obtain ⟨h0, hlt⟩ := u64_bounds w0
    obtain ⟨g0, glt⟩ := u64_bounds w1
    obtain ⟨n, rfl⟩ := Int.eq_ofNat_of_zero_le h0
    obtain ⟨m, rfl⟩ := Int.eq_ofNat_of_zero_le g0
    obtain ⟨wd, rfl⟩ := Int.eq_ofNat_of_zero_le (show 0 ≤ a2 by omega)
    have h1 : 1 ≤ wd := by omega
    have h8 : wd ≤ 8 := by omega
    have hn : n < 18446744073709551616 := by omega
    have hm : m < 18446744073709551616 := by omega
    clear hb w0 w1 w2 h0 hlt g0 glt
    by_cases hf : n < 256 ^ wd
    · by_cases hg : m < 256 ^ wd
      · exact loop_ok n m wd hn hm h1 h8 (str (fb n wd)) (str (fb m wd)) (Lib.hid rfl) (Lib.hid rfl) (Lib.hid hf) (Lib.hid hg) w (Lib.hid (put_ok n wd hn h1 h8 hf)) (Lib.hid (put_ok m wd hm h1 h8 hg)) (put_any_size _ _) (put_any_size _ _)
      · have HF := Lib.hid hf
        have HG : Hid (256 ^ wd ≤ m) := Lib.hid (by omega)
        clear hf hg
        go_enter Try.func5, Try.ntmps5
        go_wp2_with fail
        refine (put_ok n wd hn h1 h8 HF.out _).mono ?_
        rintro e w1 ⟨rfl, hb1⟩
        go_wp2_with fail
        refine (put_long m wd hm h1 h8 HG.out _).mono ?_
        rintro e w2 ⟨rfl, rfl⟩
        go_wp2_with fail
        refine (awake_any _).mono ?_
        rintro e w3 ⟨rfl, hb3⟩
        go_wp2
        go_ret
        exact ⟨rfl, hb1.trans (hb3.mono hb1.size)⟩
    · have HF : Hid (256 ^ wd ≤ n) := Lib.hid (by omega)
      clear hf
      have hany : Hid (∀ w, Calls Try.prog 13 #[.int .u64 (m : Int), .int .i64 (wd : Int)] w fun e w' => (∃ s k, e = .returned (.tuple #[.string s, .int .i64 k])) ∧ Below w.heap.size w w') := by
        intro w
        by_cases hg : m < 256 ^ wd
        · exact (put_ok m wd hm h1 h8 hg w).mono fun e w' h => ⟨⟨_, _, h.1⟩, h.2⟩
        · exact (put_long m wd hm h1 h8 (by omega) w).mono fun e w' h => ⟨⟨_, _, h.1⟩, h.2 ▸ Below.refl _ _⟩
      go_enter Try.func5, Try.ntmps5
      go_wp2_with fail
      refine (put_long n wd hn h1 h8 HF.out _).mono ?_
      rintro e w1 ⟨rfl, rfl⟩
      go_wp2_with fail
      refine (hany.out _).mono ?_
      rintro e w2 ⟨⟨s, k, rfl⟩, hb2⟩
      go_wp2_with fail
      refine (awake_any _).mono ?_
      rintro e w3 ⟨rfl, hb3⟩
      go_wp2
      go_ret
      exact ⟨rfl, hb2.trans (hb3.mono hb2.size)⟩

set_option maxRecDepth 100000 in
theorem lifted (os : Os) (started : os.Started) (H : Type) (enc : TypeId × Value → H) :
    ReturnsInHanded {} Try.checked os 5 .any (Rows.fieldRisesSpec.pre6 enc Try.prog Try.f5 Rows.fieldRisesRow.domain false) (Rows.fieldRisesSpec.post enc Try.prog Try.f5 false true false false) := by
  refine returnsInHanded_of_change_sized (C := Try.checked) own started (by kernel_rfl) Try.func5
    (ChangeSpec.witness6 (enc := enc) (C := Try.checked) false ⟨#[], #[.int .u64 0, .int .u64 0, .int .i64 0], []⟩ 8 (by kernel_rfl) (by kernel_rfl) (by kernel_rfl) (by kernel_rfl)) ?_
  intro W base args ds gs before hval0 hW hcnd hsz0 _
  have hval : ∀ (j : Nat) t v, Try.f5.params[j]? = some t → args[j]? = some v → Value.okWide Try.prog W .any base t v := hval0
  have hW' := hW
  obtain ⟨p, q, hA0, hV, rfl, hfz, hnd⟩ := hW
  have hA : DataW.TrodAll enc Try.prog W 0 (fun _ => true) true Try.f5.params.toList args.toList ds p := hA0
  have hsz : (DataW.weightsEach Try.prog (Try.f5.params.toList ++ Rows.fieldRisesSpec.plain.varTypes Try.prog) (ds ++ gs)).all (· ≤ reachBytes) = true := hsz0
  rw [Try.params5] at hA hval hsz
  obtain ⟨v0, vs0, d0, ds0, p0, q0, hargs, rfl, rfl, h0, r0⟩ := trodAll_cons hA
  obtain ⟨v1, vs1, d1, ds1, p1, q1, rfl, rfl, rfl, h1, r1⟩ := trodAll_cons r0
  obtain ⟨v2, vs2, d2, ds2, p2, q2, rfl, rfl, rfl, h2, r2⟩ := trodAll_cons r1
  obtain ⟨rfl, rfl, rfl⟩ := trodAll_nil r2
  obtain rfl : args = #[v0, v1, v2] := by cases args; simp_all
  obtain ⟨rfl, rfl⟩ := trodVars_none hV
  obtain ⟨a0, rfl, rfl, rfl, w0⟩ := open_int Try.underlying33 (hval 0 33 v0 rfl rfl) h0
  obtain ⟨a1, rfl, rfl, rfl, w1⟩ := open_int Try.underlying33 (hval 1 33 v1 rfl rfl) h1
  obtain ⟨a2, rfl, rfl, rfl, w2⟩ := open_int Try.underlying3 (hval 2 3 v2 rfl rfl) h2
  clear hA0 hval0 hsz0
  refine (walk a0 a1 a2 W w0 w1 w2).mono fun e W' ⟨he, bel⟩ => ?_
  subst he
  exact ⟨_, rfl, _, _, _, [], _, [], hW', trodAll_mk1 (shut_bool Try.underlying4 _), (trodAll_cons_mk (shut_int Try.underlying33 w0) (trodAll_cons_mk (shut_int Try.underlying33 w1) (trodAll_cons_mk (shut_int Try.underlying3 w2) trodAll_mk0))), rfl, bel.frame _, fun h => by cases h⟩

theorem over : Rows.fieldRisesRow.holds Try.pinned (OpenSpec.ofChange Rows.fieldRisesSpec) :=
  OpenClaim.holds_of_wide 5 Try.f5 rfl rfl rfl rfl rfl rfl rfl ⟨rfl, rfl, rfl, rfl, rfl⟩ rfl rfl rfl rfl rfl (by kernel_rfl) Try.func5 (by kernel_rfl)
    (of_decide_eq_true (by kernel_rfl)) (by unfold Func.isWrapper; first | (rw [if_pos (by decide +kernel)]; kernel_rfl) | (rw [if_neg (by decide +kernel)]; exact ⟨rfl, rfl⟩))
    (fun os started H enc _ => lifted os started H enc)

theorem proved : Rows.FieldRisesSaid := over
#print axioms proved
end Go.Proofs.Ytbabeiehdjccpab.fieldRises
