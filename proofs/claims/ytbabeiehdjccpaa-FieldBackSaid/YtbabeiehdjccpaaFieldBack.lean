/- The law FieldBack holds: its Go text answers true for every input, and leaves its arguments as they were. No condition beyond the statement's own. -/
import Derived.Test.YtbabeiehdjccpaaRows
import Derived.Test.YtbabeiehdjccpaaOpen
import Derived.Test.YtbabeiehdjccpaaAwake1
import Derived.ProofKit
import Derived.OpenShut
import Derived.ShutString
import Derived.ChangeOld
import Derived.Below
import Derived.SizedLaws
namespace Go.Proofs.Ytbabeiehdjccpaa.fieldBack
open Go.ChangeShapes Go.WideShapes Go.ChangeAt Go.RowKit
open Go.ChangeMaps (open_string shut_string)
open Go.Proofs.Ytbabeiehdjccpaa.FM
set_option linter.unusedVariables false
set_option linter.unusedSimpArgs false

theorem own : ownKnob Try.prog.godebug = none := by kernel_rfl
theorem laidOut : laidOutB Try.prog = true := by kernel_rfl

theorem u64_bounds {x : Int} (h : (Lit.int .u64 x).wf = true) : 0 ≤ x ∧ x < 18446744073709551616 := by
  have : 0 ≤ x ∧ x ≤ 18446744073709551615 := by simpa [Lit.wf, IntKind.min, IntKind.max, IntKind.signed, IntKind.bits] using h
  omega
theorem mid_list (a b : ByteArray) (l : List UInt8) : (a ++ str l ++ b).data.toList = a.data.toList ++ (l ++ b.data.toList) := by
  simp [str]
theorem mid_val (a b : ByteArray) (n wd : Nat) (hf : n < 256 ^ wd) : val (((a ++ str (fb n wd) ++ b).data.toList.drop a.size).take wd) = n := by
  rw [mid_list, List.drop_left' (by simp), List.take_left' (fb_length n wd), val_fb]
  exact Nat.mod_eq_of_lt hf
theorem mid_size (a b : ByteArray) (n wd : Nat) : (a ++ str (fb n wd) ++ b).size = a.size + wd + b.size := by
  simp [ByteArray.size_append, str_size, fb_length]

set_option maxHeartbeats 800000 in
theorem walk (a0 : Int) (a1 : Int) (a2 b2 : ByteArray) (w : World) (w0 : (Lit.int .u64 a0).wf = true) (w1 : (Lit.int .i64 a1).wf = true) (w2 : a2.size ≤ 140737488351232 ∧ b2.size ≤ 140737488351232) :
    Calls Try.prog 8 #[.int .u64 a0, .int .i64 a1, .agg #[.string a2, .string b2]] w fun e w' => e = .returned (.bool true) ∧ Below w.heap.size w w' := by
  have hsa : a2.size ≤ 4611686018427387904 := by have := w2.1; omega
  have hsb : b2.size ≤ 4611686018427387000 := by have := w2.2; omega
  by_cases hb : a1 < 1 ∨ 8 < a1
  · have H := Lib.hid hb
    clear hb
    go_enter Try.func8, Try.ntmps8
    go_wp2_with fail
    refine (put_arg a0 a1 H.out _).mono ?_
    rintro e w1 ⟨rfl, rfl⟩
    go_wp2_with fail
    refine (awake_any _).mono ?_
    rintro e w1 ⟨rfl, hb1⟩
    have hemp : (str []).toList.isEmpty = true := by rw [str_toList]; rfl
    go_wp2
    go_ret
    exact ⟨rfl, ((Below.refl _ _).alloc (Nat.le_refl _) _).trans (hb1.mono (by simp))⟩
  · obtain ⟨h0, hlt⟩ := u64_bounds w0
    obtain ⟨n, rfl⟩ := Int.eq_ofNat_of_zero_le h0
    obtain ⟨wd, rfl⟩ := Int.eq_ofNat_of_zero_le (show 0 ≤ a1 by omega)
    have h1 : 1 ≤ wd := by omega
    have h8 : wd ≤ 8 := by omega
    have hn : n < 18446744073709551616 := by omega
    clear hb w0 w1 w2 h0 hlt
    by_cases hf : n < 256 ^ wd
    · have HF := Lib.hid hf
      have HV := Lib.hid (mid_val a2 b2 n wd hf)
      have HS := Lib.hid (mid_size a2 b2 n wd)
      have hg := get_ok (a2 ++ str (fb n wd) ++ b2) (by rw [HS.out]; omega) a2.size wd h1 h8 (by rw [HS.out]; omega)
      rw [HV.out] at hg
      have HG := Lib.hid hg
      have hz1 : (str (fb n wd)).size ≤ 8 := by rw [str_size, fb_length]; exact h8
      have hz2 : (a2 ++ str (fb n wd)).size ≤ 4611686018427387920 := by rw [ByteArray.size_append, str_size, fb_length]; omega
      clear hf hg
      go_enter Try.func8, Try.ntmps8
      go_wp2_with fail
      refine (put_ok n wd hn h1 h8 HF.out _).mono ?_
      rintro e w1 ⟨rfl, hb1⟩
      have hc0 : w1.cell? ⟨w.heap.size, 0, none⟩ = some (.string a2) := by rw [hb1.cell (by simp)]; simp [World.cell?_alloc_new]
      have hc1 : w1.cell? ⟨w.heap.size, 1, none⟩ = some (.string b2) := by rw [hb1.cell (by simp)]; simp [World.cell?_alloc_new]
      go_wp2_with fail
      refine (HG.out _).mono ?_
      rintro e w2 ⟨rfl, rfl⟩
      go_wp2_with fail
      refine (awake_any _).mono ?_
      rintro e w3 ⟨rfl, hb3⟩
      have hz : (str (fb n wd)).size = wd := by rw [str_size, fb_length]
      go_wp2
      go_ret
      exact ⟨rfl, ((Below.refl _ _).alloc (Nat.le_refl _) _).trans ((hb1.mono (by simp)).trans (hb3.mono (Nat.le_trans (by simp) hb1.size)))⟩
    · have HF : Hid (256 ^ wd ≤ n) := Lib.hid (by omega)
      clear hf
      go_enter Try.func8, Try.ntmps8
      go_wp2_with fail
      refine (put_long n wd hn h1 h8 HF.out _).mono ?_
      rintro e w1 ⟨rfl, rfl⟩
      go_wp2_with fail
      refine (awake_any _).mono ?_
      rintro e w1 ⟨rfl, hb1⟩
      have hemp : (str []).toList.isEmpty = true := by rw [str_toList]; rfl
      go_wp2
      go_ret
      exact ⟨rfl, ((Below.refl _ _).alloc (Nat.le_refl _) _).trans (hb1.mono (by simp))⟩

set_option maxRecDepth 100000 in
theorem lifted (os : Os) (started : os.Started) (H : Type) (enc : TypeId × Value → H) :
    ReturnsInHanded {} Try.checked os 8 .any (Rows.fieldBackSpec.pre6 enc Try.prog Try.f8 Rows.fieldBackRow.domain false) (Rows.fieldBackSpec.post enc Try.prog Try.f8 false true false false) := by
  refine returnsInHanded_of_change_sized (C := Try.checked) own started (by kernel_rfl) Try.func8
    (ChangeSpec.witness6 (enc := enc) (C := Try.checked) false ⟨#[], #[.int .u64 0, .int .i64 0, .agg #[.string ByteArray.empty, .string ByteArray.empty]], []⟩ 8 (by kernel_rfl) (by kernel_rfl) (by kernel_rfl) (by kernel_rfl)) ?_
  intro W base args ds gs before hval0 hW hcnd hsz0 _
  have hval : ∀ (j : Nat) t v, Try.f8.params[j]? = some t → args[j]? = some v → Value.okWide Try.prog W .any base t v := hval0
  have hW' := hW
  obtain ⟨p, q, hA0, hV, rfl, hfz, hnd⟩ := hW
  have hA : DataW.TrodAll enc Try.prog W 0 (fun _ => true) true Try.f8.params.toList args.toList ds p := hA0
  have hsz : (DataW.weightsEach Try.prog (Try.f8.params.toList ++ Rows.fieldBackSpec.plain.varTypes Try.prog) (ds ++ gs)).all (· ≤ reachBytes) = true := hsz0
  rw [Try.params8] at hA hval hsz
  obtain ⟨v0, vs0, d0, ds0, p0, q0, hargs, rfl, rfl, h0, r0⟩ := trodAll_cons hA
  obtain ⟨v1, vs1, d1, ds1, p1, q1, rfl, rfl, rfl, h1, r1⟩ := trodAll_cons r0
  obtain ⟨v2, vs2, d2, ds2, p2, q2, rfl, rfl, rfl, h2, r2⟩ := trodAll_cons r1
  obtain ⟨rfl, rfl, rfl⟩ := trodAll_nil r2
  obtain rfl : args = #[v0, v1, v2] := by cases args; simp_all
  obtain ⟨rfl, rfl⟩ := trodVars_none hV
  obtain ⟨a0, rfl, rfl, rfl, w0⟩ := open_int Try.underlying22 (hval 0 22 v0 rfl rfl) h0
  obtain ⟨a1, rfl, rfl, rfl, w1⟩ := open_int Try.underlying3 (hval 1 3 v1 rfl rfl) h1
  have k2 := h2
  have lt2 : ∀ x ∈ p2, x.block < W.heap.size := by obtain ⟨m, hm⟩ := k2; exact DataW.trod_lt m _ _ _ hm
  obtain ⟨a2, b2, rfl, e2⟩ := FM.open_strs2 Try.underlying49 Try.underlying9 (by kernel_rfl) (by kernel_rfl) (hval 2 49 v2 rfl rfl) h2
  have w2 : a2.size ≤ 140737488351232 ∧ b2.size ≤ 140737488351232 := FM.sized_strs2 hsz (j := 2) (t := 49) rfl (congrArg some e2) Try.underlying49
  clear hA0 hval0 hsz0
  refine (walk a0 a1 a2 b2 W w0 w1 w2).mono fun e W' ⟨he, bel⟩ => ?_
  subst he
  exact ⟨_, rfl, _, _, _, [], _, [], hW', trodAll_mk1 (shut_bool Try.underlying4 _), (trodAll_cons_mk (shut_int Try.underlying22 w0) (trodAll_cons_mk (shut_int Try.underlying3 w1) (trodAll_cons_mk (Below.trod laidOut (by kernel_rfl) (of_decide_eq_true (by kernel_rfl)) k2 bel lt2) trodAll_mk0))), rfl, bel.frame _, fun h => by cases h⟩

theorem over : Rows.fieldBackRow.holds Try.pinned (OpenSpec.ofChange Rows.fieldBackSpec) :=
  OpenClaim.holds_of_wide 8 Try.f8 rfl rfl rfl rfl rfl rfl rfl ⟨rfl, rfl, rfl, rfl, rfl⟩ rfl rfl rfl rfl rfl (by kernel_rfl) Try.func8 (by kernel_rfl)
    (of_decide_eq_true (by kernel_rfl)) (by unfold Func.isWrapper; first | (rw [if_pos (by decide +kernel)]; kernel_rfl) | (rw [if_neg (by decide +kernel)]; exact ⟨rfl, rfl⟩))
    (fun os started H enc _ => lifted os started H enc)

theorem proved : Rows.FieldBackSaid := over
#print axioms proved
end Go.Proofs.Ytbabeiehdjccpaa.fieldBack
