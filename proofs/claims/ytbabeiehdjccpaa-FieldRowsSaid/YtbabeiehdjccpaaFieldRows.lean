/- The law FieldRows holds: its Go text answers true for every input, and leaves its arguments as they were. No condition beyond the statement's own. -/
import Derived.Test.YtbabeiehdjccpaaRows
import Derived.Test.YtbabeiehdjccpaaRefRow
import Derived.Test.YtbabeiehdjccpaaAwake1
import Derived.ProofKit
import Derived.OpenShut
import Derived.ShutString
import Derived.ChangeOld
import Derived.Below
import Derived.SizedLaws
namespace Go.Proofs.Ytbabeiehdjccpaa.fieldRows
open Go.ChangeShapes Go.WideShapes Go.ChangeAt Go.RowKit
open Go.ChangeMaps (open_string shut_string)
open Go.Proofs.Ytbabeiehdjccpaa.FM
set_option linter.unusedVariables false
set_option linter.unusedSimpArgs false

theorem own : ownKnob Try.prog.godebug = none := by kernel_rfl
theorem laidOut : laidOutB Try.prog = true := by kernel_rfl

theorem u64_bounds {x : Int} (h : (Lit.int .u64 x).wf = true) : 0 ≤ x ∧ x < 18446744073709551616 := by
  have : 0 ≤ x ∧ x ≤ 18446744073709551615 := by simpa [Lit.wf, IntKind.min, IntKind.max, IntKind.signed, IntKind.bits] using h
  omega

set_option maxHeartbeats 1600000 in
/-- Both answer alike: the law answers true. -/
theorem alike (a0 a1 : Option Addr) (len0 cap0 len1 cap1 : Nat) (h0 : len0 ≤ 300) (h1 : len1 ≤ 300) (S : ByteArray) (k : Int) (w : World)
    (H1 : Hid (Calls Try.prog 14 #[.slice a0 len0 cap0, .slice a1 len1 cap1] w fun e w' => e = .returned (.tuple #[.string S, .int .i64 k]) ∧ Below w.heap.size w w'))
    (H2 : Hid (∀ w1, Below w.heap.size w w1 → Calls Try.prog 15 #[.slice a0 len0 cap0, .slice a1 len1 cap1] w1 fun e w' => e = .returned (.tuple #[.string S, .int .i64 k]) ∧ Below w1.heap.size w1 w')) :
    Calls Try.prog 5 #[.slice a0 len0 cap0, .slice a1 len1 cap1] w fun e w' => e = .returned (.bool true) ∧ Below w.heap.size w w' := by
  go_enter Try.func5, Try.ntmps5
  go_wp2_with fail
  refine H1.out.mono ?_
  rintro e w1 ⟨rfl, hb1⟩
  go_wp2_with fail
  refine (H2.out _ hb1).mono ?_
  rintro e w2 ⟨rfl, hb2⟩
  go_wp2_with fail
  refine (awake_any _).mono ?_
  rintro e w3 ⟨rfl, hb3⟩
  have hb : Below w.heap.size w w3 := hb1.trans ((hb2.mono hb1.size).trans (hb3.mono (Nat.le_trans hb1.size hb2.size)))
  go_wp2
  go_ret
  exact ⟨rfl, hb⟩

set_option maxHeartbeats 800000 in
theorem walk (a0 : Option Addr) (len0 cap0 : Nat) (z0 : List Int) (a1 : Option Addr) (len1 cap1 : Nat) (z1 : List Int) (w : World) (w0 : FM.IsRow .u64 w a0 len0 cap0 z0) (w1 : FM.IsRow .i64 w a1 len1 cap1 z1) :
    Calls Try.prog 5 #[.slice a0 len0 cap0, .slice a1 len1 cap1] w fun e w' => e = .returned (.bool true) ∧ Below w.heap.size w w' := by
  obtain ⟨hn, hlc0, hwf0⟩ := w0.row
  obtain ⟨hr, hlc1, hwf1⟩ := w1.row
  clear w0 w1 hwf1
  have hN : ∀ i, i < len0 → 0 ≤ (fun i => z0.getD i 0) i ∧ (fun i => z0.getD i 0) i < 18446744073709551616 := fun i hi => u64_bounds (hwf0 i hi)
  generalize (fun i => z0.getD i 0) = N at hn hN
  generalize (fun i => z1.getD i 0) = Z at hr
  by_cases hl0 : 300 < len0
  · clear hn hr hN hwf0
    go_enter Try.func5, Try.ntmps5
    go_wp2_with fail
    refine (awake_any _).mono ?_
    rintro e w1 ⟨rfl, hb1⟩
    go_wp2
    go_ret
    exact ⟨rfl, hb1⟩
  · by_cases hl1 : 300 < len1
    · clear hn hr hN hwf0
      go_enter Try.func5, Try.ntmps5
      go_wp2_with fail
      refine (awake_any _).mono ?_
      rintro e w1 ⟨rfl, hb1⟩
      go_wp2
      go_ret
      exact ⟨rfl, hb1⟩
    · by_cases hne : len0 = len1
      · subst hne
        by_cases hbad : ∃ i, i < len0 ∧ Bad (Z i)
        · exact alike a0 a1 len0 cap0 len0 cap1 (by omega) (by omega) ⟨#[]⟩ 1 w (Lib.hid ((row_bad a0 a1 len0 cap0 cap1 Z (by omega) w hr hbad).mono fun e w' h => ⟨h.1, h.2 ▸ Below.refl _ _⟩)) (Lib.hid fun w1 hb => rrow_bad a0 a1 len0 cap0 cap1 Z (by omega) w1 (hr.kept hb (Nat.le_refl _)) hbad)
        · have hok : ∀ i, i < len0 → ¬ Bad (Z i) := fun i hi h => hbad ⟨i, hi, h⟩
          by_cases hf : ∃ i, i < len0 ∧ 256 ^ (Z i).toNat ≤ (N i).toNat
          · obtain ⟨J, hJ, hp, hq⟩ := first_place (fun i => 256 ^ (Z i).toNat ≤ (N i).toNat) len0 hf
            exact alike a0 a1 len0 cap0 len0 cap1 (by omega) (by omega) ⟨#[]⟩ 2 w
              (Lib.hid ((row_good a0 a1 len0 cap0 cap1 N Z (by omega) w hn hr hN hok J (by omega) (fun i hi => Nat.lt_of_not_le (hq i hi)) (fun _ => hp)).mono fun e w' h => h.2 hJ))
              (Lib.hid fun w1 hb => (rrow_good a0 a1 len0 cap0 cap1 N Z (by omega) w1 (hn.kept hb (Nat.le_refl _)) (hr.kept hb (Nat.le_refl _)) hN hok J (by omega) (fun i hi => Nat.lt_of_not_le (hq i hi)) (fun _ => hp)).mono fun e w' h => h.2 hJ)
          · have hq : ∀ i, i < len0 → (N i).toNat < 256 ^ (Z i).toNat := fun i hi => Nat.lt_of_not_le (fun h => hf ⟨i, hi, h⟩)
            exact alike a0 a1 len0 cap0 len0 cap1 (by omega) (by omega) _ 0 w
              (Lib.hid ((row_good a0 a1 len0 cap0 cap1 N Z (by omega) w hn hr hN hok len0 (Nat.le_refl _) hq (fun h => by omega)).mono fun e w' h => h.1 rfl))
              (Lib.hid fun w1 hb => (rrow_good a0 a1 len0 cap0 cap1 N Z (by omega) w1 (hn.kept hb (Nat.le_refl _)) (hr.kept hb (Nat.le_refl _)) hN hok len0 (Nat.le_refl _) hq (fun h => by omega)).mono fun e w' h => h.1 rfl)
      · exact alike a0 a1 len0 cap0 len1 cap1 (by omega) (by omega) ⟨#[]⟩ 1 w (Lib.hid ((row_len a0 a1 len0 cap0 len1 cap1 hne w).mono fun e w' h => ⟨h.1, h.2 ▸ Below.refl _ _⟩)) (Lib.hid fun w1 hb => (rrow_len a0 a1 len0 cap0 len1 cap1 hne w1).mono fun e w' h => ⟨h.1, h.2 ▸ Below.refl _ _⟩)

set_option maxRecDepth 100000 in
theorem lifted (os : Os) (started : os.Started) (H : Type) (enc : TypeId × Value → H) :
    ReturnsInHanded {} Try.checked os 5 .any (Rows.fieldRowsSpec.pre6 enc Try.prog Try.f5 Rows.fieldRowsRow.domain false) (Rows.fieldRowsSpec.post enc Try.prog Try.f5 false true false false) := by
  refine returnsInHanded_of_change_sized (C := Try.checked) own started (by kernel_rfl) Try.func5
    (ChangeSpec.witness6 (enc := enc) (C := Try.checked) false ⟨#[], #[.slice none 0 0, .slice none 0 0], []⟩ 8 (by kernel_rfl) (by kernel_rfl) (by kernel_rfl) (by kernel_rfl)) ?_
  intro W base args ds gs before hval0 hW hcnd hsz0 _
  have hval : ∀ (j : Nat) t v, Try.f5.params[j]? = some t → args[j]? = some v → Value.okWide Try.prog W .any base t v := hval0
  have hW' := hW
  obtain ⟨p, q, hA0, hV, rfl, hfz, hnd⟩ := hW
  have hA : DataW.TrodAll enc Try.prog W 0 (fun _ => true) true Try.f5.params.toList args.toList ds p := hA0
  have hsz : (DataW.weightsEach Try.prog (Try.f5.params.toList ++ Rows.fieldRowsSpec.plain.varTypes Try.prog) (ds ++ gs)).all (· ≤ reachBytes) = true := hsz0
  rw [Try.params5] at hA hval hsz
  obtain ⟨v0, vs0, d0, ds0, p0, q0, hargs, rfl, rfl, h0, r0⟩ := trodAll_cons hA
  obtain ⟨v1, vs1, d1, ds1, p1, q1, rfl, rfl, rfl, h1, r1⟩ := trodAll_cons r0
  obtain ⟨rfl, rfl, rfl⟩ := trodAll_nil r1
  obtain rfl : args = #[v0, v1] := by cases args; simp_all
  obtain ⟨rfl, rfl⟩ := trodVars_none hV
  obtain ⟨a0, len0, cap0, rfl⟩ := okWide_slice Try.underlying35 (hval 0 35 v0 rfl rfl)
  have k0 := h0
  have lt0 : ∀ x ∈ p0, x.block < W.heap.size := by obtain ⟨m, hm⟩ := k0; exact DataW.trod_lt m _ _ _ hm
  obtain ⟨z0, w0⟩ : ∃ zs, FM.IsRow .u64 W a0 len0 cap0 zs := by
    obtain ⟨fuel, hf⟩ := h0
    rcases open_ints Try.underlying35 Try.underlying22 (by kernel_rfl) hf with ⟨hcs, _⟩ | ⟨x, l, c, zs, hcs, _, hl, hm, hz, _, hcell, hwz⟩
    · simp [Value.cells] at hcs
      obtain ⟨rfl, rfl, rfl⟩ := hcs
      exact ⟨[], .inl ⟨rfl, rfl, rfl, rfl⟩⟩
    · simp [Value.cells] at hcs
      obtain ⟨rfl, rfl, rfl⟩ := hcs
      exact ⟨zs, .inr ⟨_, rfl, hl, hm, by simpa using hz, hcell, hwz⟩⟩
  obtain ⟨a1, len1, cap1, rfl⟩ := okWide_slice Try.underlying36 (hval 1 36 v1 rfl rfl)
  have k1 := h1
  have lt1 : ∀ x ∈ p1, x.block < W.heap.size := by obtain ⟨m, hm⟩ := k1; exact DataW.trod_lt m _ _ _ hm
  obtain ⟨z1, w1⟩ : ∃ zs, FM.IsRow .i64 W a1 len1 cap1 zs := by
    obtain ⟨fuel, hf⟩ := h1
    rcases open_ints Try.underlying36 Try.underlying3 (by kernel_rfl) hf with ⟨hcs, _⟩ | ⟨x, l, c, zs, hcs, _, hl, hm, hz, _, hcell, hwz⟩
    · simp [Value.cells] at hcs
      obtain ⟨rfl, rfl, rfl⟩ := hcs
      exact ⟨[], .inl ⟨rfl, rfl, rfl, rfl⟩⟩
    · simp [Value.cells] at hcs
      obtain ⟨rfl, rfl, rfl⟩ := hcs
      exact ⟨zs, .inr ⟨_, rfl, hl, hm, by simpa using hz, hcell, hwz⟩⟩
  clear hA0 hval0 hsz0
  refine (walk a0 len0 cap0 z0 a1 len1 cap1 z1 W w0 w1).mono fun e W' ⟨he, bel⟩ => ?_
  subst he
  exact ⟨_, rfl, _, _, _, [], _, [], hW', trodAll_mk1 (shut_bool Try.underlying4 _), (trodAll_cons_mk (Below.trod laidOut (by kernel_rfl) (of_decide_eq_true (by kernel_rfl)) k0 bel lt0) (trodAll_cons_mk (Below.trod laidOut (by kernel_rfl) (of_decide_eq_true (by kernel_rfl)) k1 bel lt1) trodAll_mk0)), rfl, bel.frame _, fun h => by cases h⟩

theorem over : Rows.fieldRowsRow.holds Try.pinned (OpenSpec.ofChange Rows.fieldRowsSpec) :=
  OpenClaim.holds_of_wide 5 Try.f5 rfl rfl rfl rfl rfl rfl rfl ⟨rfl, rfl, rfl, rfl, rfl⟩ rfl rfl rfl rfl rfl (by kernel_rfl) Try.func5 (by kernel_rfl)
    (of_decide_eq_true (by kernel_rfl)) (by unfold Func.isWrapper; first | (rw [if_pos (by decide +kernel)]; kernel_rfl) | (rw [if_neg (by decide +kernel)]; exact ⟨rfl, rfl⟩))
    (fun os started H enc _ => lifted os started H enc)

theorem proved : Rows.FieldRowsSaid := over
#print axioms proved
end Go.Proofs.Ytbabeiehdjccpaa.fieldRows
