/- The law FieldOne holds: its Go text answers true for every input, and leaves its arguments as they were. No condition beyond the statement's own. -/
import Derived.Test.YtbabeiehdjccpabRows
import Derived.Test.YtbabeiehdjccpabRow
import Derived.Test.YtbabeiehdjccpabSame
import Derived.Test.YtbabeiehdjccpabAwake1
import Derived.ProofKit
import Derived.OpenShut
import Derived.ShutString
import Derived.ChangeOld
import Derived.Below
import Derived.SizedLaws
namespace Go.Proofs.Ytbabeiehdjccpab.fieldOne
open Go.ChangeShapes Go.WideShapes Go.ChangeAt Go.RowKit
open Go.ChangeMaps (open_string shut_string)
open Go.Proofs.Ytbabeiehdjccpab.FM
set_option linter.unusedVariables false
set_option linter.unusedSimpArgs false

theorem own : ownKnob Try.prog.godebug = none := by kernel_rfl
theorem laidOut : laidOutB Try.prog = true := by kernel_rfl

/-- What was taken makes the bytes that were taken. -/
theorem rowl_take (s : List UInt8) (Z : Nat → Int) (k : Nat) (h : pos Z k ≤ s.length) : rowl (fun i => (num s Z i : Int)) Z k = s.take (pos Z k) := by
  induction k with
  | zero => simp [rowl, pos]
  | succ k ih =>
    have h1 : pos Z (k + 1) = pos Z k + (Z k).toNat := rfl
    rw [h1] at h
    rw [rowl, ih (by omega), h1]
    have hl : ((s.drop (pos Z k)).take (Z k).toNat).length = (Z k).toNat := by rw [List.length_take, List.length_drop]; omega
    have hf : fb (num s Z k) (Z k).toNat = (s.drop (pos Z k)).take (Z k).toNat := by
      have h2 := fb_val ((s.drop (pos Z k)).take (Z k).toNat)
      rw [hl] at h2
      exact h2
    rw [show ((fun i => (num s Z i : Int)) k).toNat = num s Z k from rfl, hf, List.take_add]
theorem num_fits (s : List UInt8) (Z : Nat → Int) (k : Nat) : num s Z k < 256 ^ (Z k).toNat := by
  have h := val_lt ((s.drop (pos Z k)).take (Z k).toNat)
  exact Nat.lt_of_lt_of_le h (Nat.pow_le_pow_right (by decide) (by rw [List.length_take]; omega))
theorem whole (s : ByteArray) (p : Nat) (h : p ≤ s.size) : str (s.data.toList.take p) ++ s.extract p s.size = s := by
  apply ByteArray.ext
  apply Array.toList_inj.1
  have e := cutAt_list s p
  unfold cutAt at e
  rw [ByteArray.data_append, Array.toList_append, e]
  show s.data.toList.take p ++ s.data.toList.drop p = _
  exact List.take_append_drop p _

set_option maxHeartbeats 1600000 in
theorem walk (a0 : ByteArray) (a1 : Option Addr) (len1 cap1 : Nat) (z1 : List Int) (w : World) (w0 : a0.size ≤ 140737488351232) (w1 : FM.IsRow .i64 w a1 len1 cap1 z1) :
    Calls Try.prog 3 #[.string a0, .slice a1 len1 cap1] w fun e w' => e = .returned (.bool true) ∧ Below w.heap.size w w' := by
  obtain ⟨hr, hlc, hwf⟩ := w1.row
  clear w1 hwf
  generalize (fun i => z1.getD i 0) = Z at hr
  by_cases hlen : 300 < len1
  · clear hr
    go_enter Try.func3, Try.ntmps3
    go_wp2_with fail
    refine (awake_any _).mono ?_
    rintro e w1 ⟨rfl, hb1⟩
    go_wp2
    go_ret
    exact ⟨rfl, hb1⟩
  · have hl : len1 ≤ 300 := by omega
    by_cases hbad : ∃ i, i < len1 ∧ Bad (Z i)
    · have H1 := Lib.hid (take_arg a0 a1 len1 cap1 Z hl w hr hbad)
      clear hbad hr
      go_enter Try.func3, Try.ntmps3
      go_wp2_with fail
      refine H1.out.mono ?_
      rintro e w1 ⟨rfl, rfl⟩
      go_wp2_with fail
      refine (awake_any _).mono ?_
      rintro e w3 ⟨rfl, hb3⟩
      go_wp2
      go_ret
      exact ⟨rfl, hb3⟩
    · have hok : ∀ i, i < len1 → ¬ Bad (Z i) := fun i hi h => hbad ⟨i, hi, h⟩
      obtain ⟨J, hJ, hin, hout⟩ := place_of Z len1 a0.size
      have H1 := Lib.hid (take_good a0 w0 a1 len1 cap1 Z hl w hr hok J hJ hin hout)
      by_cases hJl : J = len1
      · subst hJl
        have hfit : ∀ i, (((fun i => (num a0.data.toList Z i : Int)) i).toNat) < 256 ^ (Z i).toNat := fun i => num_fits a0.data.toList Z i
        have h64 : ∀ i, i < J → 0 ≤ (num a0.data.toList Z i : Int) ∧ (num a0.data.toList Z i : Int) < 18446744073709551616 := by
          intro i hi
          have h1 := num_fits a0.data.toList Z i
          have h2 := (not_bad (hok i hi)).2
          have h3 : 256 ^ (Z i).toNat ≤ 256 ^ 8 := Nat.pow_le_pow_right (by decide) (by omega)
          omega
        have H2 : Hid (∀ (b1 : Option Addr) (c1 : Nat) w1, Below w.heap.size w w1 → FM.Row .u64 w1 b1 J (fun i => (num a0.data.toList Z i : Int)) → Calls Try.prog 11 #[.slice b1 J c1, .slice a1 J cap1] w1 (RowEnd (fun i => (num a0.data.toList Z i : Int)) Z J J w1)) := fun b1 c1 w1 hb hn =>
          row_good b1 a1 J c1 cap1 _ Z hl w1 hn (hr.kept hb (Nat.le_refl _)) h64 hok J (Nat.le_refl _) (fun i _ => hfit i) (fun h => by omega)
        have hcat := whole a0 (pos Z J) hin
        have hrow := rowl_take a0.data.toList Z J (by rw [Array.length_toList]; exact hin)
        obtain ⟨T, hT⟩ : ∃ T, T = str (a0.data.toList.take (pos Z J)) := ⟨_, rfl⟩
        obtain ⟨R, hR⟩ : ∃ R, R = a0.extract (pos Z J) a0.size := ⟨_, rfl⟩
        have hTs : T.size ≤ 140737488351232 := by rw [hT, str_size, List.length_take]; have : pos Z J ≤ a0.size := hin; omega
        have hRs : R.size ≤ 140737488351232 := by rw [hR, ByteArray.size_extract]; omega
        rw [← hT, ← hR] at hcat
        have HC := Lib.hid hcat
        have HT : Hid (str (rowl (fun i => (num a0.data.toList Z i : Int)) Z J) = T) := by rw [hrow, hT]; rfl
        have HR := Lib.hid hR
        clear hbad hok hout hr hin hfit h64 hcat hrow hT hR
        go_enter Try.func3, Try.ntmps3
        go_wp2_with fail
        refine H1.out.mono ?_
        rintro e w1 h1
        obtain ⟨v1, rfl, hown1, hb1⟩ := h1.1 rfl
        obtain ⟨b1, c1, rfl, hr1⟩ := own_row hown1
        rw [← HR.out]
        have H3 := Lib.hid (H2.out b1 c1 w1 hb1 hr1)
        clear h1 hown1 hr1
        go_wp2_with fail
        refine H3.out.mono ?_
        rintro e w2 h2
        obtain ⟨rfl, hb2⟩ := h2.1 rfl
        rw [HT.out]
        clear h2
        go_wp2_with fail
        refine (awake_any _).mono ?_
        rintro e w3 ⟨rfl, hb3⟩
        have hb : Below w.heap.size w w3 := hb1.trans ((hb2.mono hb1.size).trans (hb3.mono (Nat.le_trans hb1.size hb2.size)))
        have hfin : (T ++ R).toList = a0.toList := by rw [HC.out]
        go_wp2
        go_ret
        exact ⟨rfl, hb⟩
      · have hJlt : J < len1 := by omega
        clear hbad hok hout hr hin
        go_enter Try.func3, Try.ntmps3
        go_wp2_with fail
        refine H1.out.mono ?_
        rintro e w1 h1
        obtain ⟨rfl, hb1⟩ := h1.2 hJlt
        clear h1
        go_wp2_with fail
        refine (awake_any _).mono ?_
        rintro e w3 ⟨rfl, hb3⟩
        have hb := hb1.trans (hb3.mono hb1.size)
        go_wp2
        go_ret
        exact ⟨rfl, hb⟩

set_option maxRecDepth 100000 in
theorem lifted (os : Os) (started : os.Started) (H : Type) (enc : TypeId × Value → H) :
    ReturnsInHanded {} Try.checked os 3 .any (Rows.fieldOneSpec.pre6 enc Try.prog Try.f3 Rows.fieldOneRow.domain false) (Rows.fieldOneSpec.post enc Try.prog Try.f3 false true false false) := by
  refine returnsInHanded_of_change_sized (C := Try.checked) own started (by kernel_rfl) Try.func3
    (ChangeSpec.witness6 (enc := enc) (C := Try.checked) false ⟨#[], #[.string ByteArray.empty, .slice none 0 0], []⟩ 8 (by kernel_rfl) (by kernel_rfl) (by kernel_rfl) (by kernel_rfl)) ?_
  intro W base args ds gs before hval0 hW hcnd hsz0 _
  have hval : ∀ (j : Nat) t v, Try.f3.params[j]? = some t → args[j]? = some v → Value.okWide Try.prog W .any base t v := hval0
  have hW' := hW
  obtain ⟨p, q, hA0, hV, rfl, hfz, hnd⟩ := hW
  have hA : DataW.TrodAll enc Try.prog W 0 (fun _ => true) true Try.f3.params.toList args.toList ds p := hA0
  have hsz : (DataW.weightsEach Try.prog (Try.f3.params.toList ++ Rows.fieldOneSpec.plain.varTypes Try.prog) (ds ++ gs)).all (· ≤ reachBytes) = true := hsz0
  rw [Try.params3] at hA hval hsz
  obtain ⟨v0, vs0, d0, ds0, p0, q0, hargs, rfl, rfl, h0, r0⟩ := trodAll_cons hA
  obtain ⟨v1, vs1, d1, ds1, p1, q1, rfl, rfl, rfl, h1, r1⟩ := trodAll_cons r0
  obtain ⟨rfl, rfl, rfl⟩ := trodAll_nil r1
  obtain rfl : args = #[v0, v1] := by cases args; simp_all
  obtain ⟨rfl, rfl⟩ := trodVars_none hV
  obtain ⟨a0, rfl, rfl, rfl, m0⟩ := open_string Try.underlying9 (hval 0 9 v0 rfl rfl) h0
  obtain ⟨a1, len1, cap1, rfl⟩ := okWide_slice Try.underlying22 (hval 1 22 v1 rfl rfl)
  have k1 := h1
  have lt1 : ∀ x ∈ p1, x.block < W.heap.size := by obtain ⟨m, hm⟩ := k1; exact DataW.trod_lt m _ _ _ hm
  obtain ⟨z1, w1⟩ : ∃ zs, FM.IsRow .i64 W a1 len1 cap1 zs := by
    obtain ⟨fuel, hf⟩ := h1
    rcases open_ints Try.underlying22 Try.underlying3 (by kernel_rfl) hf with ⟨hcs, _⟩ | ⟨x, l, c, zs, hcs, _, hl, hm, hz, _, hcell, hwz⟩
    · simp [Value.cells] at hcs
      obtain ⟨rfl, rfl, rfl⟩ := hcs
      exact ⟨[], .inl ⟨rfl, rfl, rfl, rfl⟩⟩
    · simp [Value.cells] at hcs
      obtain ⟨rfl, rfl, rfl⟩ := hcs
      exact ⟨zs, .inr ⟨_, rfl, hl, hm, by simpa using hz, hcell, hwz⟩⟩
  have w0 : a0.size ≤ 140737488351232 := by have := sized_string hsz (j := 0) (t := 9) (bytes := a0.data.toList) rfl rfl; simpa [reachBytes] using this
  clear hA0 hval0 hsz0
  refine (walk a0 a1 len1 cap1 z1 W w0 w1).mono fun e W' ⟨he, bel⟩ => ?_
  subst he
  exact ⟨_, rfl, _, _, _, [], _, [], hW', trodAll_mk1 (shut_bool Try.underlying4 _), (trodAll_cons_mk (shut_string Try.underlying9 m0) (trodAll_cons_mk (Below.trod laidOut (by kernel_rfl) (of_decide_eq_true (by kernel_rfl)) k1 bel lt1) trodAll_mk0)), rfl, bel.frame _, fun h => by cases h⟩

theorem over : Rows.fieldOneRow.holds Try.pinned (OpenSpec.ofChange Rows.fieldOneSpec) :=
  OpenClaim.holds_of_wide 3 Try.f3 rfl rfl rfl rfl rfl rfl rfl ⟨rfl, rfl, rfl, rfl, rfl⟩ rfl rfl rfl rfl rfl (by kernel_rfl) Try.func3 (by kernel_rfl)
    (of_decide_eq_true (by kernel_rfl)) (by unfold Func.isWrapper; first | (rw [if_pos (by decide +kernel)]; kernel_rfl) | (rw [if_neg (by decide +kernel)]; exact ⟨rfl, rfl⟩))
    (fun os started H enc _ => lifted os started H enc)

theorem proved : Rows.FieldOneSaid := over
#print axioms proved
end Go.Proofs.Ytbabeiehdjccpab.fieldOne
