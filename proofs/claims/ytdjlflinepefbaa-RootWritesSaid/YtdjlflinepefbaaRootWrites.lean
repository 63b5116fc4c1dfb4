/- The law RootWrites holds: its Go text answers true for every input, and leaves its arguments as they were. No condition beyond the statement's own. -/
import Derived.Test.YtdjlflinepefbaaRows
import Derived.Test.YtdjlflinepefbaaRtO
import Derived.Test.YtdjlflinepefbaaRtQ
import Derived.Test.YtdjlflinepefbaaOpen12
import Derived.Test.YtdjlflinepefbaaOpen
import Derived.ProofKit
import Derived.OpenShut
import Derived.ShutString
import Derived.ChangeOld
import Derived.Below
import Derived.SizedLaws
namespace Go.Proofs.Ytdjlflinepefbaa.rootWrites
open Go.ChangeShapes Go.WideShapes Go.ChangeAt Go.RowKit
open Go.ChangeMaps (open_string shut_string)
open Go.Proofs.Ytdjlflinepefbaa.FM
set_option linter.unusedVariables false
set_option linter.unusedSimpArgs false

theorem own : ownKnob Try.prog.godebug = none := by kernel_rfl
theorem laidOut : laidOutB Try.prog = true := by kernel_rfl

open MM EX OP RT FM

theorem str_self (S : ByteArray) : (S.toList == S.toList) = true := by simp

theorem big (a0 : Int) (a1 : Option Addr) (len1 cap1 : Nat) (w : World) (hbig : ¬ len1 ≤ 60) :
    Calls Try.prog 3 #[.int .i64 a0, .slice a1 len1 cap1] w fun e w' => e = .returned (.bool true) ∧ Below w.heap.size w w' := by
  have hf : (60 : Int) < (len1 : Int) := by omega
  clear hbig
  go_enter Try.func3, Try.ntmps3
  go_wp2_with fail
  refine (RT.awake_any _).mono ?_
  rintro r w2 ⟨rfl, hb2⟩
  go_wp2
  go_ret
  exact ⟨rfl, hb2⟩

set_option maxHeartbeats 2000000 in
/-- Both answer alike. -/
theorem alike (a0 : Int) (a1 : Option Addr) (len1 cap1 : Nat) (w : World) (hs : len1 ≤ 60) (S : ByteArray) (n : Int) (hS : S.size ≤ 100)
    (H1 : Hid (∀ w1, Below w.heap.size w w1 → Calls Try.prog 11 #[.int .i64 a0, .slice a1 len1 cap1] w1 fun r w' => r = .returned (.tuple #[.string S, .int .i64 n]) ∧ Below w1.heap.size w1 w'))
    (H2 : Hid (∀ w1, Below w.heap.size w w1 → Calls Try.prog 13 #[.slice a1 len1 cap1] w1 fun r w' => ∃ A m c, r = .returned (.slice A m c) ∧ Hid (∀ w2, Below w'.heap.size w' w2 → Calls Try.prog 12 #[.int .i64 a0, .slice A m c] w2 fun r w'' => r = .returned (.tuple #[.string S, .int .i64 n]) ∧ Below w2.heap.size w2 w'') ∧ Below w1.heap.size w1 w')) :
    Calls Try.prog 3 #[.int .i64 a0, .slice a1 len1 cap1] w fun e w' => e = .returned (.bool true) ∧ Below w.heap.size w w' := by
  have hf : ¬ (60 : Int) < (len1 : Int) := by omega
  have hz : (S.size : Int) ≤ 100 := by omega
  have hself := str_self S
  clear hs hS
  go_enter Try.func3, Try.ntmps3
  go_wp2_with fail
  refine (H1.out _ (Below.refl _ _)).mono ?_
  rintro r w1 ⟨rfl, hb1⟩
  have B1 := Lib.hid hb1
  clear hb1
  go_wp2_with fail
  refine (H2.out _ B1.out).mono ?_
  rintro r w2 ⟨A, m, c, rfl, H3, hb2⟩
  have B2 := Lib.hid (bkept B1.out hb2)
  clear hb2
  go_wp2_with fail
  refine (H3.out _ (Below.refl _ _)).mono ?_
  rintro r w3 ⟨rfl, hb3⟩
  have B3 := Lib.hid (bkept B2.out hb3)
  clear hb3
  go_wp2_with fail
  refine (RT.awake_any _).mono ?_
  rintro r w4 ⟨rfl, hb4⟩
  have B4 := Lib.hid (bkept B3.out hb4)
  clear hb4
  go_wp2
  go_ret
  exact ⟨rfl, B4.out⟩

theorem walk (a0 : Int) (a1 : Option Addr) (len1 cap1 : Nat) (L1 : List EX.Ext) (w : World) (w0 : (Lit.int .i64 a0).wf = true) (hl1 : len1 = L1.length) (lm1 : len1 ≤ maxLen) (w1 : EX.Exs w a1 L1) (wf1 : ∀ e ∈ L1, OP.WfS e) :
    Calls Try.prog 3 #[.int .i64 a0, .slice a1 len1 cap1] w fun e w' => e = .returned (.bool true) ∧ Below w.heap.size w w' := by
  by_cases hbig : len1 ≤ 60
  · by_cases hv : Recd a0 L1
    · have hz : (str (recB a0 L1)).size ≤ 100 := by
        rw [str_size, recB_len]; have := hv.2.1; omega
      exact alike a0 a1 len1 cap1 w hbig (str (recB a0 L1)) 0 hz (Lib.hid fun u h1 => Write_ok a0 L1 len1 cap1 hl1 a1 u (w1.below h1) hv) (Lib.hid fun u h1 => (RT.refs_any L1 len1 cap1 hl1 (by omega) a1 u (w1.below h1)).mono fun r w' ⟨A, m, c, e1, e2, e3, e4⟩ => ⟨A, m, c, e1, Lib.hid fun w2 h2 => rWrite_ok a0 L1 m c e2 A w2 (e3.below h2) hv, e4⟩)
    · exact alike a0 a1 len1 cap1 w hbig ⟨#[]⟩ 1 (by decide) (Lib.hid fun u h1 => Write_no a0 L1 len1 cap1 hl1 a1 u (w1.below h1) hv) (Lib.hid fun u h1 => (RT.refs_any L1 len1 cap1 hl1 (by omega) a1 u (w1.below h1)).mono fun r w' ⟨A, m, c, e1, e2, e3, e4⟩ => ⟨A, m, c, e1, Lib.hid fun w2 h2 => rWrite_no a0 L1 m c e2 A w2 (e3.below h2) hv, e4⟩)
  · exact big a0 a1 len1 cap1 w hbig

set_option maxRecDepth 100000 in
theorem lifted (os : Os) (started : os.Started) (H : Type) (enc : TypeId × Value → H) :
    ReturnsInHanded {} Try.checked os 3 .any (Rows.rootWritesSpec.pre6 enc Try.prog Try.f3 Rows.rootWritesRow.domain false) (Rows.rootWritesSpec.post enc Try.prog Try.f3 false true false false) := by
  refine returnsInHanded_of_change_sized (C := Try.checked) own started (by kernel_rfl) Try.func3
    (ChangeSpec.witness6 (enc := enc) (C := Try.checked) false ⟨#[], #[.int .i64 0, .slice none 0 0], []⟩ 8 (by kernel_rfl) (by kernel_rfl) (by kernel_rfl) (by kernel_rfl)) ?_
  intro W base args ds gs before hval0 hW hcnd hsz0 _
  have hval : ∀ (j : Nat) t v, Try.f3.params[j]? = some t → args[j]? = some v → Value.okWide Try.prog W .any base t v := hval0
  have hW' := hW
  obtain ⟨p, q, hA0, hV, rfl, hfz, hnd⟩ := hW
  have hA : DataW.TrodAll enc Try.prog W 0 (fun _ => true) true Try.f3.params.toList args.toList ds p := hA0
  have hsz : (DataW.weightsEach Try.prog (Try.f3.params.toList ++ Rows.rootWritesSpec.plain.varTypes Try.prog) (ds ++ gs)).all (· ≤ reachBytes) = true := hsz0
  rw [Try.params3] at hA hval hsz
  obtain ⟨v0, vs0, d0, ds0, p0, q0, hargs, rfl, rfl, h0, r0⟩ := trodAll_cons hA
  obtain ⟨v1, vs1, d1, ds1, p1, q1, rfl, rfl, rfl, h1, r1⟩ := trodAll_cons r0
  obtain ⟨rfl, rfl, rfl⟩ := trodAll_nil r1
  obtain rfl : args = #[v0, v1] := by cases args; simp_all
  obtain ⟨rfl, rfl⟩ := trodVars_none hV
  obtain ⟨a0, rfl, rfl, rfl, w0⟩ := open_int Try.underlying3 (hval 0 3 v0 rfl rfl) h0
  have k1 := h1
  have lt1 : ∀ x ∈ p1, x.block < W.heap.size := by obtain ⟨m, hm⟩ := k1; exact DataW.trod_lt m _ _ _ hm
  obtain ⟨a1, len1, cap1, L1, rfl, hl1, lm1, w1, wf1⟩ := OP.open_spaces (hval 1 22 v1 rfl rfl) h1
  clear hA0 hval0 hsz0
  refine (walk a0 a1 len1 cap1 L1 W w0 hl1 lm1 w1 wf1).mono fun e W' ⟨he, bel⟩ => ?_
  subst he
  exact ⟨_, rfl, _, _, _, [], _, [], hW', trodAll_mk1 (shut_bool Try.underlying4 _), (trodAll_cons_mk (shut_int Try.underlying3 w0) (trodAll_cons_mk (Below.trod laidOut (by kernel_rfl) (of_decide_eq_true (by kernel_rfl)) k1 bel lt1) trodAll_mk0)), rfl, bel.frame _, fun h => by cases h⟩

theorem over : Rows.rootWritesRow.holds Try.pinned (OpenSpec.ofChange Rows.rootWritesSpec) :=
  OpenClaim.holds_of_wide 3 Try.f3 rfl rfl rfl rfl rfl rfl rfl ⟨rfl, rfl, rfl, rfl, rfl⟩ rfl rfl rfl rfl rfl (by kernel_rfl) Try.func3 (by kernel_rfl)
    (of_decide_eq_true (by kernel_rfl)) (by unfold Func.isWrapper; first | (rw [if_pos (by decide +kernel)]; kernel_rfl) | (rw [if_neg (by decide +kernel)]; exact ⟨rfl, rfl⟩))
    (fun os started H enc _ => lifted os started H enc)

theorem proved : Rows.RootWritesSaid := over
#print axioms proved
end Go.Proofs.Ytdjlflinepefbaa.rootWrites
