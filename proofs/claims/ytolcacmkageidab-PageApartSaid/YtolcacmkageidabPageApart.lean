/- The law PageApart holds: its Go text answers true for every input, and leaves its arguments as they were. No condition beyond the statement's own. -/
import Derived.Test.YtolcacmkageidabRows
import Derived.Test.YtolcacmkageidabPgW
import Derived.Test.YtolcacmkageidabPg2
import Derived.Test.YtolcacmkageidabAwake5
import Derived.Test.YtolcacmkageidabOpen5
import Derived.ProofKit
import Derived.OpenShut
import Derived.ShutString
import Derived.ChangeOld
import Derived.Below
import Derived.SizedLaws
namespace Go.Proofs.Ytolcacmkageidab.pageApart
open Go.ChangeShapes Go.WideShapes Go.ChangeAt Go.RowKit
open Go.ChangeMaps (open_string shut_string)
open Go.Proofs.Ytolcacmkageidab.FM
set_option linter.unusedVariables false
set_option linter.unusedSimpArgs false

theorem own : ownKnob Try.prog.godebug = none := by kernel_rfl
theorem laidOut : laidOutB Try.prog = true := by kernel_rfl

open PG FM CM MM

set_option maxHeartbeats 2000000 in
theorem apart_err (k s y q k' s' y' q' : Int) (b b' : ByteArray) (S U : ByteArray) (m n : Int) (w : World) (l1 : ¬ (20000 : Int) < (b.size : Int)) (l2 : ¬ (20000 : Int) < (b'.size : Int)) (hm : ¬ m = 0) (HA : Hid (∀ w, Calls Try.prog 10 #[.agg #[.int .i64 k, .int .i64 s, .int .i64 y, .int .i64 q, .string b]] w fun e w' => e = .returned (.tuple #[.string S, .int .i64 m]) ∧ Below w.heap.size w w')) (HB : Hid (∀ w, Calls Try.prog 10 #[.agg #[.int .i64 k', .int .i64 s', .int .i64 y', .int .i64 q', .string b']] w fun e w' => e = .returned (.tuple #[.string U, .int .i64 n]) ∧ Below w.heap.size w w')) :
    Calls Try.prog 3 #[.agg #[.int .i64 k, .int .i64 s, .int .i64 y, .int .i64 q, .string b], .agg #[.int .i64 k', .int .i64 s', .int .i64 y', .int .i64 q', .string b']] w fun e w' => e = .returned (.bool true) ∧ Below w.heap.size w w' := by
  obtain ⟨w0, hw0⟩ : ∃ w0, w0 = (w.alloc (.cells #[.int .i64 k, .int .i64 s, .int .i64 y, .int .i64 q, .string b] 23)).alloc (.cells #[.int .i64 k', .int .i64 s', .int .i64 y', .int .i64 q', .string b'] 23) := ⟨_, rfl⟩
  have h0 := box2_at w k s y q k' s' y' q' b b' 23 w0 hw0
  have HW0 := Lib.hid hw0
  clear hw0
  go_enter Try.func3, Try.ntmps3
  go_wp2_with fail
  rw [← HW0.out]
  refine (HA.out _).mono ?_
  rintro e w1 ⟨rfl, hb1⟩
  have h1 := keep2 w k s y q k' s' y' q' b b' h0 hb1
  clear h0 hb1
  obtain ⟨c10, c11, c12, c13, c14, d10, d11, d12, d13, d14, _⟩ := id h1
  have H1 := Lib.hid h1
  clear h1
  go_wp2_with fail
  refine (HB.out _).mono ?_
  rintro e w2 ⟨rfl, hb2⟩
  have h2 := keep2 w k s y q k' s' y' q' b b' H1.out hb2
  clear c10 c11 c12 c13 c14 d10 d11 d12 d13 d14
  obtain ⟨c20, c21, c22, c23, c24, d20, d21, d22, d23, d24, _⟩ := id h2
  have H2 := Lib.hid h2
  clear h2 hb2 H1
  go_wp2_with fail
  refine (PG.awake_any _).mono ?_
  rintro e w3 ⟨rfl, hb3⟩
  have h3 := keep2 w k s y q k' s' y' q' b b' H2.out hb3
  clear c20 c21 c22 c23 c24 d20 d21 d22 d23 d24
  obtain ⟨c30, c31, c32, c33, c34, d30, d31, d32, d33, d34, _⟩ := id h3
  have HB3 := Lib.hid h3.2.2.2.2.2.2.2.2.2.2.2
  clear h3 hb3 H2
  go_wp2
  go_ret
  exact ⟨rfl, HB3.out⟩
set_option maxHeartbeats 2000000 in
theorem apart_err2 (k s y q k' s' y' q' : Int) (b b' : ByteArray) (S U : ByteArray) (n : Int) (w : World) (l1 : ¬ (20000 : Int) < (b.size : Int)) (l2 : ¬ (20000 : Int) < (b'.size : Int)) (hn : ¬ n = 0) (HA : Hid (∀ w, Calls Try.prog 10 #[.agg #[.int .i64 k, .int .i64 s, .int .i64 y, .int .i64 q, .string b]] w fun e w' => e = .returned (.tuple #[.string S, .int .i64 0]) ∧ Below w.heap.size w w')) (HB : Hid (∀ w, Calls Try.prog 10 #[.agg #[.int .i64 k', .int .i64 s', .int .i64 y', .int .i64 q', .string b']] w fun e w' => e = .returned (.tuple #[.string U, .int .i64 n]) ∧ Below w.heap.size w w')) :
    Calls Try.prog 3 #[.agg #[.int .i64 k, .int .i64 s, .int .i64 y, .int .i64 q, .string b], .agg #[.int .i64 k', .int .i64 s', .int .i64 y', .int .i64 q', .string b']] w fun e w' => e = .returned (.bool true) ∧ Below w.heap.size w w' := by
  obtain ⟨w0, hw0⟩ : ∃ w0, w0 = (w.alloc (.cells #[.int .i64 k, .int .i64 s, .int .i64 y, .int .i64 q, .string b] 23)).alloc (.cells #[.int .i64 k', .int .i64 s', .int .i64 y', .int .i64 q', .string b'] 23) := ⟨_, rfl⟩
  have h0 := box2_at w k s y q k' s' y' q' b b' 23 w0 hw0
  have HW0 := Lib.hid hw0
  clear hw0
  go_enter Try.func3, Try.ntmps3
  go_wp2_with fail
  rw [← HW0.out]
  refine (HA.out _).mono ?_
  rintro e w1 ⟨rfl, hb1⟩
  have h1 := keep2 w k s y q k' s' y' q' b b' h0 hb1
  clear h0 hb1
  obtain ⟨c10, c11, c12, c13, c14, d10, d11, d12, d13, d14, _⟩ := id h1
  have H1 := Lib.hid h1
  clear h1
  go_wp2_with fail
  refine (HB.out _).mono ?_
  rintro e w2 ⟨rfl, hb2⟩
  have h2 := keep2 w k s y q k' s' y' q' b b' H1.out hb2
  clear c10 c11 c12 c13 c14 d10 d11 d12 d13 d14
  obtain ⟨c20, c21, c22, c23, c24, d20, d21, d22, d23, d24, _⟩ := id h2
  have H2 := Lib.hid h2
  clear h2 hb2 H1
  go_wp2_with fail
  refine (PG.awake_any _).mono ?_
  rintro e w3 ⟨rfl, hb3⟩
  have h3 := keep2 w k s y q k' s' y' q' b b' H2.out hb3
  clear c20 c21 c22 c23 c24 d20 d21 d22 d23 d24
  obtain ⟨c30, c31, c32, c33, c34, d30, d31, d32, d33, d34, _⟩ := id h3
  have HB3 := Lib.hid h3.2.2.2.2.2.2.2.2.2.2.2
  clear h3 hb3 H2
  go_wp2
  go_ret
  exact ⟨rfl, HB3.out⟩
set_option maxHeartbeats 2000000 in
theorem apart_ok (k s y q k' s' y' q' : Int) (b b' : ByteArray) (S U : ByteArray) (w : World) (l1 : ¬ (20000 : Int) < (b.size : Int)) (l2 : ¬ (20000 : Int) < (b'.size : Int)) (h : (S.toList == U.toList) = (k == k' && (s == s' && (y == y' && (q == q' && b.toList == b'.toList))))) (HA : Hid (∀ w, Calls Try.prog 10 #[.agg #[.int .i64 k, .int .i64 s, .int .i64 y, .int .i64 q, .string b]] w fun e w' => e = .returned (.tuple #[.string S, .int .i64 0]) ∧ Below w.heap.size w w')) (HB : Hid (∀ w, Calls Try.prog 10 #[.agg #[.int .i64 k', .int .i64 s', .int .i64 y', .int .i64 q', .string b']] w fun e w' => e = .returned (.tuple #[.string U, .int .i64 0]) ∧ Below w.heap.size w w')) :
    Calls Try.prog 3 #[.agg #[.int .i64 k, .int .i64 s, .int .i64 y, .int .i64 q, .string b], .agg #[.int .i64 k', .int .i64 s', .int .i64 y', .int .i64 q', .string b']] w fun e w' => e = .returned (.bool true) ∧ Below w.heap.size w w' := by
  have HH := Lib.hid h
  clear h
  obtain ⟨w0, hw0⟩ : ∃ w0, w0 = (w.alloc (.cells #[.int .i64 k, .int .i64 s, .int .i64 y, .int .i64 q, .string b] 23)).alloc (.cells #[.int .i64 k', .int .i64 s', .int .i64 y', .int .i64 q', .string b'] 23) := ⟨_, rfl⟩
  have h0 := box2_at w k s y q k' s' y' q' b b' 23 w0 hw0
  have HW0 := Lib.hid hw0
  clear hw0
  go_enter Try.func3, Try.ntmps3
  go_wp2_with fail
  rw [← HW0.out]
  refine (HA.out _).mono ?_
  rintro e w1 ⟨rfl, hb1⟩
  have h1 := keep2 w k s y q k' s' y' q' b b' h0 hb1
  clear h0 hb1
  obtain ⟨c10, c11, c12, c13, c14, d10, d11, d12, d13, d14, _⟩ := id h1
  have H1 := Lib.hid h1
  clear h1
  go_wp2_with fail
  refine (HB.out _).mono ?_
  rintro e w2 ⟨rfl, hb2⟩
  have h2 := keep2 w k s y q k' s' y' q' b b' H1.out hb2
  clear c10 c11 c12 c13 c14 d10 d11 d12 d13 d14
  obtain ⟨c20, c21, c22, c23, c24, d20, d21, d22, d23, d24, _⟩ := id h2
  have H2 := Lib.hid h2
  clear h2 hb2 H1
  go_wp2_with fail
  refine (PG.awake_any _).mono ?_
  rintro e w3 ⟨rfl, hb3⟩
  have h3 := keep2 w k s y q k' s' y' q' b b' H2.out hb3
  clear c20 c21 c22 c23 c24 d20 d21 d22 d23 d24
  obtain ⟨c30, c31, c32, c33, c34, d30, d31, d32, d33, d34, _⟩ := id h3
  have HB3 := Lib.hid h3.2.2.2.2.2.2.2.2.2.2.2
  clear h3 hb3 H2
  go_wp2
  all_goals go_ret
  all_goals
    refine ⟨?_, HB3.out⟩
    have hh := HH.out
    first
      | (show Ending.returned (.bool (S.toList == U.toList)) = _; rw [hh]; simp_all)
      | (show Ending.returned (.bool (!(S.toList == U.toList))) = _; rw [hh]; simp_all)

theorem apart_long (k s y q k' s' y' q' : Int) (b b' : ByteArray) (w : World) (h : 20000 < b.size ∨ 20000 < b'.size) :
    Calls Try.prog 3 #[.agg #[.int .i64 k, .int .i64 s, .int .i64 y, .int .i64 q, .string b], .agg #[.int .i64 k', .int .i64 s', .int .i64 y', .int .i64 q', .string b']] w fun e w' => e = .returned (.bool true) ∧ Below w.heap.size w w' := by
  by_cases h1 : (20000 : Int) < (b.size : Int)
  · clear h
    go_enter Try.func3, Try.ntmps3
    go_wp2_with fail
    refine (PG.awake_any _).mono ?_
    rintro e w1 ⟨rfl, hb1⟩
    have HB := Lib.hid (((below_box w _).alloc (by simp) _).trans (hb1.mono ((below_box w _).alloc (by simp) _).size))
    clear hb1
    go_wp2
    go_ret
    exact ⟨rfl, HB.out⟩
  · have h2 : (20000 : Int) < (b'.size : Int) := by omega
    clear h
    go_enter Try.func3, Try.ntmps3
    go_wp2_with fail
    refine (PG.awake_any _).mono ?_
    rintro e w1 ⟨rfl, hb1⟩
    have HB := Lib.hid (((below_box w _).alloc (by simp) _).trans (hb1.mono ((below_box w _).alloc (by simp) _).size))
    clear hb1
    go_wp2
    go_ret
    exact ⟨rfl, HB.out⟩

theorem walk (x0 : PG.Pg) (x1 : PG.Pg) (w : World) (w0 : OP.PgWf x0) (w1 : OP.PgWf x1) :
    Calls Try.prog 3 #[.agg #[.int .i64 x0.kind, .int .i64 x0.space, .int .i64 x0.key, .int .i64 x0.seq, .string x0.body], .agg #[.int .i64 x1.kind, .int .i64 x1.space, .int .i64 x1.key, .int .i64 x1.seq, .string x1.body]] w fun e w' => e = .returned (.bool true) ∧ Below w.heap.size w w' := by
  by_cases hl : 20000 < x0.body.size ∨ 20000 < x1.body.size
  · exact apart_long _ _ _ _ _ _ _ _ _ _ w hl
  · have l1 : ¬ (20000 : Int) < (x0.body.size : Int) := by omega
    have l2 : ¬ (20000 : Int) < (x1.body.size : Int) := by omega
    by_cases ha : May x0
    · by_cases hb : May x1
      · refine apart_ok _ _ _ _ _ _ _ _ _ _ _ _ w l1 l2 ?_ (Lib.hid (write_yes x0 ha)) (Lib.hid (write_yes x1 hb))
        rw [str_toList, str_toList]
        obtain ⟨k, s, y, q, b⟩ := x0
        obtain ⟨k', s', y', q', b'⟩ := x1
        by_cases he : (⟨k, s, y, q, b⟩ : Pg) = ⟨k', s', y', q', b'⟩
        · injection he with e1 e2 e3 e4 e5
          subst e1 e2 e3 e4 e5
          simp
        · have hne : PG.bytes ⟨k, s, y, q, b⟩ ≠ PG.bytes ⟨k', s', y', q', b'⟩ := by
            intro hbb
            have := congrArg CM.body hbb
            rw [PG.bytes, PG.bytes, body_sealed, body_sealed] at this
            exact he (lay_inj ha hb this)
          rw [beq_eq_false_iff_ne.2 hne]
          symm
          apply Bool.eq_false_iff.2
          intro hall
          simp only [Bool.and_eq_true, beq_iff_eq] at hall
          obtain ⟨e1, e2, e3, e4, e5⟩ := hall
          apply he
          rw [ByteArray.toList_eq, ByteArray.toList_eq] at e5
          have e6 : b = b' := by rw [← PG.str_data b, ← PG.str_data b', e5]
          subst e1 e2 e3 e4 e6
          rfl
      · obtain ⟨k', s', y', q', b'⟩ := x1
        exact apart_err2 _ _ _ _ _ _ _ _ _ _ _ _ _ w l1 l2 (by decide) (Lib.hid (write_yes x0 ha)) (Lib.hid (write_no _ hb))
    · by_cases hb : May x1
      · exact apart_err _ _ _ _ _ _ _ _ _ _ _ _ _ _ w l1 l2 (by decide) (Lib.hid (write_no x0 ha)) (Lib.hid (write_yes x1 hb))
      · exact apart_err _ _ _ _ _ _ _ _ _ _ _ _ _ _ w l1 l2 (by decide) (Lib.hid (write_no x0 ha)) (Lib.hid (write_no x1 hb))

set_option maxRecDepth 100000 in
theorem lifted (os : Os) (started : os.Started) (H : Type) (enc : TypeId × Value → H) :
    ReturnsInHanded {} Try.checked os 3 .any (Rows.pageApartSpec.pre6 enc Try.prog Try.f3 Rows.pageApartRow.domain false) (Rows.pageApartSpec.post enc Try.prog Try.f3 false true false false) := by
  refine returnsInHanded_of_change_sized (C := Try.checked) own started (by kernel_rfl) Try.func3
    (ChangeSpec.witness6 (enc := enc) (C := Try.checked) false ⟨#[], #[.agg #[.int .i64 0, .int .i64 0, .int .i64 0, .int .i64 0, .string ByteArray.empty], .agg #[.int .i64 0, .int .i64 0, .int .i64 0, .int .i64 0, .string ByteArray.empty]], []⟩ 8 (by kernel_rfl) (by kernel_rfl) (by kernel_rfl) (by kernel_rfl)) ?_
  intro W base args ds gs before hval0 hW hcnd hsz0 _
  have hval : ∀ (j : Nat) t v, Try.f3.params[j]? = some t → args[j]? = some v → Value.okWide Try.prog W .any base t v := hval0
  have hW' := hW
  obtain ⟨p, q, hA0, hV, rfl, hfz, hnd⟩ := hW
  have hA : DataW.TrodAll enc Try.prog W 0 (fun _ => true) true Try.f3.params.toList args.toList ds p := hA0
  have hsz : (DataW.weightsEach Try.prog (Try.f3.params.toList ++ Rows.pageApartSpec.plain.varTypes Try.prog) (ds ++ gs)).all (· ≤ reachBytes) = true := hsz0
  rw [Try.params3] at hA hval hsz
  obtain ⟨v0, vs0, d0, ds0, p0, q0, hargs, rfl, rfl, h0, r0⟩ := trodAll_cons hA
  obtain ⟨v1, vs1, d1, ds1, p1, q1, rfl, rfl, rfl, h1, r1⟩ := trodAll_cons r0
  obtain ⟨rfl, rfl, rfl⟩ := trodAll_nil r1
  obtain rfl : args = #[v0, v1] := by cases args; simp_all
  obtain ⟨rfl, rfl⟩ := trodVars_none hV
  have k0 := h0
  have lt0 : ∀ x ∈ p0, x.block < W.heap.size := by obtain ⟨m, hm⟩ := k0; exact DataW.trod_lt m _ _ _ hm
  obtain ⟨x0, rfl, w0⟩ := OP.open_page (hval 0 23 v0 rfl rfl) h0
  have k1 := h1
  have lt1 : ∀ x ∈ p1, x.block < W.heap.size := by obtain ⟨m, hm⟩ := k1; exact DataW.trod_lt m _ _ _ hm
  obtain ⟨x1, rfl, w1⟩ := OP.open_page (hval 1 23 v1 rfl rfl) h1
  clear hA0 hval0 hsz0
  refine (walk x0 x1 W w0 w1).mono fun e W' ⟨he, bel⟩ => ?_
  subst he
  exact ⟨_, rfl, _, _, _, [], _, [], hW', trodAll_mk1 (shut_bool Try.underlying4 _), (trodAll_cons_mk (Below.trod laidOut (by kernel_rfl) (of_decide_eq_true (by kernel_rfl)) k0 bel lt0) (trodAll_cons_mk (Below.trod laidOut (by kernel_rfl) (of_decide_eq_true (by kernel_rfl)) k1 bel lt1) trodAll_mk0)), rfl, bel.frame _, fun h => by cases h⟩

theorem over : Rows.pageApartRow.holds Try.pinned (OpenSpec.ofChange Rows.pageApartSpec) :=
  OpenClaim.holds_of_wide 3 Try.f3 rfl rfl rfl rfl rfl rfl rfl ⟨rfl, rfl, rfl, rfl, rfl⟩ rfl rfl rfl rfl rfl (by kernel_rfl) Try.func3 (by kernel_rfl)
    (of_decide_eq_true (by kernel_rfl)) (by unfold Func.isWrapper; first | (rw [if_pos (by decide +kernel)]; kernel_rfl) | (rw [if_neg (by decide +kernel)]; exact ⟨rfl, rfl⟩))
    (fun os started H enc _ => lifted os started H enc)

theorem proved : Rows.PageApartSaid := over
#print axioms proved
end Go.Proofs.Ytolcacmkageidab.pageApart
