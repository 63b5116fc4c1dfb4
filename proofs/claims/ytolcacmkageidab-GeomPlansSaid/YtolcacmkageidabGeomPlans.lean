/- The law GeomPlans holds: its Go text answers true for every input, and leaves its arguments as they were. No condition beyond the statement's own. -/
import Derived.Test.YtolcacmkageidabRows
import Derived.Test.YtolcacmkageidabGmRoom
import Derived.Test.YtolcacmkageidabGmR
import Derived.Test.YtolcacmkageidabAwake6
import Derived.Test.YtolcacmkageidabOpen5
import Derived.ProofKit
import Derived.OpenShut
import Derived.ShutString
import Derived.ChangeOld
import Derived.Below
import Derived.SizedLaws
namespace Go.Proofs.Ytolcacmkageidab.geomPlans
open Go.ChangeShapes Go.WideShapes Go.ChangeAt Go.RowKit
open Go.ChangeMaps (open_string shut_string)
open Go.Proofs.Ytolcacmkageidab.FM
set_option linter.unusedVariables false
set_option linter.unusedSimpArgs false

theorem own : ownKnob Try.prog.godebug = none := by kernel_rfl
theorem laidOut : laidOutB Try.prog = true := by kernel_rfl

open GM MM

set_option maxHeartbeats 2000000 in
theorem plans_no (x0 y0 : Int) (w : World) (h : ¬ Geo x0 y0) :
    Calls Try.prog 4 #[.agg #[.int .i64 x0, .int .i64 y0]] w fun e w' => e = .returned (.bool true) ∧ Below w.heap.size w w' := by
  have HP := Lib.hid (plan_no x0 y0 h)
  have HM := Lib.hid (rmay_no x0 y0 h)
  have HC := Lib.hid (check_no x0 y0 h)
  have HN := Lib.hid (nodes_no x0 y0 h)
  clear h
  obtain ⟨W, hW⟩ : ∃ W, W = w.alloc (.cells #[.int .i64 x0, .int .i64 y0] 30) := ⟨_, rfl⟩
  have k1 : GC W w.heap.size x0 y0 := by rw [hW]; exact Blk.new w _ _
  have hb0 : Below w.heap.size w W := by rw [hW]; exact below_box w _
  have HW := Lib.hid hW
  clear hW
  go_enter Try.func4, Try.ntmps4
  go_wp2_with fail
  rw [← HW.out]
  refine (HP.out _).mono ?_
  rintro e w1 ⟨rfl, hb1⟩
  obtain ⟨W1, hW1⟩ : ∃ W1, W1 = w1.alloc (.cells #[.int .i64 0, .int .i64 0, .int .i64 0, .int .i64 0, .int .i64 0] 32) := ⟨_, rfl⟩
  obtain ⟨L1, hL1⟩ : ∃ L1, L1 = w1.heap.size := ⟨_, rfl⟩
  have q1 : PC W1 L1 0 0 0 0 0 := by rw [hW1, hL1]; exact Blk.new w1 _ _
  have m1 : GC W1 w.heap.size x0 y0 := by rw [hW1]; exact Blk.alloc (k1.keep hb1) _
  have hb2 : Below w.heap.size w W1 := by rw [hW1]; exact (hb0.trans (hb1.mono hb0.size)).alloc (hb0.trans (hb1.mono hb0.size)).size _
  have c0 := m1.c0
  have c1 := m1.c1
  have HB := Lib.hid hb2
  have Q1 := Lib.hid q1
  have M1 := Lib.hid m1
  have HL1 := Lib.hid hL1
  have HW1 := Lib.hid hW1
  rw [hW1] at c0 c1
  clear hb1 hb2 k1 m1 q1 hb0 hW1 hL1
  go_wp2_with fail
  rw [← HW1.out]
  refine (HM.out _).mono ?_
  rintro e w2 ⟨rfl, rfl⟩
  clear c0 c1
  go_wp2_with fail
  refine (GM.awake_any _).mono ?_
  rintro e w2 ⟨rfl, hb2⟩
  have q2 := Q1.out.keep hb2
  have m2 := M1.out.keep hb2
  have c0 := m2.c0
  have c1 := m2.c1
  have HB2 := Lib.hid (HB.out.trans (hb2.mono HB.out.size))
  have Q2 := Lib.hid q2
  have M2 := Lib.hid m2
  clear hb2 q2 m2
  go_wp2_with fail
  refine (HC.out _).mono ?_
  rintro e w3 ⟨rfl, hb3⟩
  have m3 := M2.out.keep hb3
  have q3 := Q2.out.keep hb3
  have d0 := m3.c0
  have d1 := m3.c1
  obtain ⟨p0, p1, p2, p3, p4⟩ := q3.cs
  rw [HL1.out] at p0 p1 p2 p3 p4
  have HB3 := Lib.hid (HB2.out.trans (hb3.mono HB2.out.size))
  clear hb3 q3 m3 c0 c1
  go_wp2_with fail
  refine (HN.out _).mono ?_
  rintro e w4 ⟨rfl, hb4⟩
  have HB4 := Lib.hid (HB3.out.trans (hb4.mono HB3.out.size))
  clear hb4
  go_wp2
  go_ret
  exact ⟨rfl, HB4.out⟩

set_option maxHeartbeats 4000000 in
theorem plans_yes (m n : Nat) (w : World) (h : 16 ≤ m ∧ m ≤ 64 ∧ 8 ≤ n ∧ n ≤ 32) :
    Calls Try.prog 4 #[.agg #[.int .i64 (m : Int), .int .i64 (n : Int)]] w fun e w' => e = .returned (.bool true) ∧ Below w.heap.size w w' := by
  have HP := Lib.hid (plan_yes m n h)
  have HM := Lib.hid (rmay_yes m n ⟨by omega, by omega, by omega, by omega⟩)
  have HC := Lib.hid (check_yes m n ⟨by omega, by omega, by omega, by omega⟩)
  have HN := Lib.hid (nodes_yes m n h)
  have HO := Lib.hid (of_any m n h)
  have HRN := Lib.hid (rnodes_yes m n h)
  obtain ⟨A, hA⟩ : ∃ A : Int, A = ((m * n : Nat) : Int) := ⟨_, rfl⟩
  obtain ⟨S, hS⟩ : ∃ A : Int, A = ((m / 8 : Nat) : Int) := ⟨_, rfl⟩
  obtain ⟨C, hC⟩ : ∃ A : Int, A = (cap m n : Int) := ⟨_, rfl⟩
  obtain ⟨J, hJ⟩ : ∃ A : Int, A = (low m n : Int) + 1 := ⟨_, rfl⟩
  obtain ⟨K, hK⟩ : ∃ A : Int, A = (low m n : Int) := ⟨_, rfl⟩
  obtain ⟨O, hO⟩ : ∃ A : Int, A = (nodes m n : Int) := ⟨_, rfl⟩
  rw [← hJ, ← hA, ← hS, ← hC, ← hK] at HP HO
  rw [← hO] at HN HRN
  clear h hA hS hC hK hO hJ
  obtain ⟨W, hW⟩ : ∃ W, W = w.alloc (.cells #[.int .i64 m, .int .i64 n] 30) := ⟨_, rfl⟩
  have k1 : GC W w.heap.size m n := by rw [hW]; exact Blk.new w _ _
  have hb0 : Below w.heap.size w W := by rw [hW]; exact below_box w _
  have HW := Lib.hid hW
  clear hW
  go_enter Try.func4, Try.ntmps4
  go_wp2_with fail
  rw [← HW.out]
  refine (HP.out _).mono ?_
  rintro e w1 ⟨rfl, hb1⟩
  obtain ⟨W1, hW1⟩ : ∃ W1, W1 = w1.alloc (.cells #[.int .i64 A, .int .i64 S, .int .i64 C, .int .i64 K, .int .i64 J] 32) := ⟨_, rfl⟩
  have q1 : PC W1 w1.heap.size A S C K J := by rw [hW1]; exact Blk.new w1 _ _
  have m1 : GC W1 w.heap.size m n := by rw [hW1]; exact Blk.alloc (k1.keep hb1) _
  have hb2 : Below w.heap.size w W1 := by rw [hW1]; exact (hb0.trans (hb1.mono hb0.size)).alloc (hb0.trans (hb1.mono hb0.size)).size _
  have c0 := m1.c0
  have c1 := m1.c1
  obtain ⟨p0, p1, p2, p3, p4⟩ := q1.cs
  have HS : Hid (W1.drew.cell? ⟨w.heap.size, 0, none⟩ = some (.int .i64 m) ∧ W1.drew.cell? ⟨w.heap.size, 1, none⟩ = some (.int .i64 n) ∧ W1.drew.cell? ⟨w1.heap.size, 0, none⟩ = some (.int .i64 A) ∧ W1.drew.cell? ⟨w1.heap.size, 1, none⟩ = some (.int .i64 S) ∧ W1.drew.cell? ⟨w1.heap.size, 2, none⟩ = some (.int .i64 C) ∧ W1.drew.cell? ⟨w1.heap.size, 3, none⟩ = some (.int .i64 K) ∧ W1.drew.cell? ⟨w1.heap.size, 4, none⟩ = some (.int .i64 J) ∧ w.heap.size < W1.drew.heap.size ∧ w1.heap.size < W1.drew.heap.size ∧ Below w.heap.size w W1.drew) := Lib.hid ⟨c0, c1, p0, p1, p2, p3, p4, Blk.lt m1, Blk.lt q1, hb2.drew⟩
  have HW1 := Lib.hid hW1
  rw [hW1] at c0 c1
  clear hb1 hb2 k1 m1 q1 hb0 hW1 p0 p1 p2 p3 p4
  go_wp2_with fail
  rw [← HW1.out]
  refine (HM.out _).mono ?_
  rintro e w2 ⟨rfl, rfl⟩
  clear c0 c1
  go_wp2
  go_region_held3 (fun w' => w'.cell? ⟨w.heap.size, 0, none⟩ = some (.int .i64 m) ∧ w'.cell? ⟨w.heap.size, 1, none⟩ = some (.int .i64 n) ∧ w'.cell? ⟨w1.heap.size, 0, none⟩ = some (.int .i64 A) ∧ w'.cell? ⟨w1.heap.size, 1, none⟩ = some (.int .i64 S) ∧ w'.cell? ⟨w1.heap.size, 2, none⟩ = some (.int .i64 C) ∧ w'.cell? ⟨w1.heap.size, 3, none⟩ = some (.int .i64 K) ∧ w'.cell? ⟨w1.heap.size, 4, none⟩ = some (.int .i64 J) ∧ w.heap.size < w'.heap.size ∧ w1.heap.size < w'.heap.size ∧ Below w.heap.size w w') (first | with_reducible exact HS.out | assumption) (first
    | (go_at_call 13; refine ((Lib.hid GM.awake_any).out _).mono ?_; rintro e w5 ⟨rfl, hb5⟩; have hS5 := keepR w m n w1.heap.size A S C K J (by assumption) hb5)
    | (go_at_call 14; refine (HC.out _).mono ?_; rintro e w5 ⟨rfl, hb5⟩; have hS5 := keepR w m n w1.heap.size A S C K J (by assumption) hb5)
    | (go_at_call 16; refine (HO.out _).mono ?_; rintro e w5 ⟨rfl, hb5⟩; have hS5 := keepR w m n w1.heap.size A S C K J (by assumption) hb5)
    | (go_at_call 15; refine (HN.out _).mono ?_; rintro e w5 ⟨rfl, hb5⟩; have hS5 := keepR w m n w1.heap.size A S C K J (by assumption) hb5)
    | (go_at_call 17; refine (HRN.out _).mono ?_; rintro e w5 ⟨rfl, hb5⟩; have hS5 := keepR w m n w1.heap.size A S C K J (by assumption) hb5))
  all_goals (try go_wp2)
  all_goals go_ret
  all_goals exact ⟨rfl, hS5.2.2.2.2.2.2.2.2.2⟩

theorem walk (x0 y0 : Int) (w : World) (wx0 : (Lit.int .i64 x0).wf = true) (wy0 : (Lit.int .i64 y0).wf = true) :
    Calls Try.prog 4 #[.agg #[.int .i64 x0, .int .i64 y0]] w fun e w' => e = .returned (.bool true) ∧ Below w.heap.size w w' := by
  by_cases h : Geo x0 y0
  · obtain ⟨m, n, rfl, rfl, h'⟩ := h.nat
    exact plans_yes m n w h'
  · exact plans_no x0 y0 w h

set_option maxRecDepth 100000 in
theorem lifted (os : Os) (started : os.Started) (H : Type) (enc : TypeId × Value → H) :
    ReturnsInHanded {} Try.checked os 4 .any (Rows.geomPlansSpec.pre6 enc Try.prog Try.f4 Rows.geomPlansRow.domain false) (Rows.geomPlansSpec.post enc Try.prog Try.f4 false true false false) := by
  refine returnsInHanded_of_change_sized (C := Try.checked) own started (by kernel_rfl) Try.func4
    (ChangeSpec.witness6 (enc := enc) (C := Try.checked) false ⟨#[], #[.agg #[.int .i64 0, .int .i64 0]], []⟩ 8 (by kernel_rfl) (by kernel_rfl) (by kernel_rfl) (by kernel_rfl)) ?_
  intro W base args ds gs before hval0 hW hcnd hsz0 _
  have hval : ∀ (j : Nat) t v, Try.f4.params[j]? = some t → args[j]? = some v → Value.okWide Try.prog W .any base t v := hval0
  have hW' := hW
  obtain ⟨p, q, hA0, hV, rfl, hfz, hnd⟩ := hW
  have hA : DataW.TrodAll enc Try.prog W 0 (fun _ => true) true Try.f4.params.toList args.toList ds p := hA0
  have hsz : (DataW.weightsEach Try.prog (Try.f4.params.toList ++ Rows.geomPlansSpec.plain.varTypes Try.prog) (ds ++ gs)).all (· ≤ reachBytes) = true := hsz0
  rw [Try.params4] at hA hval hsz
  obtain ⟨v0, vs0, d0, ds0, p0, q0, hargs, rfl, rfl, h0, r0⟩ := trodAll_cons hA
  obtain ⟨rfl, rfl, rfl⟩ := trodAll_nil r0
  obtain rfl : args = #[v0] := by cases args; simp_all
  obtain ⟨rfl, rfl⟩ := trodVars_none hV
  have k0 := h0
  have lt0 : ∀ x ∈ p0, x.block < W.heap.size := by obtain ⟨m, hm⟩ := k0; exact DataW.trod_lt m _ _ _ hm
  obtain ⟨x0, y0, rfl, wx0, wy0⟩ := OP.open_geo (hval 0 30 v0 rfl rfl) h0
  clear hA0 hval0 hsz0
  refine (walk x0 y0 W wx0 wy0).mono fun e W' ⟨he, bel⟩ => ?_
  subst he
  exact ⟨_, rfl, _, _, _, [], _, [], hW', trodAll_mk1 (shut_bool Try.underlying4 _), (trodAll_cons_mk (Below.trod laidOut (by kernel_rfl) (of_decide_eq_true (by kernel_rfl)) k0 bel lt0) trodAll_mk0), rfl, bel.frame _, fun h => by cases h⟩

theorem over : Rows.geomPlansRow.holds Try.pinned (OpenSpec.ofChange Rows.geomPlansSpec) :=
  OpenClaim.holds_of_wide 4 Try.f4 rfl rfl rfl rfl rfl rfl rfl ⟨rfl, rfl, rfl, rfl, rfl⟩ rfl rfl rfl rfl rfl (by kernel_rfl) Try.func4 (by kernel_rfl)
    (of_decide_eq_true (by kernel_rfl)) (by unfold Func.isWrapper; first | (rw [if_pos (by decide +kernel)]; kernel_rfl) | (rw [if_neg (by decide +kernel)]; exact ⟨rfl, rfl⟩))
    (fun os started H enc _ => lifted os started H enc)

theorem proved : Rows.GeomPlansSaid := over
#print axioms proved
end Go.Proofs.Ytolcacmkageidab.geomPlans
