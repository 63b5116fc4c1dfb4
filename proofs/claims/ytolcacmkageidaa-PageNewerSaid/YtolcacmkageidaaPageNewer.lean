/- The law PageNewer holds: its Go text answers true for every input, and leaves its arguments as they were. No condition beyond the statement's own. -/
import Derived.Test.YtolcacmkageidaaRows
import Derived.Test.YtolcacmkageidaaPgNR
import Derived.Test.YtolcacmkageidaaAwake5
import Derived.Test.YtolcacmkageidaaOpen5
import Derived.ProofKit
import Derived.OpenShut
import Derived.ShutString
import Derived.ChangeOld
import Derived.Below
import Derived.SizedLaws
namespace Go.Proofs.Ytolcacmkageidaa.pageNewer
open Go.ChangeShapes Go.WideShapes Go.ChangeAt Go.RowKit
open Go.ChangeMaps (open_string shut_string)
open Go.Proofs.Ytolcacmkageidaa.FM
set_option linter.unusedVariables false
set_option linter.unusedSimpArgs false

theorem own : ownKnob Try.prog.godebug = none := by kernel_rfl
theorem laidOut : laidOutB Try.prog = true := by kernel_rfl

open PG FM CM MM

set_option maxHeartbeats 4000000 in
theorem newer_law (k s y q k' s' y' q' : Int) (b b' : ByteArray) (a2 : Int) (N : Bool) (w : World) (l1 : ¬ (20000 : Int) < (b.size : Int)) (l2 : ¬ (20000 : Int) < (b'.size : Int))
    (HN : Hid (∀ w, Calls Try.prog 14 #[.agg #[.int .i64 k, .int .i64 s, .int .i64 y, .int .i64 q, .string b], .agg #[.int .i64 k', .int .i64 s', .int .i64 y', .int .i64 q', .string b']] w fun e w' => e = .returned (.bool N) ∧ Below w.heap.size w w'))
    (HR : Hid (∀ w, Calls Try.prog 15 #[.agg #[.int .i64 k, .int .i64 s, .int .i64 y, .int .i64 q, .string b], .agg #[.int .i64 k', .int .i64 s', .int .i64 y', .int .i64 q', .string b']] w fun e w' => e = .returned (.bool N) ∧ Below w.heap.size w w')) :
    Calls Try.prog 6 #[.agg #[.int .i64 k, .int .i64 s, .int .i64 y, .int .i64 q, .string b], .agg #[.int .i64 k', .int .i64 s', .int .i64 y', .int .i64 q', .string b'], .int .i64 a2] w fun e w' => e = .returned (.bool true) ∧ Below w.heap.size w w' := by
  have HA := Lib.hid PG.awake_any
  have HM := Lib.hid (name_any a2)
  have HM2 := Lib.hid (rname_any a2)
  obtain ⟨X, hX⟩ : ∃ X, X = nm a2 := ⟨_, rfl⟩
  rw [← hX] at HM HM2
  clear hX
  obtain ⟨w0, hw0⟩ : ∃ w0, w0 = (w.alloc (.cells #[.int .i64 k, .int .i64 s, .int .i64 y, .int .i64 q, .string b] 23)).alloc (.cells #[.int .i64 k', .int .i64 s', .int .i64 y', .int .i64 q', .string b'] 23) := ⟨_, rfl⟩
  have h0 := box2_at w k s y q k' s' y' q' b b' 23 w0 hw0
  have HS : Hid (w0.drew.cell? ⟨w.heap.size, 0, none⟩ = some (.int .i64 k) ∧ w0.drew.cell? ⟨w.heap.size, 1, none⟩ = some (.int .i64 s) ∧ w0.drew.cell? ⟨w.heap.size, 2, none⟩ = some (.int .i64 y) ∧ w0.drew.cell? ⟨w.heap.size, 3, none⟩ = some (.int .i64 q) ∧ w0.drew.cell? ⟨w.heap.size, 4, none⟩ = some (.string b) ∧ w0.drew.cell? ⟨w.heap.size + 1, 0, none⟩ = some (.int .i64 k') ∧ w0.drew.cell? ⟨w.heap.size + 1, 1, none⟩ = some (.int .i64 s') ∧ w0.drew.cell? ⟨w.heap.size + 1, 2, none⟩ = some (.int .i64 y') ∧ w0.drew.cell? ⟨w.heap.size + 1, 3, none⟩ = some (.int .i64 q') ∧ w0.drew.cell? ⟨w.heap.size + 1, 4, none⟩ = some (.string b') ∧ w.heap.size + 1 < w0.drew.heap.size ∧ Below w.heap.size w w0.drew) := Lib.hid ⟨h0.1, h0.2.1, h0.2.2.1, h0.2.2.2.1, h0.2.2.2.2.1, h0.2.2.2.2.2.1, h0.2.2.2.2.2.2.1, h0.2.2.2.2.2.2.2.1, h0.2.2.2.2.2.2.2.2.1, h0.2.2.2.2.2.2.2.2.2.1, h0.2.2.2.2.2.2.2.2.2.2.1, h0.2.2.2.2.2.2.2.2.2.2.2.drew⟩
  have HW0 := Lib.hid hw0
  clear h0 hw0
  go_enter Try.func6, Try.ntmps6
  go_wp2
  rw [← HW0.out]
  go_region_held3 (fun w' => w'.cell? ⟨w.heap.size, 0, none⟩ = some (.int .i64 k) ∧ w'.cell? ⟨w.heap.size, 1, none⟩ = some (.int .i64 s) ∧ w'.cell? ⟨w.heap.size, 2, none⟩ = some (.int .i64 y) ∧ w'.cell? ⟨w.heap.size, 3, none⟩ = some (.int .i64 q) ∧ w'.cell? ⟨w.heap.size, 4, none⟩ = some (.string b) ∧ w'.cell? ⟨w.heap.size + 1, 0, none⟩ = some (.int .i64 k') ∧ w'.cell? ⟨w.heap.size + 1, 1, none⟩ = some (.int .i64 s') ∧ w'.cell? ⟨w.heap.size + 1, 2, none⟩ = some (.int .i64 y') ∧ w'.cell? ⟨w.heap.size + 1, 3, none⟩ = some (.int .i64 q') ∧ w'.cell? ⟨w.heap.size + 1, 4, none⟩ = some (.string b') ∧ w.heap.size + 1 < w'.heap.size ∧ Below w.heap.size w w') (first | with_reducible exact HS.out | assumption) (first
    | (go_at_call 9; refine (HA.out _).mono ?_; rintro e w5 ⟨rfl, hb5⟩; have hS5 := keep2 w k s y q k' s' y' q' b b' (by assumption) hb5)
    | (go_at_call 14; refine (HN.out _).mono ?_; rintro e w5 ⟨rfl, hb5⟩; have hS5 := keep2 w k s y q k' s' y' q' b b' (by assumption) hb5)
    | (go_at_call 15; refine (HR.out _).mono ?_; rintro e w5 ⟨rfl, hb5⟩; have hS5 := keep2 w k s y q k' s' y' q' b b' (by assumption) hb5)
    | (go_at_call 16; refine (HM.out _).mono ?_; rintro e w5 ⟨rfl, rfl⟩)
    | (go_at_call 17; refine (HM2.out _).mono ?_; rintro e w5 ⟨rfl, hb5⟩; have hS5 := keep2 w k s y q k' s' y' q' b b' (by assumption) hb5))
  all_goals (try go_wp2)
  all_goals go_ret
  all_goals exact ⟨rfl, hS5.2.2.2.2.2.2.2.2.2.2.2⟩

theorem newer_long (k s y q k' s' y' q' : Int) (b b' : ByteArray) (a2 : Int) (w : World) (h : 20000 < b.size ∨ 20000 < b'.size) :
    Calls Try.prog 6 #[.agg #[.int .i64 k, .int .i64 s, .int .i64 y, .int .i64 q, .string b], .agg #[.int .i64 k', .int .i64 s', .int .i64 y', .int .i64 q', .string b'], .int .i64 a2] w fun e w' => e = .returned (.bool true) ∧ Below w.heap.size w w' := by
  by_cases h1 : (20000 : Int) < (b.size : Int)
  · clear h
    go_enter Try.func6, Try.ntmps6
    go_wp2_with fail
    refine (PG.awake_any _).mono ?_
    rintro e w1 ⟨rfl, hb1⟩
    have HB := Lib.hid (((below_box w _).alloc (by simp) _).trans (hb1.mono ((below_box w _).alloc (by simp) _).size))
    clear hb1
    go_wp2
    go_ret
    exact ⟨rfl, HB.out⟩
  · have h2 : (20000 : Int) < (b'.size : Int) := by omega
    clear h
    go_enter Try.func6, Try.ntmps6
    go_wp2_with fail
    refine (PG.awake_any _).mono ?_
    rintro e w1 ⟨rfl, hb1⟩
    have HB := Lib.hid (((below_box w _).alloc (by simp) _).trans (hb1.mono ((below_box w _).alloc (by simp) _).size))
    clear hb1
    go_wp2
    go_ret
    exact ⟨rfl, HB.out⟩

theorem walk (x0 : PG.Pg) (x1 : PG.Pg) (a2 : Int) (w : World) (w0 : OP.PgWf x0) (w1 : OP.PgWf x1) (w2 : (Lit.int .i64 a2).wf = true) :
    Calls Try.prog 6 #[.agg #[.int .i64 x0.kind, .int .i64 x0.space, .int .i64 x0.key, .int .i64 x0.seq, .string x0.body], .agg #[.int .i64 x1.kind, .int .i64 x1.space, .int .i64 x1.key, .int .i64 x1.seq, .string x1.body], .int .i64 a2] w fun e w' => e = .returned (.bool true) ∧ Below w.heap.size w w' := by
  by_cases hl : 20000 < x0.body.size ∨ 20000 < x1.body.size
  · exact newer_long _ _ _ _ _ _ _ _ _ _ a2 w hl
  · exact newer_law _ _ _ _ _ _ _ _ _ _ a2 _ w (by omega) (by omega) (Lib.hid (newer_any x0 x1)) (Lib.hid (rnewer_any x0 x1))

set_option maxRecDepth 100000 in
theorem lifted (os : Os) (started : os.Started) (H : Type) (enc : TypeId × Value → H) :
    ReturnsInHanded {} Try.checked os 6 .any (Rows.pageNewerSpec.pre6 enc Try.prog Try.f6 Rows.pageNewerRow.domain false) (Rows.pageNewerSpec.post enc Try.prog Try.f6 false true false false) := by
  refine returnsInHanded_of_change_sized (C := Try.checked) own started (by kernel_rfl) Try.func6
    (ChangeSpec.witness6 (enc := enc) (C := Try.checked) false ⟨#[], #[.agg #[.int .i64 0, .int .i64 0, .int .i64 0, .int .i64 0, .string ByteArray.empty], .agg #[.int .i64 0, .int .i64 0, .int .i64 0, .int .i64 0, .string ByteArray.empty], .int .i64 0], []⟩ 8 (by kernel_rfl) (by kernel_rfl) (by kernel_rfl) (by kernel_rfl)) ?_
  intro W base args ds gs before hval0 hW hcnd hsz0 _
  have hval : ∀ (j : Nat) t v, Try.f6.params[j]? = some t → args[j]? = some v → Value.okWide Try.prog W .any base t v := hval0
  have hW' := hW
  obtain ⟨p, q, hA0, hV, rfl, hfz, hnd⟩ := hW
  have hA : DataW.TrodAll enc Try.prog W 0 (fun _ => true) true Try.f6.params.toList args.toList ds p := hA0
  have hsz : (DataW.weightsEach Try.prog (Try.f6.params.toList ++ Rows.pageNewerSpec.plain.varTypes Try.prog) (ds ++ gs)).all (· ≤ reachBytes) = true := hsz0
  rw [Try.params6] at hA hval hsz
  obtain ⟨v0, vs0, d0, ds0, p0, q0, hargs, rfl, rfl, h0, r0⟩ := trodAll_cons hA
  obtain ⟨v1, vs1, d1, ds1, p1, q1, rfl, rfl, rfl, h1, r1⟩ := trodAll_cons r0
  obtain ⟨v2, vs2, d2, ds2, p2, q2, rfl, rfl, rfl, h2, r2⟩ := trodAll_cons r1
  obtain ⟨rfl, rfl, rfl⟩ := trodAll_nil r2
  obtain rfl : args = #[v0, v1, v2] := by cases args; simp_all
  obtain ⟨rfl, rfl⟩ := trodVars_none hV
  have k0 := h0
  have lt0 : ∀ x ∈ p0, x.block < W.heap.size := by obtain ⟨m, hm⟩ := k0; exact DataW.trod_lt m _ _ _ hm
  obtain ⟨x0, rfl, w0⟩ := OP.open_page (hval 0 23 v0 rfl rfl) h0
  have k1 := h1
  have lt1 : ∀ x ∈ p1, x.block < W.heap.size := by obtain ⟨m, hm⟩ := k1; exact DataW.trod_lt m _ _ _ hm
  obtain ⟨x1, rfl, w1⟩ := OP.open_page (hval 1 23 v1 rfl rfl) h1
  obtain ⟨a2, rfl, rfl, rfl, w2⟩ := open_int Try.underlying3 (hval 2 3 v2 rfl rfl) h2
  clear hA0 hval0 hsz0
  refine (walk x0 x1 a2 W w0 w1 w2).mono fun e W' ⟨he, bel⟩ => ?_
  subst he
  exact ⟨_, rfl, _, _, _, [], _, [], hW', trodAll_mk1 (shut_bool Try.underlying4 _), (trodAll_cons_mk (Below.trod laidOut (by kernel_rfl) (of_decide_eq_true (by kernel_rfl)) k0 bel lt0) (trodAll_cons_mk (Below.trod laidOut (by kernel_rfl) (of_decide_eq_true (by kernel_rfl)) k1 bel lt1) (trodAll_cons_mk (shut_int Try.underlying3 w2) trodAll_mk0))), rfl, bel.frame _, fun h => by cases h⟩

theorem over : Rows.pageNewerRow.holds Try.pinned (OpenSpec.ofChange Rows.pageNewerSpec) :=
  OpenClaim.holds_of_wide 6 Try.f6 rfl rfl rfl rfl rfl rfl rfl ⟨rfl, rfl, rfl, rfl, rfl⟩ rfl rfl rfl rfl rfl (by kernel_rfl) Try.func6 (by kernel_rfl)
    (of_decide_eq_true (by kernel_rfl)) (by unfold Func.isWrapper; first | (rw [if_pos (by decide +kernel)]; kernel_rfl) | (rw [if_neg (by decide +kernel)]; exact ⟨rfl, rfl⟩))
    (fun os started H enc _ => lifted os started H enc)

theorem proved : Rows.PageNewerSaid := over
#print axioms proved
end Go.Proofs.Ytolcacmkageidaa.pageNewer
