/- The law PageWrites holds: its Go text answers true for every input, and leaves its arguments as they were. No condition beyond the statement's own. -/
import Derived.Test.YtolcacmkageidaaRows
import Derived.Test.YtolcacmkageidaaPgRW
import Derived.Test.YtolcacmkageidaaAwake5
import Derived.Test.YtolcacmkageidaaOpen5
import Derived.ProofKit
import Derived.OpenShut
import Derived.ShutString
import Derived.ChangeOld
import Derived.Below
import Derived.SizedLaws
namespace Go.Proofs.Ytolcacmkageidaa.pageWrites
open Go.ChangeShapes Go.WideShapes Go.ChangeAt Go.RowKit
open Go.ChangeMaps (open_string shut_string)
open Go.Proofs.Ytolcacmkageidaa.FM
set_option linter.unusedVariables false
set_option linter.unusedSimpArgs false

theorem own : ownKnob Try.prog.godebug = none := by kernel_rfl
theorem laidOut : laidOutB Try.prog = true := by kernel_rfl

open PG FM CM

theorem eq_self (S : ByteArray) : (S.toList == S.toList) = true := by simp
set_option maxHeartbeats 2000000 in
/-- Both answer alike: the law answers true. -/
theorem alike (x0 : Pg) (S : ByteArray) (n : Int) (w : World) (hl : x0.body.size ≤ 20000) (hS : S.size ≤ 128)
    (H1 : Hid (∀ w, Calls Try.prog 10 #[.agg #[.int .i64 x0.kind, .int .i64 x0.space, .int .i64 x0.key, .int .i64 x0.seq, .string x0.body]] w fun e w' => e = .returned (.tuple #[.string S, .int .i64 n]) ∧ Below w.heap.size w w'))
    (H2 : Hid (∀ w, Calls Try.prog 11 #[.agg #[.int .i64 x0.kind, .int .i64 x0.space, .int .i64 x0.key, .int .i64 x0.seq, .string x0.body]] w fun e w' => e = .returned (.tuple #[.string S, .int .i64 n]) ∧ Below w.heap.size w w')) :
    Calls Try.prog 3 #[.agg #[.int .i64 x0.kind, .int .i64 x0.space, .int .i64 x0.key, .int .i64 x0.seq, .string x0.body]] w fun e w' => e = .returned (.bool true) ∧ Below w.heap.size w w' := by
  obtain ⟨k, s, y, q, b⟩ := x0
  have hl' : ¬ (20000 : Int) < (b.size : Int) := by have : b.size ≤ 20000 := hl; omega
  have hS' : (S.size : Int) ≤ 128 := by omega
  obtain ⟨w0, hw0⟩ : ∃ w0, w0 = w.alloc (.cells #[.int .i64 k, .int .i64 s, .int .i64 y, .int .i64 q, .string b] 23) := ⟨_, rfl⟩
  have HW0 := Lib.hid hw0
  have h0 := box_at w k s y q b 23 w0 hw0
  clear hl hS hw0
  go_enter Try.func3, Try.ntmps3
  go_wp2_with fail
  rw [← HW0.out]
  refine (H1.out _).mono ?_
  rintro e w1 ⟨rfl, hb1⟩
  have h1 := keepS w k s y q b h0 hb1
  have g1 := h1
  obtain ⟨c0, c1, c2, c3, c4, _⟩ := h1
  clear hb1
  go_wp2_with fail
  refine (H2.out _).mono ?_
  rintro e w2 ⟨rfl, hb2⟩
  have h2 := keepS w k s y q b g1 hb2
  clear c0 c1 c2 c3 c4 hb2
  go_wp2_with fail
  refine (PG.awake_any _).mono ?_
  rintro e w3 ⟨rfl, hb3⟩
  have HB := Lib.hid (keepS w k s y q b h2 hb3).2.2.2.2.2.2
  clear hb3 h2
  go_wp2
  go_ret
  exact ⟨rfl, HB.out⟩

theorem walk_long (x0 : Pg) (w : World) (hl : 20000 < x0.body.size) :
    Calls Try.prog 3 #[.agg #[.int .i64 x0.kind, .int .i64 x0.space, .int .i64 x0.key, .int .i64 x0.seq, .string x0.body]] w fun e w' => e = .returned (.bool true) ∧ Below w.heap.size w w' := by
  obtain ⟨k, s, y, q, b⟩ := x0
  have hl' : (20000 : Int) < (b.size : Int) := by have : 20000 < b.size := hl; omega
  clear hl
  go_enter Try.func3, Try.ntmps3
  go_wp2_with fail
  refine (PG.awake_any _).mono ?_
  rintro e w3 ⟨rfl, hb3⟩
  have HB := Lib.hid ((below_box w _).trans (hb3.mono (below_box w _).size))
  clear hb3
  go_wp2
  go_ret
  exact ⟨rfl, HB.out⟩

theorem walk (x0 : PG.Pg) (w : World) (w0 : OP.PgWf x0) :
    Calls Try.prog 3 #[.agg #[.int .i64 x0.kind, .int .i64 x0.space, .int .i64 x0.key, .int .i64 x0.seq, .string x0.body]] w fun e w' => e = .returned (.bool true) ∧ Below w.heap.size w w' := by
  by_cases hl : 20000 < x0.body.size
  · exact walk_long x0 w hl
  · by_cases hm : May x0
    · exact alike x0 _ 0 w (by omega) (by rw [str_size, bytes_len]; have := hm.2.2.2.2; omega) (Lib.hid (write_yes x0 hm)) (Lib.hid (rwrite_yes x0 hm))
    · exact alike x0 _ 1 w (by omega) (by decide) (Lib.hid (write_no x0 hm)) (Lib.hid (rwrite_no x0 hm))

set_option maxRecDepth 100000 in
theorem lifted (os : Os) (started : os.Started) (H : Type) (enc : TypeId × Value → H) :
    ReturnsInHanded {} Try.checked os 3 .any (Rows.pageWritesSpec.pre6 enc Try.prog Try.f3 Rows.pageWritesRow.domain false) (Rows.pageWritesSpec.post enc Try.prog Try.f3 false true false false) := by
  refine returnsInHanded_of_change_sized (C := Try.checked) own started (by kernel_rfl) Try.func3
    (ChangeSpec.witness6 (enc := enc) (C := Try.checked) false ⟨#[], #[.agg #[.int .i64 0, .int .i64 0, .int .i64 0, .int .i64 0, .string ByteArray.empty]], []⟩ 8 (by kernel_rfl) (by kernel_rfl) (by kernel_rfl) (by kernel_rfl)) ?_
  intro W base args ds gs before hval0 hW hcnd hsz0 _
  have hval : ∀ (j : Nat) t v, Try.f3.params[j]? = some t → args[j]? = some v → Value.okWide Try.prog W .any base t v := hval0
  have hW' := hW
  obtain ⟨p, q, hA0, hV, rfl, hfz, hnd⟩ := hW
  have hA : DataW.TrodAll enc Try.prog W 0 (fun _ => true) true Try.f3.params.toList args.toList ds p := hA0
  have hsz : (DataW.weightsEach Try.prog (Try.f3.params.toList ++ Rows.pageWritesSpec.plain.varTypes Try.prog) (ds ++ gs)).all (· ≤ reachBytes) = true := hsz0
  rw [Try.params3] at hA hval hsz
  obtain ⟨v0, vs0, d0, ds0, p0, q0, hargs, rfl, rfl, h0, r0⟩ := trodAll_cons hA
  obtain ⟨rfl, rfl, rfl⟩ := trodAll_nil r0
  obtain rfl : args = #[v0] := by cases args; simp_all
  obtain ⟨rfl, rfl⟩ := trodVars_none hV
  have k0 := h0
  have lt0 : ∀ x ∈ p0, x.block < W.heap.size := by obtain ⟨m, hm⟩ := k0; exact DataW.trod_lt m _ _ _ hm
  obtain ⟨x0, rfl, w0⟩ := OP.open_page (hval 0 23 v0 rfl rfl) h0
  clear hA0 hval0 hsz0
  refine (walk x0 W w0).mono fun e W' ⟨he, bel⟩ => ?_
  subst he
  exact ⟨_, rfl, _, _, _, [], _, [], hW', trodAll_mk1 (shut_bool Try.underlying4 _), (trodAll_cons_mk (Below.trod laidOut (by kernel_rfl) (of_decide_eq_true (by kernel_rfl)) k0 bel lt0) trodAll_mk0), rfl, bel.frame _, fun h => by cases h⟩

theorem over : Rows.pageWritesRow.holds Try.pinned (OpenSpec.ofChange Rows.pageWritesSpec) :=
  OpenClaim.holds_of_wide 3 Try.f3 rfl rfl rfl rfl rfl rfl rfl ⟨rfl, rfl, rfl, rfl, rfl⟩ rfl rfl rfl rfl rfl (by kernel_rfl) Try.func3 (by kernel_rfl)
    (of_decide_eq_true (by kernel_rfl)) (by unfold Func.isWrapper; first | (rw [if_pos (by decide +kernel)]; kernel_rfl) | (rw [if_neg (by decide +kernel)]; exact ⟨rfl, rfl⟩))
    (fun os started H enc _ => lifted os started H enc)

theorem proved : Rows.PageWritesSaid := over
#print axioms proved
end Go.Proofs.Ytolcacmkageidaa.pageWrites
