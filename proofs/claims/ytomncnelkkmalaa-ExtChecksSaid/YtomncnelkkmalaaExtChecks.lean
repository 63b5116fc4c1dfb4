/- The law ExtChecks holds: its Go text answers true for every input, and leaves its arguments as they were. No condition beyond the statement's own. -/
import Derived.Test.YtomncnelkkmalaaRows
import Derived.Test.YtomncnelkkmalaaExR4
import Derived.Test.YtomncnelkkmalaaExJ
import Derived.Test.YtomncnelkkmalaaExW
import Derived.Test.YtomncnelkkmalaaOpen7
import Derived.Test.YtomncnelkkmalaaOpen
import Derived.ProofKit
import Derived.OpenShut
import Derived.ShutString
import Derived.ChangeOld
import Derived.Below
import Derived.SizedLaws
namespace Go.Proofs.Ytomncnelkkmalaa.extChecks
open Go.ChangeShapes Go.WideShapes Go.ChangeAt Go.RowKit
open Go.ChangeMaps (open_string shut_string)
open Go.Proofs.Ytomncnelkkmalaa.FM
set_option linter.unusedVariables false
set_option linter.unusedSimpArgs false

theorem own : ownKnob Try.prog.godebug = none := by kernel_rfl
theorem laidOut : laidOutB Try.prog = true := by kernel_rfl

open MM EX OP

set_option maxHeartbeats 1000000 in
theorem big (a0 : Option Addr) (len0 cap0 : Nat) (L0 : List EX.Ext) (x1 x2 : EX.Ext) (w : World) (lm0 : len0 ≤ maxLen) (hbig : ¬ len0 ≤ 60) :
    Calls Try.prog 3 #[.slice a0 len0 cap0, .agg #[.int .i64 x1.from_, .int .i64 x1.n, .int .i64 x1.kind, .int .i64 x1.at_], .agg #[.int .i64 x2.from_, .int .i64 x2.n, .int .i64 x2.kind, .int .i64 x2.at_]] w fun e w' => e = .returned (.bool true) ∧ Below w.heap.size w w' := by
  have hf : decide ((len0 : Int) ≤ 60) = false := decide_eq_false (by omega)
  have HF := Lib.hid (few_any len0 cap0 lm0 a0)
  rw [hf] at HF
  clear hf lm0 hbig
  go_enter Try.func3, Try.ntmps3
  go_wp2_with fail
  refine (HF.out _).mono ?_
  rintro r w1 ⟨rfl, rfl⟩
  go_wp2_with fail
  refine (awake_any _).mono ?_
  rintro r w2 ⟨rfl, hb2⟩
  have B2 := Lib.hid hb2
  clear hb2
  go_wp2
  go_ret
  exact ⟨rfl, ((below_box w _).alloc (by simp) _).trans (B2.out.mono (by simp; omega))⟩

/-- The two extents' boxes, and what was joined, twice. -/
structure Ce (w : World) (x1 x2 J : Ext) (X7 X9 : Nat) (w' : World) : Prop where
  a : Blk w' w.heap.size 24 #[.int .i64 x1.from_, .int .i64 x1.n, .int .i64 x1.kind, .int .i64 x1.at_]
  j : Blk w' X7 24 #[.int .i64 J.from_, .int .i64 J.n, .int .i64 J.kind, .int .i64 J.at_]
  k : Blk w' X9 29 #[.int .i64 J.from_, .int .i64 J.n, .int .i64 J.kind, .int .i64 J.at_]
  bel : Below w.heap.size w w'
theorem Ce.below {w w1 w2 : World} {x1 x2 J : Ext} {X7 X9 : Nat} (h : Ce w x1 x2 J X7 X9 w1) (hb : Below w1.heap.size w1 w2) : Ce w x1 x2 J X7 X9 w2 :=
  ⟨h.a.below hb h.a.lt, h.j.below hb h.j.lt, h.k.below hb h.k.lt, h.bel.trans (hb.mono (Nat.le_of_lt h.a.lt))⟩
theorem ce_s {w w1 : World} {x1 x2 J : Ext} {X7 X9 : Nat} (h : Ce w x1 x2 J X7 X9 w1) : (w1.cell? ⟨w.heap.size, 0, none⟩ = some (.int .i64 x1.from_) ∧ w1.cell? ⟨w.heap.size, 1, none⟩ = some (.int .i64 x1.n) ∧ w1.cell? ⟨w.heap.size, 2, none⟩ = some (.int .i64 x1.kind) ∧ w1.cell? ⟨w.heap.size, 3, none⟩ = some (.int .i64 x1.at_) ∧ w1.cell? ⟨X7, 0, none⟩ = some (.int .i64 J.from_) ∧ w1.cell? ⟨X7, 1, none⟩ = some (.int .i64 J.n) ∧ w1.cell? ⟨X7, 2, none⟩ = some (.int .i64 J.kind) ∧ w1.cell? ⟨X7, 3, none⟩ = some (.int .i64 J.at_) ∧ w1.cell? ⟨X9, 0, none⟩ = some (.int .i64 J.from_) ∧ w1.cell? ⟨X9, 1, none⟩ = some (.int .i64 J.n) ∧ w1.cell? ⟨X9, 2, none⟩ = some (.int .i64 J.kind) ∧ w1.cell? ⟨X9, 3, none⟩ = some (.int .i64 J.at_) ∧ Ce w x1 x2 J X7 X9 w1) := by
  obtain ⟨⟨a0, a1, a2, a3⟩, _⟩ := cells4 h.a
  obtain ⟨⟨b0, b1, b2, b3⟩, _⟩ := cells4 h.j
  obtain ⟨⟨c0, c1, c2, c3⟩, _⟩ := cells4 h.k
  exact ⟨a0, a1, a2, a3, b0, b1, b2, b3, c0, c1, c2, c3, h⟩
theorem ce_of {w w1 : World} {x1 x2 J : Ext} {X7 X9 : Nat} (h : (w1.cell? ⟨w.heap.size, 0, none⟩ = some (.int .i64 x1.from_) ∧ w1.cell? ⟨w.heap.size, 1, none⟩ = some (.int .i64 x1.n) ∧ w1.cell? ⟨w.heap.size, 2, none⟩ = some (.int .i64 x1.kind) ∧ w1.cell? ⟨w.heap.size, 3, none⟩ = some (.int .i64 x1.at_) ∧ w1.cell? ⟨X7, 0, none⟩ = some (.int .i64 J.from_) ∧ w1.cell? ⟨X7, 1, none⟩ = some (.int .i64 J.n) ∧ w1.cell? ⟨X7, 2, none⟩ = some (.int .i64 J.kind) ∧ w1.cell? ⟨X7, 3, none⟩ = some (.int .i64 J.at_) ∧ w1.cell? ⟨X9, 0, none⟩ = some (.int .i64 J.from_) ∧ w1.cell? ⟨X9, 1, none⟩ = some (.int .i64 J.n) ∧ w1.cell? ⟨X9, 2, none⟩ = some (.int .i64 J.kind) ∧ w1.cell? ⟨X9, 3, none⟩ = some (.int .i64 J.at_) ∧ Ce w x1 x2 J X7 X9 w1)) : Ce w x1 x2 J X7 X9 w1 := h.2.2.2.2.2.2.2.2.2.2.2.2

set_option maxHeartbeats 4000000 in
theorem few_ (a0 : Option Addr) (len0 cap0 : Nat) (L0 : List EX.Ext) (x1 x2 : EX.Ext) (w : World) (hl0 : len0 = L0.length) (lm0 : len0 ≤ 60) (w0 : Exs w a0 L0) (wf0 : ∀ e ∈ L0, WfE e) (hx1 : WfE x1) (J : Ext) (v : Bool)
    (HJ : Hid (∀ w, Calls Try.prog 11 #[.agg #[.int .i64 x1.from_, .int .i64 x1.n, .int .i64 x1.kind, .int .i64 x1.at_], .agg #[.int .i64 x2.from_, .int .i64 x2.n, .int .i64 x2.kind, .int .i64 x2.at_]] w fun r w' => r = .returned (.tuple #[.agg #[.int .i64 J.from_, .int .i64 J.n, .int .i64 J.kind, .int .i64 J.at_], .bool v]) ∧ Below w.heap.size w w'))
    (HK : Hid (∀ w, Calls Try.prog 12 #[.agg #[.int .i64 x1.from_, .int .i64 x1.n, .int .i64 x1.kind, .int .i64 x1.at_], .agg #[.int .i64 x2.from_, .int .i64 x2.n, .int .i64 x2.kind, .int .i64 x2.at_]] w fun r w' => r = .returned (.tuple #[.agg #[.int .i64 J.from_, .int .i64 J.n, .int .i64 J.kind, .int .i64 J.at_], .bool v]) ∧ Below w.heap.size w w')) :
    Calls Try.prog 3 #[.slice a0 len0 cap0, .agg #[.int .i64 x1.from_, .int .i64 x1.n, .int .i64 x1.kind, .int .i64 x1.at_], .agg #[.int .i64 x2.from_, .int .i64 x2.n, .int .i64 x2.kind, .int .i64 x2.at_]] w fun e w' => e = .returned (.bool true) ∧ Below w.heap.size w w' := by
  have HX := Lib.hid w0
  have HL := Lib.hid hl0
  have hf : decide ((len0 : Int) ≤ 60) = true := decide_eq_true (by omega)
  have HF := Lib.hid (few_any len0 cap0 (by unfold maxLen; omega) a0)
  rw [hf] at HF
  clear hf
  obtain ⟨d1, hd1⟩ : ∃ d, d = decide (EX.One x1) := ⟨_, rfl⟩
  obtain ⟨d2, hd2⟩ : ∃ d, d = decide (Valid L0) := ⟨_, rfl⟩
  have HO1 := Lib.hid (one_any x1 hx1)
  have HO2 := Lib.hid (rone_any x1)
  have HC1 := Lib.hid (fun w1 (h : Below w.heap.size w w1) => check_any L0 len0 cap0 hl0 (by unfold maxLen; omega) a0 w1 (w0.below h) wf0)
  have HRF := Lib.hid (fun w1 (h : Below w.heap.size w w1) => refs_any L0 len0 cap0 hl0 (by omega) a0 w1 (w0.below h))
  have HC2 : Hid (∀ (w1 : World) (A : Option Addr) (n c : Nat), n = L0.length → Exs w1 A L0 → Calls Try.prog 16 #[.slice A n c] w1 fun e w' => e = .returned (.bool d2) ∧ Below w1.heap.size w1 w') := Lib.hid fun w1 A n c h1 h2 => by rw [hd2]; exact rcheck_any L0 n c h1 (by rw [h1, ← hl0]; unfold maxLen; omega) A w1 h2
  rw [← hd1] at HO1 HO2
  rw [← hd2] at HC1
  obtain ⟨W, hW⟩ : ∃ W, W = (w.alloc (.cells #[.int .i64 x1.from_, .int .i64 x1.n, .int .i64 x1.kind, .int .i64 x1.at_] 24)).alloc (.cells #[.int .i64 x2.from_, .int .i64 x2.n, .int .i64 x2.kind, .int .i64 x2.at_] 24) := ⟨_, rfl⟩
  obtain ⟨k1, k2, hb0⟩ := box_two w _ _ _ _ W hW
  have K1 := Lib.hid k1
  have K2 := Lib.hid k2
  have B0 := Lib.hid hb0
  obtain ⟨⟨a0', a1', a2', a3'⟩, _⟩ := cells4 k1
  obtain ⟨⟨b0', b1', b2', b3'⟩, _⟩ := cells4 k2
  have HW := Lib.hid hW
  clear hl0 w0 wf0 hd1 hd2 hW k1 k2 hb0 hx1
  go_enter Try.func3, Try.ntmps3
  go_wp2_with fail
  rw [← HW.out]
  refine (HF.out _).mono ?_
  rintro r w1 ⟨rfl, rfl⟩
  clear HF
  go_wp2_with fail
  refine (HJ.out _).mono ?_
  rintro r w2 ⟨rfl, hb2⟩
  have K12 := Lib.hid (K1.out.below hb2 K1.out.lt)
  have K22 := Lib.hid (K2.out.below hb2 K2.out.lt)
  have B2 := Lib.hid (B0.out.trans (hb2.mono B0.out.size))
  clear hb2 a0' a1' a2' a3' b0' b1' b2' b3' HJ
  obtain ⟨⟨a0', a1', a2', a3'⟩, _⟩ := cells4 K12.out
  obtain ⟨⟨b0', b1', b2', b3'⟩, _⟩ := cells4 K22.out
  obtain ⟨⟨a4', a5', a6', a7'⟩, _⟩ := cells4 (K12.out.alloc (.cells #[.int .i64 J.from_, .int .i64 J.n, .int .i64 J.kind, .int .i64 J.at_] 24))
  obtain ⟨⟨b4', b5', b6', b7'⟩, _⟩ := cells4 (K22.out.alloc (.cells #[.int .i64 J.from_, .int .i64 J.n, .int .i64 J.kind, .int .i64 J.at_] 24))
  go_wp2_with fail
  refine (HK.out _).mono ?_
  rintro r w3 ⟨rfl, hb3⟩
  have hK13 := (K12.out.alloc (.cells #[.int .i64 J.from_, .int .i64 J.n, .int .i64 J.kind, .int .i64 J.at_] 24)).below hb3 (K12.out.alloc _).lt
  have hJ3 : Blk w3 w2.heap.size 24 #[.int .i64 J.from_, .int .i64 J.n, .int .i64 J.kind, .int .i64 J.at_] := (Blk.new w2 _ _).below hb3 (Blk.new w2 24 #[.int .i64 J.from_, .int .i64 J.n, .int .i64 J.kind, .int .i64 J.at_]).lt
  have hB3 : Below w.heap.size w w3 := below_kept (below_kept B2.out (below_box w2 _)) hb3
  have hb34 := below_box w3 (.cells #[.int .i64 J.from_, .int .i64 J.n, .int .i64 J.kind, .int .i64 J.at_] 29)
  have hCe : Ce w x1 x2 J w2.heap.size w3.heap.size (w3.alloc (.cells #[.int .i64 J.from_, .int .i64 J.n, .int .i64 J.kind, .int .i64 J.at_] 29)) := ⟨hK13.below hb34 hK13.lt, hJ3.below hb34 hJ3.lt, Blk.new w3 _ _, below_kept hB3 hb34⟩
  have HS0 := Lib.hid (ce_s (hCe.below (Below.refl _ _).drew))
  have HS1 := Lib.hid (ce_s hCe)
  clear a4' a5' a6' a7' b4' b5' b6' b7' hb3 hK13 hJ3 hB3 hb34 hCe a0' a1' a2' a3' b0' b1' b2' b3' HK
  go_wp2
  obtain ⟨X7, hX7⟩ : ∃ X, X = w2.heap.size := ⟨_, rfl⟩
  obtain ⟨X9, hX9⟩ : ∃ X, X = w3.heap.size := ⟨_, rfl⟩
  obtain ⟨W4, hW4⟩ : ∃ W4, W4 = w3.alloc (.cells #[.int .i64 J.from_, .int .i64 J.n, .int .i64 J.kind, .int .i64 J.at_] 29) := ⟨_, rfl⟩
  rw [← hX7, ← hX9, ← hW4] at HS0 HS1 ⊢
  have HSS := HS1.out
  obtain ⟨p0, p1, p2, p3, p4, p5, p6, p7, p8, p9, p10, p11, _⟩ := HSS
  clear hX7 hX9 hW4 K1 K2 K12 K22 B0 B2 HW HS1
  go_region_held3 (fun w' => (w'.cell? ⟨w.heap.size, 0, none⟩ = some (.int .i64 x1.from_) ∧ w'.cell? ⟨w.heap.size, 1, none⟩ = some (.int .i64 x1.n) ∧ w'.cell? ⟨w.heap.size, 2, none⟩ = some (.int .i64 x1.kind) ∧ w'.cell? ⟨w.heap.size, 3, none⟩ = some (.int .i64 x1.at_) ∧ w'.cell? ⟨X7, 0, none⟩ = some (.int .i64 J.from_) ∧ w'.cell? ⟨X7, 1, none⟩ = some (.int .i64 J.n) ∧ w'.cell? ⟨X7, 2, none⟩ = some (.int .i64 J.kind) ∧ w'.cell? ⟨X7, 3, none⟩ = some (.int .i64 J.at_) ∧ w'.cell? ⟨X9, 0, none⟩ = some (.int .i64 J.from_) ∧ w'.cell? ⟨X9, 1, none⟩ = some (.int .i64 J.n) ∧ w'.cell? ⟨X9, 2, none⟩ = some (.int .i64 J.kind) ∧ w'.cell? ⟨X9, 3, none⟩ = some (.int .i64 J.at_) ∧ Ce w x1 x2 J X7 X9 w')) (first | with_reducible exact HS0.out | with_reducible assumption) (first | (go_at_call 10; (with_reducible refine (awake_any _).mono ?_); rintro r w5 ⟨rfl, hb5⟩; have hS5 := ce_s ((ce_of (by assumption)).below hb5)) | (go_at_call 13; (with_reducible refine (HO1.out _).mono ?_); rintro r w6 ⟨rfl, hb6⟩; have hS6 := ce_s ((ce_of (by assumption)).below hb6)) | (go_at_call 14; (with_reducible refine (HO2.out _).mono ?_); rintro r w7 ⟨rfl, hb7⟩; have hS7 := ce_s ((ce_of (by assumption)).below hb7)) | (go_at_call 15; (with_reducible refine (HC1.out _ (ce_of (by assumption)).bel).mono ?_); rintro r w8 ⟨rfl, hb8⟩; have hS8 := ce_s ((ce_of (by assumption)).below hb8)) | (go_at_call 17; refine (HRF.out _ (ce_of (by assumption)).bel).mono ?_; rintro r w9 ⟨A9, n9, c9, rfl, hn9, hx9, hb9⟩; have HN9 := Lib.hid hn9; clear hn9; have hS9 := ce_s ((ce_of (by assumption)).below hb9)) | (go_at_call 16; (with_reducible refine (HC2.out _ _ _ _ HN9.out hx9).mono ?_); rintro r w10 ⟨rfl, hb10⟩; have hS10 := ce_s ((ce_of (by assumption)).below hb10)))
  have HB := Lib.hid (ce_of hS10).bel
  clear hS5 hS6 hS7 hS8 hS9 hS10 hb5 hb6 hb7 hb8 hb9 hb10 HS0 p0 p1 p2 p3 p4 p5 p6 p7 p8 p9 p10 p11
  go_wp2
  go_ret
  exact ⟨rfl, HB.out⟩
theorem walk (a0 : Option Addr) (len0 cap0 : Nat) (L0 : List EX.Ext) (x1 : EX.Ext) (x2 : EX.Ext) (w : World) (hl0 : len0 = L0.length) (lm0 : len0 ≤ maxLen) (w0 : EX.Exs w a0 L0) (wf0 : ∀ e ∈ L0, EX.WfE e) (w1 : EX.WfE x1) (w2 : EX.WfE x2) :
    Calls Try.prog 3 #[.slice a0 len0 cap0, .agg #[.int .i64 x1.from_, .int .i64 x1.n, .int .i64 x1.kind, .int .i64 x1.at_], .agg #[.int .i64 x2.from_, .int .i64 x2.n, .int .i64 x2.kind, .int .i64 x2.at_]] w fun e w' => e = .returned (.bool true) ∧ Below w.heap.size w w' := by
  by_cases hf : len0 ≤ 60
  · by_cases h : EX.One x1 ∧ EX.One x2 ∧ Tog x1 x2
    · exact few_ a0 len0 cap0 L0 x1 x2 w hl0 hf w0 wf0 w1 (join x1 x2) true (Lib.hid (joined_ok x1 x2 h.1 h.2.1 h.2.2)) (Lib.hid (rjoined_ok x1 x2 h.1 h.2.1 h.2.2))
    · exact few_ a0 len0 cap0 L0 x1 x2 w hl0 hf w0 wf0 w1 Ext.zero false (Lib.hid (joined_no x1 x2 w1 w2 h)) (Lib.hid (rjoined_no x1 x2 h))
  · exact big a0 len0 cap0 L0 x1 x2 w lm0 hf

set_option maxRecDepth 100000 in
theorem lifted (os : Os) (started : os.Started) (H : Type) (enc : TypeId × Value → H) :
    ReturnsInHanded {} Try.checked os 3 .any (Rows.extChecksSpec.pre6 enc Try.prog Try.f3 Rows.extChecksRow.domain false) (Rows.extChecksSpec.post enc Try.prog Try.f3 false true false false) := by
  refine returnsInHanded_of_change_sized (C := Try.checked) own started (by kernel_rfl) Try.func3
    (ChangeSpec.witness6 (enc := enc) (C := Try.checked) false ⟨#[], #[.slice none 0 0, .agg #[.int .i64 0, .int .i64 0, .int .i64 0, .int .i64 0], .agg #[.int .i64 0, .int .i64 0, .int .i64 0, .int .i64 0]], []⟩ 8 (by kernel_rfl) (by kernel_rfl) (by kernel_rfl) (by kernel_rfl)) ?_
  intro W base args ds gs before hval0 hW hcnd hsz0 _
  have hval : ∀ (j : Nat) t v, Try.f3.params[j]? = some t → args[j]? = some v → Value.okWide Try.prog W .any base t v := hval0
  have hW' := hW
  obtain ⟨p, q, hA0, hV, rfl, hfz, hnd⟩ := hW
  have hA : DataW.TrodAll enc Try.prog W 0 (fun _ => true) true Try.f3.params.toList args.toList ds p := hA0
  have hsz : (DataW.weightsEach Try.prog (Try.f3.params.toList ++ Rows.extChecksSpec.plain.varTypes Try.prog) (ds ++ gs)).all (· ≤ reachBytes) = true := hsz0
  rw [Try.params3] at hA hval hsz
  obtain ⟨v0, vs0, d0, ds0, p0, q0, hargs, rfl, rfl, h0, r0⟩ := trodAll_cons hA
  obtain ⟨v1, vs1, d1, ds1, p1, q1, rfl, rfl, rfl, h1, r1⟩ := trodAll_cons r0
  obtain ⟨v2, vs2, d2, ds2, p2, q2, rfl, rfl, rfl, h2, r2⟩ := trodAll_cons r1
  obtain ⟨rfl, rfl, rfl⟩ := trodAll_nil r2
  obtain rfl : args = #[v0, v1, v2] := by cases args; simp_all
  obtain ⟨rfl, rfl⟩ := trodVars_none hV
  have k0 := h0
  have lt0 : ∀ x ∈ p0, x.block < W.heap.size := by obtain ⟨m, hm⟩ := k0; exact DataW.trod_lt m _ _ _ hm
  obtain ⟨a0, len0, cap0, L0, rfl, hl0, lm0, w0, wf0⟩ := OP.open_exts (hval 0 22 v0 rfl rfl) h0
  have k1 := h1
  have lt1 : ∀ x ∈ p1, x.block < W.heap.size := by obtain ⟨m, hm⟩ := k1; exact DataW.trod_lt m _ _ _ hm
  obtain ⟨x1, rfl, w1⟩ := OP.open_ext (hval 1 24 v1 rfl rfl) h1
  have k2 := h2
  have lt2 : ∀ x ∈ p2, x.block < W.heap.size := by obtain ⟨m, hm⟩ := k2; exact DataW.trod_lt m _ _ _ hm
  obtain ⟨x2, rfl, w2⟩ := OP.open_ext (hval 2 24 v2 rfl rfl) h2
  clear hA0 hval0 hsz0
  refine (walk a0 len0 cap0 L0 x1 x2 W hl0 lm0 w0 wf0 w1 w2).mono fun e W' ⟨he, bel⟩ => ?_
  subst he
  exact ⟨_, rfl, _, _, _, [], _, [], hW', trodAll_mk1 (shut_bool Try.underlying4 _), (trodAll_cons_mk (Below.trod laidOut (by kernel_rfl) (of_decide_eq_true (by kernel_rfl)) k0 bel lt0) (trodAll_cons_mk (Below.trod laidOut (by kernel_rfl) (of_decide_eq_true (by kernel_rfl)) k1 bel lt1) (trodAll_cons_mk (Below.trod laidOut (by kernel_rfl) (of_decide_eq_true (by kernel_rfl)) k2 bel lt2) trodAll_mk0))), rfl, bel.frame _, fun h => by cases h⟩

theorem over : Rows.extChecksRow.holds Try.pinned (OpenSpec.ofChange Rows.extChecksSpec) :=
  OpenClaim.holds_of_wide 3 Try.f3 rfl rfl rfl rfl rfl rfl rfl ⟨rfl, rfl, rfl, rfl, rfl⟩ rfl rfl rfl rfl rfl (by kernel_rfl) Try.func3 (by kernel_rfl)
    (of_decide_eq_true (by kernel_rfl)) (by unfold Func.isWrapper; first | (rw [if_pos (by decide +kernel)]; kernel_rfl) | (rw [if_neg (by decide +kernel)]; exact ⟨rfl, rfl⟩))
    (fun os started H enc _ => lifted os started H enc)

theorem proved : Rows.ExtChecksSaid := over
#print axioms proved
end Go.Proofs.Ytomncnelkkmalaa.extChecks
