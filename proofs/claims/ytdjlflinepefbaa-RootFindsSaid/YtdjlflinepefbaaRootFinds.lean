/- The law RootFinds holds: its Go text answers true for every input, and leaves its arguments as they were. No condition beyond the statement's own. -/
import Derived.Test.YtdjlflinepefbaaRows
import Derived.Test.YtdjlflinepefbaaRtF
import Derived.Test.YtdjlflinepefbaaOpen12
import Derived.Test.YtdjlflinepefbaaOpen
import Derived.ProofKit
import Derived.OpenShut
import Derived.ShutString
import Derived.ChangeOld
import Derived.Below
import Derived.SizedLaws
namespace Go.Proofs.Ytdjlflinepefbaa.rootFinds
open Go.ChangeShapes Go.WideShapes Go.ChangeAt Go.RowKit
open Go.ChangeMaps (open_string shut_string)
open Go.Proofs.Ytdjlflinepefbaa.FM
set_option linter.unusedVariables false
set_option linter.unusedSimpArgs false

theorem own : ownKnob Try.prog.godebug = none := by kernel_rfl
theorem laidOut : laidOutB Try.prog = true := by kernel_rfl

open MM EX OP RT FM

theorem big (a0 : Option Addr) (len0 cap0 : Nat) (a1 : Int) (w : World) (hbig : ¬ len0 ≤ 60) :
    Calls Try.prog 8 #[.slice a0 len0 cap0, .int .i64 a1] w fun e w' => e = .returned (.bool true) ∧ Below w.heap.size w w' := by
  have hf : (60 : Int) < (len0 : Int) := by omega
  clear hbig
  go_enter Try.func8, Try.ntmps8
  go_wp2_with fail
  refine (RT.awake_any _).mono ?_
  rintro r w2 ⟨rfl, hb2⟩
  go_wp2
  go_ret
  exact ⟨rfl, hb2⟩
structure Fx (w : World) (g b o : Nat) (e : EX.Ext) (w' : World) : Prop where
  blk : Blk w' g 54 #[.int .i64 e.from_, .int .i64 e.n, .int .i64 e.kind, .int .i64 e.at_]
  row : Cells4 w' b o e
  lt : b < w'.heap.size
  bel : Below w.heap.size w w'
theorem Fx.below {w : World} {g b o : Nat} {e : EX.Ext} {w1 w2 : World} (h : Fx w g b o e w1) (hb : Below w1.heap.size w1 w2) : Fx w g b o e w2 :=
  ⟨h.blk.below hb h.blk.lt, h.row.kept hb h.lt, Nat.lt_of_lt_of_le h.lt hb.size, bkept h.bel hb⟩
theorem fx_s {w : World} {g b o : Nat} {e : EX.Ext} {w' : World} (h : Fx w g b o e w') : w'.cell? ⟨g, 0, none⟩ = some (.int .i64 e.from_) ∧ w'.cell? ⟨g, 1, none⟩ = some (.int .i64 e.n) ∧ w'.cell? ⟨g, 2, none⟩ = some (.int .i64 e.kind) ∧ w'.cell? ⟨g, 3, none⟩ = some (.int .i64 e.at_) ∧ w'.cell? ⟨b, o, none⟩ = some (.int .i64 e.from_) ∧ w'.cell? ⟨b, o + 1, none⟩ = some (.int .i64 e.n) ∧ w'.cell? ⟨b, o + 2, none⟩ = some (.int .i64 e.kind) ∧ w'.cell? ⟨b, o + 3, none⟩ = some (.int .i64 e.at_) ∧ Fx w g b o e w' :=
  ⟨h.blk.cell 0, h.blk.cell 1, h.blk.cell 2, h.blk.cell 3, h.row.1, h.row.2.1, h.row.2.2.1, h.row.2.2.2, h⟩
theorem fx_of {w : World} {g b o : Nat} {e : EX.Ext} {w' : World} (h : w'.cell? ⟨g, 0, none⟩ = some (.int .i64 e.from_) ∧ w'.cell? ⟨g, 1, none⟩ = some (.int .i64 e.n) ∧ w'.cell? ⟨g, 2, none⟩ = some (.int .i64 e.kind) ∧ w'.cell? ⟨g, 3, none⟩ = some (.int .i64 e.at_) ∧ w'.cell? ⟨b, o, none⟩ = some (.int .i64 e.from_) ∧ w'.cell? ⟨b, o + 1, none⟩ = some (.int .i64 e.n) ∧ w'.cell? ⟨b, o + 2, none⟩ = some (.int .i64 e.kind) ∧ w'.cell? ⟨b, o + 3, none⟩ = some (.int .i64 e.at_) ∧ Fx w g b o e w') : Fx w g b o e w' := h.2.2.2.2.2.2.2.2
set_option maxHeartbeats 4000000 in
theorem found (a0 : Option Addr) (len0 cap0 : Nat) (L0 : List EX.Ext) (a1 : Int) (w : World) (hl0 : len0 = L0.length) (w0 : EX.Exs w a0 L0) (hs : len0 ≤ 60) (k : Nat) (e : EX.Ext) (hf : Fst L0 a1 k e) (HF : Hid (Calls Try.prog 21 #[.slice a0 len0 cap0, .int .i64 a1] w fun r w' => r = .returned (.tuple #[.agg #[.int .i64 e.from_, .int .i64 e.n, .int .i64 e.kind, .int .i64 e.at_], .bool true]) ∧ Below w.heap.size w w')) :
    Calls Try.prog 8 #[.slice a0 len0 cap0, .int .i64 a1] w fun e w' => e = .returned (.bool true) ∧ Below w.heap.size w w' := by
  have h1 : ¬ (60 : Int) < (len0 : Int) := by omega
  have HX := Lib.hid w0
  have HL := Lib.hid hl0
  have HFS := Lib.hid hf
  have hkl : k < len0 := by
    rcases Nat.lt_or_ge k L0.length with h | h
    · rw [hl0]; exact h
    · have := hf.1; rw [List.getElem?_eq_none h] at this; cases this
  clear hs hl0 w0 hf
  go_enter Try.func8, Try.ntmps8
  go_wp2_with fail
  refine HF.out.mono ?_
  rintro r w1 ⟨rfl, hb1⟩
  obtain ⟨W, hW⟩ : ∃ W, W = w1.alloc (.cells #[.int .i64 e.from_, .int .i64 e.n, .int .i64 e.kind, .int .i64 e.at_] 54) := ⟨_, rfl⟩
  have HB1 : Hid (Below w.heap.size w W) := Lib.hid (by rw [hW]; exact bkept hb1 (below_box w1 _))
  have HBK : Hid (Blk W w1.heap.size 54 #[.int .i64 e.from_, .int .i64 e.n, .int .i64 e.kind, .int .i64 e.at_]) := Lib.hid (by rw [hW]; exact Blk.new w1 _ _)
  have HWE := Lib.hid hW
  clear hW hb1
  go_wp2
  rw [← HWE.out]
  go_loopw [7] (fun i wr => ∃ j : Nat, j ≤ k ∧ i = .int .i64 j ∧ W = wr) (fun i _ => len0 - (intOf i).toNat)
  case atStart => exact ⟨0, Nat.zero_le _, rfl, rfl⟩
  case round =>
    obtain ⟨j, hj, rfl, rfl⟩ := hrel
    obtain ⟨x, hx⟩ : ∃ x, L0[j]? = some x := ⟨_, List.getElem?_eq_getElem (by rw [← HL.out]; omega)⟩
    obtain ⟨b, off, rfl, hb, hc⟩ := exs_get HX.out hx
    obtain ⟨q0, q1, q2, q3⟩ := (hc j x hx).kept HB1.out hb
    have t1 : (j : Int) < (len0 : Int) := by omega
    have t2 : (0 : Int) ≤ (j : Int) := by omega
    by_cases hjk : j = k
    · subst hjk
      obtain rfl : x = e := by have := HFS.out.1; rw [hx] at this; exact Option.some.inj this
      have hid : (x.from_ == a1) = true := beq_iff_eq.2 HFS.out.2.1
      have HFX : Hid (Fx w w1.heap.size b (off + j * 4) x W.drew) := Lib.hid ⟨HBK.out.below (Below.refl _ _).drew HBK.out.lt, ⟨q0, q1, q2, q3⟩, Nat.lt_of_lt_of_le hb HB1.out.size, HB1.out.drew⟩
      have HSX := Lib.hid (fx_s HFX.out)
      clear hc hx q1 q2 q3
      go_wp2
      clear q0
      go_region_held3 (fun w' => w'.cell? ⟨w1.heap.size, 0, none⟩ = some (.int .i64 x.from_) ∧ w'.cell? ⟨w1.heap.size, 1, none⟩ = some (.int .i64 x.n) ∧ w'.cell? ⟨w1.heap.size, 2, none⟩ = some (.int .i64 x.kind) ∧ w'.cell? ⟨w1.heap.size, 3, none⟩ = some (.int .i64 x.at_) ∧ w'.cell? ⟨b, off + j * 4, none⟩ = some (.int .i64 x.from_) ∧ w'.cell? ⟨b, off + j * 4 + 1, none⟩ = some (.int .i64 x.n) ∧ w'.cell? ⟨b, off + j * 4 + 2, none⟩ = some (.int .i64 x.kind) ∧ w'.cell? ⟨b, off + j * 4 + 3, none⟩ = some (.int .i64 x.at_) ∧ Fx w w1.heap.size b (off + j * 4) x w') (first | with_reducible exact HSX.out | with_reducible assumption) ((go_at_call 10; refine (RT.awake_any _).mono ?_; rintro r w5 ⟨rfl, hb5⟩; have hS5 := fx_s ((fx_of (by assumption)).below hb5)))
      have HB5 := Lib.hid (fx_of hS5).bel
      clear hS5
      go_wp2
      go_ret
      exact ⟨by simp, HB5.out⟩
    · have hjk' : j < k := by omega
      have hne : x.from_ ≠ a1 := HFS.out.2.2 x (List.mem_of_getElem? (i := j) (by rw [List.getElem?_take_of_lt hjk']; exact hx))
      have hid : (x.from_ == a1) = false := beq_eq_false_iff_ne.2 hne
      clear hc hx hne
      go_wp2
      go_roundw
      case rel => exact ⟨j + 1, by omega, by go_num, trivial⟩
      case measure => simp [intOf]; omega
set_option maxHeartbeats 4000000 in
theorem none_ (a0 : Option Addr) (len0 cap0 : Nat) (L0 : List EX.Ext) (a1 : Int) (w : World) (hl0 : len0 = L0.length) (w0 : EX.Exs w a0 L0) (hs : len0 ≤ 60) (hno : ∀ x ∈ L0, x.from_ ≠ a1) (HF : Hid (Calls Try.prog 21 #[.slice a0 len0 cap0, .int .i64 a1] w fun r w' => r = .returned (.tuple #[.agg #[.int .i64 0, .int .i64 0, .int .i64 0, .int .i64 0], .bool false]) ∧ Below w.heap.size w w')) :
    Calls Try.prog 8 #[.slice a0 len0 cap0, .int .i64 a1] w fun e w' => e = .returned (.bool true) ∧ Below w.heap.size w w' := by
  have h1 : ¬ (60 : Int) < (len0 : Int) := by omega
  have HX := Lib.hid w0
  have HL := Lib.hid hl0
  have HNO := Lib.hid hno
  clear hs hl0 w0 hno
  go_enter Try.func8, Try.ntmps8
  go_wp2_with fail
  refine HF.out.mono ?_
  rintro r w1 ⟨rfl, hb1⟩
  obtain ⟨W, hW⟩ : ∃ W, W = w1.alloc (.cells #[.int .i64 0, .int .i64 0, .int .i64 0, .int .i64 0] 54) := ⟨_, rfl⟩
  have HB1 : Hid (Below w.heap.size w W) := Lib.hid (by rw [hW]; exact bkept hb1 (below_box w1 _))
  have HBK : Hid (Blk W w1.heap.size 54 #[.int .i64 0, .int .i64 0, .int .i64 0, .int .i64 0]) := Lib.hid (by rw [hW]; exact Blk.new w1 _ _)
  have HWE := Lib.hid hW
  clear hW hb1
  go_wp2
  rw [← HWE.out]
  go_loopw [7] (fun i wr => ∃ j : Nat, j ≤ len0 ∧ i = .int .i64 j ∧ W = wr) (fun i _ => len0 - (intOf i).toNat)
  case atStart => exact ⟨0, Nat.zero_le _, rfl, rfl⟩
  case round =>
    obtain ⟨j, hj, rfl, rfl⟩ := hrel
    by_cases hlt : j < len0
    · obtain ⟨x, hx⟩ : ∃ x, L0[j]? = some x := ⟨_, List.getElem?_eq_getElem (by rw [← HL.out]; omega)⟩
      obtain ⟨b, off, rfl, hb, hc⟩ := exs_get HX.out hx
      obtain ⟨q0, q1, q2, q3⟩ := (hc j x hx).kept HB1.out hb
      have t1 : (j : Int) < (len0 : Int) := by omega
      have t2 : (0 : Int) ≤ (j : Int) := by omega
      have hne : x.from_ ≠ a1 := HNO.out x (List.mem_of_getElem? hx)
      have hid : (x.from_ == a1) = false := beq_eq_false_iff_ne.2 hne
      clear hc hx hne
      go_wp2
      go_roundw
      case rel => exact ⟨j + 1, by omega, by go_num, trivial⟩
      case measure => simp [intOf]; omega
    · obtain rfl : j = len0 := by omega
      have t1 : ¬ (j : Int) < (j : Int) := by omega
      go_wp2_with fail
      refine (RT.awake_any _).mono ?_
      rintro r w5 ⟨rfl, hb5⟩
      have K5 := HBK.out.below hb5 HBK.out.lt
      have B5 := Lib.hid (bkept HB1.out hb5)
      obtain ⟨⟨z0, z1, z2, z3⟩, _⟩ := cells4 K5
      clear hb5 K5
      go_wp2
      go_ret
      exact ⟨by simp, B5.out⟩

theorem walk (a0 : Option Addr) (len0 cap0 : Nat) (L0 : List EX.Ext) (a1 : Int) (w : World) (hl0 : len0 = L0.length) (lm0 : len0 ≤ maxLen) (w0 : EX.Exs w a0 L0) (wf0 : ∀ e ∈ L0, OP.WfS e) (w1 : (Lit.int .i64 a1).wf = true) :
    Calls Try.prog 8 #[.slice a0 len0 cap0, .int .i64 a1] w fun e w' => e = .returned (.bool true) ∧ Below w.heap.size w w' := by
  by_cases hbig : len0 ≤ 60
  · by_cases h : ∃ k e, Fst L0 a1 k e
    · obtain ⟨k, e, h⟩ := h
      refine found a0 len0 cap0 L0 a1 w hl0 w0 hbig k e h (Lib.hid ((Find_any L0 len0 cap0 hl0 (by omega) a0 a1 w w0).mono ?_))
      rintro r w' ⟨hb, ⟨k', e', hr, h'⟩ | ⟨_, hno⟩⟩
      · have hk : k' = k := by
          rcases Nat.lt_trichotomy k' k with hlt | hlt | hlt
          · exact absurd h'.2.1 (h.2.2 e' (List.mem_of_getElem? (i := k') (by rw [List.getElem?_take_of_lt hlt]; exact h'.1)))
          · exact hlt
          · exact absurd h.2.1 (h'.2.2 e (List.mem_of_getElem? (i := k) (by rw [List.getElem?_take_of_lt hlt]; exact h.1)))
        subst hk
        obtain rfl : e' = e := by have := h.1; rw [h'.1] at this; exact Option.some.inj this
        exact ⟨hr, hb⟩
      · exact absurd h.2.1 (hno e (List.mem_of_getElem? h.1))
    · have hno : ∀ x ∈ L0, x.from_ ≠ a1 := by
        have key : ∀ k, k ≤ L0.length → ∀ x ∈ L0.take k, x.from_ ≠ a1 := by
          intro k
          induction k with
          | zero => intro _ x hx; simp at hx
          | succ k ih =>
            intro hk x hx hxe
            have hkx : L0[k]? = some L0[k] := List.getElem?_eq_getElem (by omega)
            rw [List.take_add_one, hkx] at hx
            rcases List.mem_append.1 hx with hx | hx
            · exact ih (by omega) x hx hxe
            · simp at hx
              exact h ⟨k, x, by rw [hkx, hx], hxe, ih (by omega)⟩
        intro x hx
        exact key L0.length (Nat.le_refl _) x (by rw [List.take_length]; exact hx)
      refine none_ a0 len0 cap0 L0 a1 w hl0 w0 hbig hno (Lib.hid ((Find_any L0 len0 cap0 hl0 (by omega) a0 a1 w w0).mono ?_))
      rintro r w' ⟨hb, ⟨k', e', hr, h'⟩ | ⟨hr, _⟩⟩
      · exact absurd ⟨k', e', h'⟩ h
      · exact ⟨hr, hb⟩
  · exact big a0 len0 cap0 a1 w hbig

set_option maxRecDepth 100000 in
theorem lifted (os : Os) (started : os.Started) (H : Type) (enc : TypeId × Value → H) :
    ReturnsInHanded {} Try.checked os 8 .any (Rows.rootFindsSpec.pre6 enc Try.prog Try.f8 Rows.rootFindsRow.domain false) (Rows.rootFindsSpec.post enc Try.prog Try.f8 false true false false) := by
  refine returnsInHanded_of_change_sized (C := Try.checked) own started (by kernel_rfl) Try.func8
    (ChangeSpec.witness6 (enc := enc) (C := Try.checked) false ⟨#[], #[.slice none 0 0, .int .i64 0], []⟩ 8 (by kernel_rfl) (by kernel_rfl) (by kernel_rfl) (by kernel_rfl)) ?_
  intro W base args ds gs before hval0 hW hcnd hsz0 _
  have hval : ∀ (j : Nat) t v, Try.f8.params[j]? = some t → args[j]? = some v → Value.okWide Try.prog W .any base t v := hval0
  have hW' := hW
  obtain ⟨p, q, hA0, hV, rfl, hfz, hnd⟩ := hW
  have hA : DataW.TrodAll enc Try.prog W 0 (fun _ => true) true Try.f8.params.toList args.toList ds p := hA0
  have hsz : (DataW.weightsEach Try.prog (Try.f8.params.toList ++ Rows.rootFindsSpec.plain.varTypes Try.prog) (ds ++ gs)).all (· ≤ reachBytes) = true := hsz0
  rw [Try.params8] at hA hval hsz
  obtain ⟨v0, vs0, d0, ds0, p0, q0, hargs, rfl, rfl, h0, r0⟩ := trodAll_cons hA
  obtain ⟨v1, vs1, d1, ds1, p1, q1, rfl, rfl, rfl, h1, r1⟩ := trodAll_cons r0
  obtain ⟨rfl, rfl, rfl⟩ := trodAll_nil r1
  obtain rfl : args = #[v0, v1] := by cases args; simp_all
  obtain ⟨rfl, rfl⟩ := trodVars_none hV
  have k0 := h0
  have lt0 : ∀ x ∈ p0, x.block < W.heap.size := by obtain ⟨m, hm⟩ := k0; exact DataW.trod_lt m _ _ _ hm
  obtain ⟨a0, len0, cap0, L0, rfl, hl0, lm0, w0, wf0⟩ := OP.open_spaces (hval 0 22 v0 rfl rfl) h0
  obtain ⟨a1, rfl, rfl, rfl, w1⟩ := open_int Try.underlying3 (hval 1 3 v1 rfl rfl) h1
  clear hA0 hval0 hsz0
  refine (walk a0 len0 cap0 L0 a1 W hl0 lm0 w0 wf0 w1).mono fun e W' ⟨he, bel⟩ => ?_
  subst he
  exact ⟨_, rfl, _, _, _, [], _, [], hW', trodAll_mk1 (shut_bool Try.underlying4 _), (trodAll_cons_mk (Below.trod laidOut (by kernel_rfl) (of_decide_eq_true (by kernel_rfl)) k0 bel lt0) (trodAll_cons_mk (shut_int Try.underlying3 w1) trodAll_mk0)), rfl, bel.frame _, fun h => by cases h⟩

theorem over : Rows.rootFindsRow.holds Try.pinned (OpenSpec.ofChange Rows.rootFindsSpec) :=
  OpenClaim.holds_of_wide 8 Try.f8 rfl rfl rfl rfl rfl rfl rfl ⟨rfl, rfl, rfl, rfl, rfl⟩ rfl rfl rfl rfl rfl (by kernel_rfl) Try.func8 (by kernel_rfl)
    (of_decide_eq_true (by kernel_rfl)) (by unfold Func.isWrapper; first | (rw [if_pos (by decide +kernel)]; kernel_rfl) | (rw [if_neg (by decide +kernel)]; exact ⟨rfl, rfl⟩))
    (fun os started H enc _ => lifted os started H enc)

theorem proved : Rows.RootFindsSaid := over
#print axioms proved
end Go.Proofs.Ytdjlflinepefbaa.rootFinds
