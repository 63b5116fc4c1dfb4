/- The law WearLess holds: its Go text answers true for every input, and leaves its arguments as they were. No condition beyond the statement's own. -/
import Derived.Test.YtomncnelkkmalacRows
import Derived.Test.YtomncnelkkmalacWrX
import Derived.Test.YtomncnelkkmalacWrY
import Derived.Test.YtomncnelkkmalacWrW
import Derived.Test.YtomncnelkkmalacOpen8
import Derived.Test.YtomncnelkkmalacOpen
import Derived.Lib.MinMax
import Derived.ProofKit
import Derived.OpenShut
import Derived.ShutString
import Derived.ChangeOld
import Derived.Below
import Derived.SizedLaws
namespace Go.Proofs.Ytomncnelkkmalac.wearLess
open Go.ChangeShapes Go.WideShapes Go.ChangeAt Go.RowKit
open Go.ChangeMaps (open_string shut_string)
open Go.Proofs.Ytomncnelkkmalac.FM
set_option linter.unusedVariables false
set_option linter.unusedSimpArgs false

theorem own : ownKnob Try.prog.godebug = none := by kernel_rfl
theorem laidOut : laidOutB Try.prog = true := by kernel_rfl

open MM WR OP

theorem wn_max (b : Bk) : wn b = max b.wo 0 := by unfold wn; rw [Int.max_def]; split <;> split <;> omega

set_option maxRecDepth 100000 in
set_option maxHeartbeats 1000000 in
theorem big (a0 : Option Addr) (len0 cap0 : Nat) (L0 : List WR.Bk) (a1 : Int) (w : World) (lm0 : len0 ≤ maxLen) (hbig : ¬ len0 ≤ 300) :
    Calls Try.prog 5 #[.slice a0 len0 cap0, .int .i64 a1] w fun e w' => e = .returned (.bool true) ∧ Below w.heap.size w w' := by
  have t0 : (300 : Int) < (len0 : Int) := by omega
  unfold maxLen at lm0
  clear hbig
  go_enter Try.func5, Try.ntmps5
  go_wp2_with fail
  refine (awake_any _).mono ?_
  rintro r w2 ⟨rfl, hb2⟩
  have B2 := Lib.hid hb2
  clear hb2
  go_wp2
  go_ret
  exact ⟨rfl, B2.out⟩

set_option maxRecDepth 100000 in
set_option maxHeartbeats 4000000 in
theorem few_ (a0 : Option Addr) (len0 cap0 : Nat) (L0 : List WR.Bk) (a1 : Int) (w : World) (hl0 : len0 = L0.length) (lm0 : len0 ≤ 300) (w0 : Bks w a0 L0) (wf0 : ∀ e ∈ L0, WfB e) :
    Calls Try.prog 5 #[.slice a0 len0 cap0, .int .i64 a1] w fun e w' => e = .returned (.bool true) ∧ Below w.heap.size w w' := by
  have HX := Lib.hid w0
  have HWF := Lib.hid wf0
  clear wf0
  have HL := Lib.hid hl0
  have t0 : ¬ (300 : Int) < (len0 : Int) := by omega
  clear hl0 w0
  go_enter Try.func5, Try.ntmps5
  go_wp2_with fail
  refine (pick_any L0 len0 cap0 HL.out (by omega) a0 _ HX.out).mono ?_
  rintro r w1 ⟨p, rfl, hp, hb1⟩
  have HP := Lib.hid hp
  have B1 := Lib.hid hb1
  clear hp hb1
  go_wp2_with fail
  refine (victim_any L0 len0 cap0 HL.out (by omega) a0 _ (HX.out.below B1.out)).mono ?_
  rintro r w2 ⟨v, rfl, hv, hb2⟩
  have HV := Lib.hid hv
  have B2 := Lib.hid (below_kept B1.out hb2)
  clear hv hb2
  go_wp2_with fail
  refine (cold_any L0 len0 cap0 HL.out (by omega) a0 a1 _ (HX.out.below B2.out) HWF.out).mono ?_
  rintro r w3 ⟨c, rfl, hc, hb3⟩
  have HC := Lib.hid hc
  have B3 := Lib.hid (below_kept B2.out hb3)
  clear hc hb3
  obtain ⟨p1, p2⟩ := least_in HP.out
  obtain ⟨v1, v2⟩ := vic_in HV.out
  obtain ⟨c1, c2⟩ := cd_in HC.out
  have n1p : decide ((len0 : Int) ≤ p) = false := decide_eq_false (by omega)
  have n2p : decide (p < -1) = false := decide_eq_false (by omega)
  have n1v : decide ((len0 : Int) ≤ v) = false := decide_eq_false (by omega)
  have n2v : decide (v < -1) = false := decide_eq_false (by omega)
  have n1c : decide ((len0 : Int) ≤ c) = false := decide_eq_false (by omega)
  have n2c : decide (c < -1) = false := decide_eq_false (by omega)
  go_wp2
  go_loopw [8, 9] (fun x i wr => ∃ (k : Nat) (bd : Bool), k ≤ len0 ∧ i = .int .i64 k ∧ x = .bool bd ∧ Hid (Bad L0 k bd) ∧ Below w.heap.size w wr) (fun _ i _ => len0 - (intOf i).toNat)
  case atStart => exact ⟨0, false, Nat.zero_le _, rfl, rfl, Lib.hid bad_zero, B3.out⟩
  case round =>
    obtain ⟨k, bd, hk, rfl, rfl, hbd, hbel⟩ := hrel
    have HBE := Lib.hid hbel
    by_cases hlt : k < len0
    · obtain ⟨e, he⟩ : ∃ e, L0[k]? = some e := ⟨_, List.getElem?_eq_getElem (by rw [← HL.out]; exact hlt)⟩
      obtain ⟨b, off, rfl, hb, hc⟩ := HX.out.get he
      obtain ⟨q0, q1, q2⟩ := (hc k e he).kept hbel hb
      have HE := Lib.hid he
      have HCN := Lib.hid hc
      have t1 : (k : Int) < (len0 : Int) := by omega
      have t2 : (0 : Int) ≤ (k : Int) := by omega
      have HI : Hid (Wk w wr.heap.size e.st e.va e.wo ((wr.alloc (.cells #[.int .i64 e.st, .int .i64 e.va, .int .i64 e.wo] 33)).drew)) := Lib.hid ⟨Blk.new wr _ _, HBE.out.size, (HBE.out.alloc HBE.out.size _).drew⟩
      have p0' := (Blk.new wr 33 #[.int .i64 e.st, .int .i64 e.va, .int .i64 e.wo]).cell 0
      have p1' := (Blk.new wr 33 #[.int .i64 e.st, .int .i64 e.va, .int .i64 e.wo]).cell 1
      clear hc he hbel
      by_cases h0 : e.st = 0
      · have s0 : (e.st == 0) = true := beq_iff_eq.2 h0
        have s2 : (e.st == 2) = false := beq_eq_false_iff_ne.2 (by omega)
        have s3 : (e.st == 3) = false := beq_eq_false_iff_ne.2 (by omega)
        have HNS : Hid (¬ strands e) := Lib.hid (fun h => by have := h.1; omega)
        rcases least_or HP.out with ⟨_, hno⟩ | ⟨j, y, hpj, hj, hy, _, hmin⟩
        · exact absurd h0 (hno k e hlt HE.out)
        · have HWy : Hid (¬ wn e < wn y) := Lib.hid (hmin k e hlt HE.out h0)
          have PY := Lib.hid (HCN.out j y hy)
          have e1 : decide ((j : Int) < 0) = false := decide_eq_false (by omega)
          have e2 : (0 : Int) ≤ (j : Int) := by omega
          have e3 : (j : Int) < (len0 : Int) := by omega
          clear hmin hy h0
          subst hpj
          rcases bd with _ | _
          · have HN := Lib.hid (bad_skip hbd.out HE.out HNS.out)
            have hd : decide (max e.wo 0 < max y.wo 0) = false := decide_eq_false (by have h1 := HWy.out; rw [wn_max, wn_max] at h1; exact h1)
            go_wp2
            have hNE : Nonempty (Wd (Wk w wr.heap.size e.st e.va e.wo)) := ⟨⟨_, HI.out⟩⟩
            have c0 := fun x : Wd (Wk w wr.heap.size e.st e.va e.wo) => (wcells3 x.ok.blk).1
            have c1 := fun x : Wd (Wk w wr.heap.size e.st e.va e.wo) => (wcells3 x.ok.blk).2.1
            have c2 := fun x : Wd (Wk w wr.heap.size e.st e.va e.wo) => (wcells3 x.ok.blk).2.2
            have d0 := fun x : Wd (Wk w wr.heap.size e.st e.va e.wo) => (x.ok.bel.cell (p := ⟨b, off + j * 3, none⟩) hb).trans PY.out.1
            have d1 := fun x : Wd (Wk w wr.heap.size e.st e.va e.wo) => (x.ok.bel.cell (p := ⟨b, off + j * 3 + 1, none⟩) hb).trans PY.out.2.1
            have d2 := fun x : Wd (Wk w wr.heap.size e.st e.va e.wo) => (x.ok.bel.cell (p := ⟨b, off + j * 3 + 2, none⟩) hb).trans PY.out.2.2
            refine wp_region_inv (Wk w wr.heap.size e.st e.va e.wo) (by kernel_rfl) (by kernel_rfl) (HI.out) ?_
            repeat (go_big_quiet_step (fail))
            refine wpQuiet_nil ?_
            intro _ hw'
            obtain ⟨⟨w6, h6⟩, hw''⟩ := hw'
            subst hw''
            have I6 := Lib.hid h6
            clear h6 c0 c1 c2 d0 d1 d2
            go_wp2
            have hNE : Nonempty (Wd (Wk w wr.heap.size e.st e.va e.wo)) := ⟨⟨_, I6.out.below ((Below.refl _ _).drew)⟩⟩
            have c0 := fun x : Wd (Wk w wr.heap.size e.st e.va e.wo) => (wcells3 x.ok.blk).1
            have c1 := fun x : Wd (Wk w wr.heap.size e.st e.va e.wo) => (wcells3 x.ok.blk).2.1
            have c2 := fun x : Wd (Wk w wr.heap.size e.st e.va e.wo) => (wcells3 x.ok.blk).2.2
            refine wp_region_inv (Wk w wr.heap.size e.st e.va e.wo) (by kernel_rfl) (by kernel_rfl) (I6.out.below ((Below.refl _ _).drew)) ?_
            repeat (go_big_quiet_step (fail))
            refine wpQuiet_nil ?_
            intro _ hw'
            obtain ⟨⟨w7, h7⟩, hw''⟩ := hw'
            subst hw''
            have I7 := Lib.hid h7
            clear h7 c0 c1 c2
            go_wp2
            go_roundw
            case rel => exact ⟨k + 1, false, by omega, by go_num, rfl, HN, I7.out.bel⟩
            case measure => simp [intOf] <;> omega
          · have HN := Lib.hid (bad_skip hbd.out HE.out HNS.out)
            have hd : decide (max e.wo 0 < max y.wo 0) = false := decide_eq_false (by have h1 := HWy.out; rw [wn_max, wn_max] at h1; exact h1)
            go_wp2
            have hNE : Nonempty (Wd (Wk w wr.heap.size e.st e.va e.wo)) := ⟨⟨_, HI.out⟩⟩
            have c0 := fun x : Wd (Wk w wr.heap.size e.st e.va e.wo) => (wcells3 x.ok.blk).1
            have c1 := fun x : Wd (Wk w wr.heap.size e.st e.va e.wo) => (wcells3 x.ok.blk).2.1
            have c2 := fun x : Wd (Wk w wr.heap.size e.st e.va e.wo) => (wcells3 x.ok.blk).2.2
            have d0 := fun x : Wd (Wk w wr.heap.size e.st e.va e.wo) => (x.ok.bel.cell (p := ⟨b, off + j * 3, none⟩) hb).trans PY.out.1
            have d1 := fun x : Wd (Wk w wr.heap.size e.st e.va e.wo) => (x.ok.bel.cell (p := ⟨b, off + j * 3 + 1, none⟩) hb).trans PY.out.2.1
            have d2 := fun x : Wd (Wk w wr.heap.size e.st e.va e.wo) => (x.ok.bel.cell (p := ⟨b, off + j * 3 + 2, none⟩) hb).trans PY.out.2.2
            refine wp_region_inv (Wk w wr.heap.size e.st e.va e.wo) (by kernel_rfl) (by kernel_rfl) (HI.out) ?_
            repeat (go_big_quiet_step (fail))
            refine wpQuiet_nil ?_
            intro _ hw'
            obtain ⟨⟨w6, h6⟩, hw''⟩ := hw'
            subst hw''
            have I6 := Lib.hid h6
            clear h6 c0 c1 c2 d0 d1 d2
            go_wp2
            have hNE : Nonempty (Wd (Wk w wr.heap.size e.st e.va e.wo)) := ⟨⟨_, I6.out.below ((Below.refl _ _).drew)⟩⟩
            have c0 := fun x : Wd (Wk w wr.heap.size e.st e.va e.wo) => (wcells3 x.ok.blk).1
            have c1 := fun x : Wd (Wk w wr.heap.size e.st e.va e.wo) => (wcells3 x.ok.blk).2.1
            have c2 := fun x : Wd (Wk w wr.heap.size e.st e.va e.wo) => (wcells3 x.ok.blk).2.2
            refine wp_region_inv (Wk w wr.heap.size e.st e.va e.wo) (by kernel_rfl) (by kernel_rfl) (I6.out.below ((Below.refl _ _).drew)) ?_
            repeat (go_big_quiet_step (fail))
            refine wpQuiet_nil ?_
            intro _ hw'
            obtain ⟨⟨w7, h7⟩, hw''⟩ := hw'
            subst hw''
            have I7 := Lib.hid h7
            clear h7 c0 c1 c2
            go_wp2
            go_roundw
            case rel => exact ⟨k + 1, true, by omega, by go_num, rfl, HN, I7.out.bel⟩
            case measure => simp [intOf] <;> omega
      · by_cases h2 : e.st = 2
        · have s0 : (e.st == 0) = false := beq_eq_false_iff_ne.2 h0
          have s2 : (e.st == 2) = true := beq_iff_eq.2 h2
          have s3 : (e.st == 3) = false := beq_eq_false_iff_ne.2 (by omega)
          have HNS : Hid (¬ strands e) := Lib.hid (fun h => by have := h.1; omega)
          have HST : Hid (isFull e) := Lib.hid h2
          rcases vic_or HV.out with ⟨_, hno, _⟩ | ⟨jv, z, hvj, hj, hz, hvk⟩
          · exact absurd h2 (hno k e hlt HE.out)
          · have hcc : c = -1 ∨ ∃ (jc : Nat) (y : Bk), c = (jc : Int) ∧ jc < len0 ∧ L0[jc]? = some y ∧ Hid (¬ wn e < wn y) := by
              rcases cd_q HC.out with h | h
              · exact .inl h
              · rcases least_or h with ⟨h, _⟩ | ⟨jc, y, a1', a2', a3', _, a5'⟩
                · exact .inl h
                · exact .inr ⟨jc, y, a1', a2', a3', Lib.hid (a5' k e hlt HE.out h2)⟩
            have PZ := Lib.hid (HCN.out jv z hz)
            have e1 : decide ((jv : Int) < 0) = false := decide_eq_false (by omega)
            have e2 : (0 : Int) ≤ (jv : Int) := by omega
            have e3 : (jv : Int) < (len0 : Int) := by omega
            clear hz h2 h0
            subst hvj
            rcases bd with _ | _
            · have HN := Lib.hid (bad_skip hbd.out HE.out HNS.out)
              rcases hvk with hvk | ⟨hvk, _, hvm⟩
              · have sv : (z.st == 2) = false := beq_eq_false_iff_ne.2 (by have := hvk.1; omega)
                clear hvk
                rcases hcc with hc1 | ⟨jc, y, hc1, hcj, hcy, HWy⟩
                · subst hc1
                  go_wp2
                  have hNE : Nonempty (Wd (Wk w wr.heap.size e.st e.va e.wo)) := ⟨⟨_, HI.out⟩⟩
                  have c0 := fun x : Wd (Wk w wr.heap.size e.st e.va e.wo) => (wcells3 x.ok.blk).1
                  have c1 := fun x : Wd (Wk w wr.heap.size e.st e.va e.wo) => (wcells3 x.ok.blk).2.1
                  have c2 := fun x : Wd (Wk w wr.heap.size e.st e.va e.wo) => (wcells3 x.ok.blk).2.2
                  refine wp_region_inv (Wk w wr.heap.size e.st e.va e.wo) (by kernel_rfl) (by kernel_rfl) (HI.out) ?_
                  repeat (go_big_quiet_step (fail))
                  refine wpQuiet_nil ?_
                  intro _ hw'
                  obtain ⟨⟨w6, h6⟩, hw''⟩ := hw'
                  subst hw''
                  have I6 := Lib.hid h6
                  clear h6 c0 c1 c2
                  go_wp2
                  have hNE : Nonempty (Wd (Wk w wr.heap.size e.st e.va e.wo)) := ⟨⟨_, I6.out.below ((Below.refl _ _).drew)⟩⟩
                  have c0 := fun x : Wd (Wk w wr.heap.size e.st e.va e.wo) => (wcells3 x.ok.blk).1
                  have c1 := fun x : Wd (Wk w wr.heap.size e.st e.va e.wo) => (wcells3 x.ok.blk).2.1
                  have c2 := fun x : Wd (Wk w wr.heap.size e.st e.va e.wo) => (wcells3 x.ok.blk).2.2
                  have f0 := fun x : Wd (Wk w wr.heap.size e.st e.va e.wo) => (x.ok.bel.cell (p := ⟨b, off + jv * 3, none⟩) hb).trans PZ.out.1
                  have f1 := fun x : Wd (Wk w wr.heap.size e.st e.va e.wo) => (x.ok.bel.cell (p := ⟨b, off + jv * 3 + 1, none⟩) hb).trans PZ.out.2.1
                  have f2 := fun x : Wd (Wk w wr.heap.size e.st e.va e.wo) => (x.ok.bel.cell (p := ⟨b, off + jv * 3 + 2, none⟩) hb).trans PZ.out.2.2
                  refine wp_region_inv (Wk w wr.heap.size e.st e.va e.wo) (by kernel_rfl) (by kernel_rfl) (I6.out.below ((Below.refl _ _).drew)) ?_
                  repeat (go_big_quiet_step (fail))
                  refine wpQuiet_nil ?_
                  intro _ hw'
                  obtain ⟨⟨w7, h7⟩, hw''⟩ := hw'
                  subst hw''
                  have I7 := Lib.hid h7
                  clear h7 c0 c1 c2 f0 f1 f2
                  go_wp2
                  go_roundw
                  case rel => exact ⟨k + 1, false, by omega, by go_num, rfl, HN, I7.out.bel⟩
                  case measure => simp [intOf] <;> omega
                · subst hc1
                  have PY := Lib.hid (HCN.out jc y hcy)
                  have cc1 : (0 : Int) ≤ (jc : Int) := by omega
                  have cc2 : (jc : Int) < (len0 : Int) := by omega
                  clear hcy
                  have hd : decide (max e.wo 0 < max y.wo 0) = false := decide_eq_false (by have h1 := HWy.out; rw [wn_max, wn_max] at h1; exact h1)
                  go_wp2
                  have hNE : Nonempty (Wd (Wk w wr.heap.size e.st e.va e.wo)) := ⟨⟨_, HI.out⟩⟩
                  have c0 := fun x : Wd (Wk w wr.heap.size e.st e.va e.wo) => (wcells3 x.ok.blk).1
                  have c1 := fun x : Wd (Wk w wr.heap.size e.st e.va e.wo) => (wcells3 x.ok.blk).2.1
                  have c2 := fun x : Wd (Wk w wr.heap.size e.st e.va e.wo) => (wcells3 x.ok.blk).2.2
                  refine wp_region_inv (Wk w wr.heap.size e.st e.va e.wo) (by kernel_rfl) (by kernel_rfl) (HI.out) ?_
                  repeat (go_big_quiet_step (fail))
                  refine wpQuiet_nil ?_
                  intro _ hw'
                  obtain ⟨⟨w6, h6⟩, hw''⟩ := hw'
                  subst hw''
                  have I6 := Lib.hid h6
                  clear h6 c0 c1 c2
                  go_wp2
                  have hNE : Nonempty (Wd (Wk w wr.heap.size e.st e.va e.wo)) := ⟨⟨_, I6.out.below ((Below.refl _ _).drew)⟩⟩
                  have c0 := fun x : Wd (Wk w wr.heap.size e.st e.va e.wo) => (wcells3 x.ok.blk).1
                  have c1 := fun x : Wd (Wk w wr.heap.size e.st e.va e.wo) => (wcells3 x.ok.blk).2.1
                  have c2 := fun x : Wd (Wk w wr.heap.size e.st e.va e.wo) => (wcells3 x.ok.blk).2.2
                  have f0 := fun x : Wd (Wk w wr.heap.size e.st e.va e.wo) => (x.ok.bel.cell (p := ⟨b, off + jv * 3, none⟩) hb).trans PZ.out.1
                  have f1 := fun x : Wd (Wk w wr.heap.size e.st e.va e.wo) => (x.ok.bel.cell (p := ⟨b, off + jv * 3 + 1, none⟩) hb).trans PZ.out.2.1
                  have f2 := fun x : Wd (Wk w wr.heap.size e.st e.va e.wo) => (x.ok.bel.cell (p := ⟨b, off + jv * 3 + 2, none⟩) hb).trans PZ.out.2.2
                  have d0 := fun x : Wd (Wk w wr.heap.size e.st e.va e.wo) => (x.ok.bel.cell (p := ⟨b, off + jc * 3, none⟩) hb).trans PY.out.1
                  have d1 := fun x : Wd (Wk w wr.heap.size e.st e.va e.wo) => (x.ok.bel.cell (p := ⟨b, off + jc * 3 + 1, none⟩) hb).trans PY.out.2.1
                  have d2 := fun x : Wd (Wk w wr.heap.size e.st e.va e.wo) => (x.ok.bel.cell (p := ⟨b, off + jc * 3 + 2, none⟩) hb).trans PY.out.2.2
                  refine wp_region_inv (Wk w wr.heap.size e.st e.va e.wo) (by kernel_rfl) (by kernel_rfl) (I6.out.below ((Below.refl _ _).drew)) ?_
                  repeat (go_big_quiet_step (fail))
                  refine wpQuiet_nil ?_
                  intro _ hw'
                  obtain ⟨⟨w7, h7⟩, hw''⟩ := hw'
                  subst hw''
                  have I7 := Lib.hid h7
                  clear h7 c0 c1 c2 f0 f1 f2 d0 d1 d2
                  go_wp2
                  go_roundw
                  case rel => exact ⟨k + 1, false, by omega, by go_num, rfl, HN, I7.out.bel⟩
                  case measure => simp [intOf] <;> omega
              · have sv : (z.st == 2) = true := beq_iff_eq.2 hvk
                have sm : decide (e.va < z.va) = false := decide_eq_false (by have := hvm k e hlt HE.out HST.out; omega)
                clear hvk hvm
                rcases hcc with hc1 | ⟨jc, y, hc1, hcj, hcy, HWy⟩
                · subst hc1
                  go_wp2
                  have hNE : Nonempty (Wd (Wk w wr.heap.size e.st e.va e.wo)) := ⟨⟨_, HI.out⟩⟩
                  have c0 := fun x : Wd (Wk w wr.heap.size e.st e.va e.wo) => (wcells3 x.ok.blk).1
                  have c1 := fun x : Wd (Wk w wr.heap.size e.st e.va e.wo) => (wcells3 x.ok.blk).2.1
                  have c2 := fun x : Wd (Wk w wr.heap.size e.st e.va e.wo) => (wcells3 x.ok.blk).2.2
                  refine wp_region_inv (Wk w wr.heap.size e.st e.va e.wo) (by kernel_rfl) (by kernel_rfl) (HI.out) ?_
                  repeat (go_big_quiet_step (fail))
                  refine wpQuiet_nil ?_
                  intro _ hw'
                  obtain ⟨⟨w6, h6⟩, hw''⟩ := hw'
                  subst hw''
                  have I6 := Lib.hid h6
                  clear h6 c0 c1 c2
                  go_wp2
                  have hNE : Nonempty (Wd (Wk w wr.heap.size e.st e.va e.wo)) := ⟨⟨_, I6.out.below ((Below.refl _ _).drew)⟩⟩
                  have c0 := fun x : Wd (Wk w wr.heap.size e.st e.va e.wo) => (wcells3 x.ok.blk).1
                  have c1 := fun x : Wd (Wk w wr.heap.size e.st e.va e.wo) => (wcells3 x.ok.blk).2.1
                  have c2 := fun x : Wd (Wk w wr.heap.size e.st e.va e.wo) => (wcells3 x.ok.blk).2.2
                  have f0 := fun x : Wd (Wk w wr.heap.size e.st e.va e.wo) => (x.ok.bel.cell (p := ⟨b, off + jv * 3, none⟩) hb).trans PZ.out.1
                  have f1 := fun x : Wd (Wk w wr.heap.size e.st e.va e.wo) => (x.ok.bel.cell (p := ⟨b, off + jv * 3 + 1, none⟩) hb).trans PZ.out.2.1
                  have f2 := fun x : Wd (Wk w wr.heap.size e.st e.va e.wo) => (x.ok.bel.cell (p := ⟨b, off + jv * 3 + 2, none⟩) hb).trans PZ.out.2.2
                  refine wp_region_inv (Wk w wr.heap.size e.st e.va e.wo) (by kernel_rfl) (by kernel_rfl) (I6.out.below ((Below.refl _ _).drew)) ?_
                  repeat (go_big_quiet_step (fail))
                  refine wpQuiet_nil ?_
                  intro _ hw'
                  obtain ⟨⟨w7, h7⟩, hw''⟩ := hw'
                  subst hw''
                  have I7 := Lib.hid h7
                  clear h7 c0 c1 c2 f0 f1 f2
                  go_wp2
                  go_roundw
                  case rel => exact ⟨k + 1, false, by omega, by go_num, rfl, HN, I7.out.bel⟩
                  case measure => simp [intOf] <;> omega
                · subst hc1
                  have PY := Lib.hid (HCN.out jc y hcy)
                  have cc1 : (0 : Int) ≤ (jc : Int) := by omega
                  have cc2 : (jc : Int) < (len0 : Int) := by omega
                  clear hcy
                  have hd : decide (max e.wo 0 < max y.wo 0) = false := decide_eq_false (by have h1 := HWy.out; rw [wn_max, wn_max] at h1; exact h1)
                  go_wp2
                  have hNE : Nonempty (Wd (Wk w wr.heap.size e.st e.va e.wo)) := ⟨⟨_, HI.out⟩⟩
                  have c0 := fun x : Wd (Wk w wr.heap.size e.st e.va e.wo) => (wcells3 x.ok.blk).1
                  have c1 := fun x : Wd (Wk w wr.heap.size e.st e.va e.wo) => (wcells3 x.ok.blk).2.1
                  have c2 := fun x : Wd (Wk w wr.heap.size e.st e.va e.wo) => (wcells3 x.ok.blk).2.2
                  refine wp_region_inv (Wk w wr.heap.size e.st e.va e.wo) (by kernel_rfl) (by kernel_rfl) (HI.out) ?_
                  repeat (go_big_quiet_step (fail))
                  refine wpQuiet_nil ?_
                  intro _ hw'
                  obtain ⟨⟨w6, h6⟩, hw''⟩ := hw'
                  subst hw''
                  have I6 := Lib.hid h6
                  clear h6 c0 c1 c2
                  go_wp2
                  have hNE : Nonempty (Wd (Wk w wr.heap.size e.st e.va e.wo)) := ⟨⟨_, I6.out.below ((Below.refl _ _).drew)⟩⟩
                  have c0 := fun x : Wd (Wk w wr.heap.size e.st e.va e.wo) => (wcells3 x.ok.blk).1
                  have c1 := fun x : Wd (Wk w wr.heap.size e.st e.va e.wo) => (wcells3 x.ok.blk).2.1
                  have c2 := fun x : Wd (Wk w wr.heap.size e.st e.va e.wo) => (wcells3 x.ok.blk).2.2
                  have f0 := fun x : Wd (Wk w wr.heap.size e.st e.va e.wo) => (x.ok.bel.cell (p := ⟨b, off + jv * 3, none⟩) hb).trans PZ.out.1
                  have f1 := fun x : Wd (Wk w wr.heap.size e.st e.va e.wo) => (x.ok.bel.cell (p := ⟨b, off + jv * 3 + 1, none⟩) hb).trans PZ.out.2.1
                  have f2 := fun x : Wd (Wk w wr.heap.size e.st e.va e.wo) => (x.ok.bel.cell (p := ⟨b, off + jv * 3 + 2, none⟩) hb).trans PZ.out.2.2
                  have d0 := fun x : Wd (Wk w wr.heap.size e.st e.va e.wo) => (x.ok.bel.cell (p := ⟨b, off + jc * 3, none⟩) hb).trans PY.out.1
                  have d1 := fun x : Wd (Wk w wr.heap.size e.st e.va e.wo) => (x.ok.bel.cell (p := ⟨b, off + jc * 3 + 1, none⟩) hb).trans PY.out.2.1
                  have d2 := fun x : Wd (Wk w wr.heap.size e.st e.va e.wo) => (x.ok.bel.cell (p := ⟨b, off + jc * 3 + 2, none⟩) hb).trans PY.out.2.2
                  refine wp_region_inv (Wk w wr.heap.size e.st e.va e.wo) (by kernel_rfl) (by kernel_rfl) (I6.out.below ((Below.refl _ _).drew)) ?_
                  repeat (go_big_quiet_step (fail))
                  refine wpQuiet_nil ?_
                  intro _ hw'
                  obtain ⟨⟨w7, h7⟩, hw''⟩ := hw'
                  subst hw''
                  have I7 := Lib.hid h7
                  clear h7 c0 c1 c2 f0 f1 f2 d0 d1 d2
                  go_wp2
                  go_roundw
                  case rel => exact ⟨k + 1, false, by omega, by go_num, rfl, HN, I7.out.bel⟩
                  case measure => simp [intOf] <;> omega
            · have HN := Lib.hid (bad_skip hbd.out HE.out HNS.out)
              rcases hvk with hvk | ⟨hvk, _, hvm⟩
              · have sv : (z.st == 2) = false := beq_eq_false_iff_ne.2 (by have := hvk.1; omega)
                clear hvk
                rcases hcc with hc1 | ⟨jc, y, hc1, hcj, hcy, HWy⟩
                · subst hc1
                  go_wp2
                  have hNE : Nonempty (Wd (Wk w wr.heap.size e.st e.va e.wo)) := ⟨⟨_, HI.out⟩⟩
                  have c0 := fun x : Wd (Wk w wr.heap.size e.st e.va e.wo) => (wcells3 x.ok.blk).1
                  have c1 := fun x : Wd (Wk w wr.heap.size e.st e.va e.wo) => (wcells3 x.ok.blk).2.1
                  have c2 := fun x : Wd (Wk w wr.heap.size e.st e.va e.wo) => (wcells3 x.ok.blk).2.2
                  refine wp_region_inv (Wk w wr.heap.size e.st e.va e.wo) (by kernel_rfl) (by kernel_rfl) (HI.out) ?_
                  repeat (go_big_quiet_step (fail))
                  refine wpQuiet_nil ?_
                  intro _ hw'
                  obtain ⟨⟨w6, h6⟩, hw''⟩ := hw'
                  subst hw''
                  have I6 := Lib.hid h6
                  clear h6 c0 c1 c2
                  go_wp2
                  have hNE : Nonempty (Wd (Wk w wr.heap.size e.st e.va e.wo)) := ⟨⟨_, I6.out.below ((Below.refl _ _).drew)⟩⟩
                  have c0 := fun x : Wd (Wk w wr.heap.size e.st e.va e.wo) => (wcells3 x.ok.blk).1
                  have c1 := fun x : Wd (Wk w wr.heap.size e.st e.va e.wo) => (wcells3 x.ok.blk).2.1
                  have c2 := fun x : Wd (Wk w wr.heap.size e.st e.va e.wo) => (wcells3 x.ok.blk).2.2
                  have f0 := fun x : Wd (Wk w wr.heap.size e.st e.va e.wo) => (x.ok.bel.cell (p := ⟨b, off + jv * 3, none⟩) hb).trans PZ.out.1
                  have f1 := fun x : Wd (Wk w wr.heap.size e.st e.va e.wo) => (x.ok.bel.cell (p := ⟨b, off + jv * 3 + 1, none⟩) hb).trans PZ.out.2.1
                  have f2 := fun x : Wd (Wk w wr.heap.size e.st e.va e.wo) => (x.ok.bel.cell (p := ⟨b, off + jv * 3 + 2, none⟩) hb).trans PZ.out.2.2
                  refine wp_region_inv (Wk w wr.heap.size e.st e.va e.wo) (by kernel_rfl) (by kernel_rfl) (I6.out.below ((Below.refl _ _).drew)) ?_
                  repeat (go_big_quiet_step (fail))
                  refine wpQuiet_nil ?_
                  intro _ hw'
                  obtain ⟨⟨w7, h7⟩, hw''⟩ := hw'
                  subst hw''
                  have I7 := Lib.hid h7
                  clear h7 c0 c1 c2 f0 f1 f2
                  go_wp2
                  go_roundw
                  case rel => exact ⟨k + 1, true, by omega, by go_num, rfl, HN, I7.out.bel⟩
                  case measure => simp [intOf] <;> omega
                · subst hc1
                  have PY := Lib.hid (HCN.out jc y hcy)
                  have cc1 : (0 : Int) ≤ (jc : Int) := by omega
                  have cc2 : (jc : Int) < (len0 : Int) := by omega
                  clear hcy
                  have hd : decide (max e.wo 0 < max y.wo 0) = false := decide_eq_false (by have h1 := HWy.out; rw [wn_max, wn_max] at h1; exact h1)
                  go_wp2
                  have hNE : Nonempty (Wd (Wk w wr.heap.size e.st e.va e.wo)) := ⟨⟨_, HI.out⟩⟩
                  have c0 := fun x : Wd (Wk w wr.heap.size e.st e.va e.wo) => (wcells3 x.ok.blk).1
                  have c1 := fun x : Wd (Wk w wr.heap.size e.st e.va e.wo) => (wcells3 x.ok.blk).2.1
                  have c2 := fun x : Wd (Wk w wr.heap.size e.st e.va e.wo) => (wcells3 x.ok.blk).2.2
                  refine wp_region_inv (Wk w wr.heap.size e.st e.va e.wo) (by kernel_rfl) (by kernel_rfl) (HI.out) ?_
                  repeat (go_big_quiet_step (fail))
                  refine wpQuiet_nil ?_
                  intro _ hw'
                  obtain ⟨⟨w6, h6⟩, hw''⟩ := hw'
                  subst hw''
                  have I6 := Lib.hid h6
                  clear h6 c0 c1 c2
                  go_wp2
                  have hNE : Nonempty (Wd (Wk w wr.heap.size e.st e.va e.wo)) := ⟨⟨_, I6.out.below ((Below.refl _ _).drew)⟩⟩
                  have c0 := fun x : Wd (Wk w wr.heap.size e.st e.va e.wo) => (wcells3 x.ok.blk).1
                  have c1 := fun x : Wd (Wk w wr.heap.size e.st e.va e.wo) => (wcells3 x.ok.blk).2.1
                  have c2 := fun x : Wd (Wk w wr.heap.size e.st e.va e.wo) => (wcells3 x.ok.blk).2.2
                  have f0 := fun x : Wd (Wk w wr.heap.size e.st e.va e.wo) => (x.ok.bel.cell (p := ⟨b, off + jv * 3, none⟩) hb).trans PZ.out.1
                  have f1 := fun x : Wd (Wk w wr.heap.size e.st e.va e.wo) => (x.ok.bel.cell (p := ⟨b, off + jv * 3 + 1, none⟩) hb).trans PZ.out.2.1
                  have f2 := fun x : Wd (Wk w wr.heap.size e.st e.va e.wo) => (x.ok.bel.cell (p := ⟨b, off + jv * 3 + 2, none⟩) hb).trans PZ.out.2.2
                  have d0 := fun x : Wd (Wk w wr.heap.size e.st e.va e.wo) => (x.ok.bel.cell (p := ⟨b, off + jc * 3, none⟩) hb).trans PY.out.1
                  have d1 := fun x : Wd (Wk w wr.heap.size e.st e.va e.wo) => (x.ok.bel.cell (p := ⟨b, off + jc * 3 + 1, none⟩) hb).trans PY.out.2.1
                  have d2 := fun x : Wd (Wk w wr.heap.size e.st e.va e.wo) => (x.ok.bel.cell (p := ⟨b, off + jc * 3 + 2, none⟩) hb).trans PY.out.2.2
                  refine wp_region_inv (Wk w wr.heap.size e.st e.va e.wo) (by kernel_rfl) (by kernel_rfl) (I6.out.below ((Below.refl _ _).drew)) ?_
                  repeat (go_big_quiet_step (fail))
                  refine wpQuiet_nil ?_
                  intro _ hw'
                  obtain ⟨⟨w7, h7⟩, hw''⟩ := hw'
                  subst hw''
                  have I7 := Lib.hid h7
                  clear h7 c0 c1 c2 f0 f1 f2 d0 d1 d2
                  go_wp2
                  go_roundw
                  case rel => exact ⟨k + 1, true, by omega, by go_num, rfl, HN, I7.out.bel⟩
                  case measure => simp [intOf] <;> omega
              · have sv : (z.st == 2) = true := beq_iff_eq.2 hvk
                have sm : decide (e.va < z.va) = false := decide_eq_false (by have := hvm k e hlt HE.out HST.out; omega)
                clear hvk hvm
                rcases hcc with hc1 | ⟨jc, y, hc1, hcj, hcy, HWy⟩
                · subst hc1
                  go_wp2
                  have hNE : Nonempty (Wd (Wk w wr.heap.size e.st e.va e.wo)) := ⟨⟨_, HI.out⟩⟩
                  have c0 := fun x : Wd (Wk w wr.heap.size e.st e.va e.wo) => (wcells3 x.ok.blk).1
                  have c1 := fun x : Wd (Wk w wr.heap.size e.st e.va e.wo) => (wcells3 x.ok.blk).2.1
                  have c2 := fun x : Wd (Wk w wr.heap.size e.st e.va e.wo) => (wcells3 x.ok.blk).2.2
                  refine wp_region_inv (Wk w wr.heap.size e.st e.va e.wo) (by kernel_rfl) (by kernel_rfl) (HI.out) ?_
                  repeat (go_big_quiet_step (fail))
                  refine wpQuiet_nil ?_
                  intro _ hw'
                  obtain ⟨⟨w6, h6⟩, hw''⟩ := hw'
                  subst hw''
                  have I6 := Lib.hid h6
                  clear h6 c0 c1 c2
                  go_wp2
                  have hNE : Nonempty (Wd (Wk w wr.heap.size e.st e.va e.wo)) := ⟨⟨_, I6.out.below ((Below.refl _ _).drew)⟩⟩
                  have c0 := fun x : Wd (Wk w wr.heap.size e.st e.va e.wo) => (wcells3 x.ok.blk).1
                  have c1 := fun x : Wd (Wk w wr.heap.size e.st e.va e.wo) => (wcells3 x.ok.blk).2.1
                  have c2 := fun x : Wd (Wk w wr.heap.size e.st e.va e.wo) => (wcells3 x.ok.blk).2.2
                  have f0 := fun x : Wd (Wk w wr.heap.size e.st e.va e.wo) => (x.ok.bel.cell (p := ⟨b, off + jv * 3, none⟩) hb).trans PZ.out.1
                  have f1 := fun x : Wd (Wk w wr.heap.size e.st e.va e.wo) => (x.ok.bel.cell (p := ⟨b, off + jv * 3 + 1, none⟩) hb).trans PZ.out.2.1
                  have f2 := fun x : Wd (Wk w wr.heap.size e.st e.va e.wo) => (x.ok.bel.cell (p := ⟨b, off + jv * 3 + 2, none⟩) hb).trans PZ.out.2.2
                  refine wp_region_inv (Wk w wr.heap.size e.st e.va e.wo) (by kernel_rfl) (by kernel_rfl) (I6.out.below ((Below.refl _ _).drew)) ?_
                  repeat (go_big_quiet_step (fail))
                  refine wpQuiet_nil ?_
                  intro _ hw'
                  obtain ⟨⟨w7, h7⟩, hw''⟩ := hw'
                  subst hw''
                  have I7 := Lib.hid h7
                  clear h7 c0 c1 c2 f0 f1 f2
                  go_wp2
                  go_roundw
                  case rel => exact ⟨k + 1, true, by omega, by go_num, rfl, HN, I7.out.bel⟩
                  case measure => simp [intOf] <;> omega
                · subst hc1
                  have PY := Lib.hid (HCN.out jc y hcy)
                  have cc1 : (0 : Int) ≤ (jc : Int) := by omega
                  have cc2 : (jc : Int) < (len0 : Int) := by omega
                  clear hcy
                  have hd : decide (max e.wo 0 < max y.wo 0) = false := decide_eq_false (by have h1 := HWy.out; rw [wn_max, wn_max] at h1; exact h1)
                  go_wp2
                  have hNE : Nonempty (Wd (Wk w wr.heap.size e.st e.va e.wo)) := ⟨⟨_, HI.out⟩⟩
                  have c0 := fun x : Wd (Wk w wr.heap.size e.st e.va e.wo) => (wcells3 x.ok.blk).1
                  have c1 := fun x : Wd (Wk w wr.heap.size e.st e.va e.wo) => (wcells3 x.ok.blk).2.1
                  have c2 := fun x : Wd (Wk w wr.heap.size e.st e.va e.wo) => (wcells3 x.ok.blk).2.2
                  refine wp_region_inv (Wk w wr.heap.size e.st e.va e.wo) (by kernel_rfl) (by kernel_rfl) (HI.out) ?_
                  repeat (go_big_quiet_step (fail))
                  refine wpQuiet_nil ?_
                  intro _ hw'
                  obtain ⟨⟨w6, h6⟩, hw''⟩ := hw'
                  subst hw''
                  have I6 := Lib.hid h6
                  clear h6 c0 c1 c2
                  go_wp2
                  have hNE : Nonempty (Wd (Wk w wr.heap.size e.st e.va e.wo)) := ⟨⟨_, I6.out.below ((Below.refl _ _).drew)⟩⟩
                  have c0 := fun x : Wd (Wk w wr.heap.size e.st e.va e.wo) => (wcells3 x.ok.blk).1
                  have c1 := fun x : Wd (Wk w wr.heap.size e.st e.va e.wo) => (wcells3 x.ok.blk).2.1
                  have c2 := fun x : Wd (Wk w wr.heap.size e.st e.va e.wo) => (wcells3 x.ok.blk).2.2
                  have f0 := fun x : Wd (Wk w wr.heap.size e.st e.va e.wo) => (x.ok.bel.cell (p := ⟨b, off + jv * 3, none⟩) hb).trans PZ.out.1
                  have f1 := fun x : Wd (Wk w wr.heap.size e.st e.va e.wo) => (x.ok.bel.cell (p := ⟨b, off + jv * 3 + 1, none⟩) hb).trans PZ.out.2.1
                  have f2 := fun x : Wd (Wk w wr.heap.size e.st e.va e.wo) => (x.ok.bel.cell (p := ⟨b, off + jv * 3 + 2, none⟩) hb).trans PZ.out.2.2
                  have d0 := fun x : Wd (Wk w wr.heap.size e.st e.va e.wo) => (x.ok.bel.cell (p := ⟨b, off + jc * 3, none⟩) hb).trans PY.out.1
                  have d1 := fun x : Wd (Wk w wr.heap.size e.st e.va e.wo) => (x.ok.bel.cell (p := ⟨b, off + jc * 3 + 1, none⟩) hb).trans PY.out.2.1
                  have d2 := fun x : Wd (Wk w wr.heap.size e.st e.va e.wo) => (x.ok.bel.cell (p := ⟨b, off + jc * 3 + 2, none⟩) hb).trans PY.out.2.2
                  refine wp_region_inv (Wk w wr.heap.size e.st e.va e.wo) (by kernel_rfl) (by kernel_rfl) (I6.out.below ((Below.refl _ _).drew)) ?_
                  repeat (go_big_quiet_step (fail))
                  refine wpQuiet_nil ?_
                  intro _ hw'
                  obtain ⟨⟨w7, h7⟩, hw''⟩ := hw'
                  subst hw''
                  have I7 := Lib.hid h7
                  clear h7 c0 c1 c2 f0 f1 f2 d0 d1 d2
                  go_wp2
                  go_roundw
                  case rel => exact ⟨k + 1, true, by omega, by go_num, rfl, HN, I7.out.bel⟩
                  case measure => simp [intOf] <;> omega
        · have s0 : (e.st == 0) = false := beq_eq_false_iff_ne.2 h0
          have s2 : (e.st == 2) = false := beq_eq_false_iff_ne.2 h2
          clear h0 h2
          by_cases h3 : e.st = 3
          · have s3 : (e.st == 3) = true := beq_iff_eq.2 h3
            by_cases hv : 0 < e.va
            · have s4 : decide (0 < e.va) = true := decide_eq_true hv
              have HN := Lib.hid (bad_up hbd.out HE.out (show strands e from ⟨h3, hv⟩))
              clear h3
              rcases bd with _ | _
              · go_wp2
                have hNE : Nonempty (Wd (Wk w wr.heap.size e.st e.va e.wo)) := ⟨⟨_, HI.out⟩⟩
                have c0 := fun x : Wd (Wk w wr.heap.size e.st e.va e.wo) => (wcells3 x.ok.blk).1
                have c1 := fun x : Wd (Wk w wr.heap.size e.st e.va e.wo) => (wcells3 x.ok.blk).2.1
                have c2 := fun x : Wd (Wk w wr.heap.size e.st e.va e.wo) => (wcells3 x.ok.blk).2.2
                refine wp_region_inv (Wk w wr.heap.size e.st e.va e.wo) (by kernel_rfl) (by kernel_rfl) (HI.out) ?_
                repeat (go_big_quiet_step (fail))
                refine wpQuiet_nil ?_
                intro _ hw'
                obtain ⟨⟨w6, h6⟩, hw''⟩ := hw'
                subst hw''
                have I6 := Lib.hid h6
                clear h6 c0 c1 c2
                go_wp2
                have hNE : Nonempty (Wd (Wk w wr.heap.size e.st e.va e.wo)) := ⟨⟨_, I6.out.below ((Below.refl _ _).drew)⟩⟩
                have c0 := fun x : Wd (Wk w wr.heap.size e.st e.va e.wo) => (wcells3 x.ok.blk).1
                have c1 := fun x : Wd (Wk w wr.heap.size e.st e.va e.wo) => (wcells3 x.ok.blk).2.1
                have c2 := fun x : Wd (Wk w wr.heap.size e.st e.va e.wo) => (wcells3 x.ok.blk).2.2
                refine wp_region_inv (Wk w wr.heap.size e.st e.va e.wo) (by kernel_rfl) (by kernel_rfl) (I6.out.below ((Below.refl _ _).drew)) ?_
                repeat (go_big_quiet_step (fail))
                refine wpQuiet_nil ?_
                intro _ hw'
                obtain ⟨⟨w7, h7⟩, hw''⟩ := hw'
                subst hw''
                have I7 := Lib.hid h7
                clear h7 c0 c1 c2
                go_wp2
                go_roundw
                case rel => exact ⟨k + 1, true, by omega, by go_num, rfl, HN, I7.out.bel⟩
                case measure => simp [intOf] <;> omega
              · go_wp2
                have hNE : Nonempty (Wd (Wk w wr.heap.size e.st e.va e.wo)) := ⟨⟨_, HI.out⟩⟩
                have c0 := fun x : Wd (Wk w wr.heap.size e.st e.va e.wo) => (wcells3 x.ok.blk).1
                have c1 := fun x : Wd (Wk w wr.heap.size e.st e.va e.wo) => (wcells3 x.ok.blk).2.1
                have c2 := fun x : Wd (Wk w wr.heap.size e.st e.va e.wo) => (wcells3 x.ok.blk).2.2
                refine wp_region_inv (Wk w wr.heap.size e.st e.va e.wo) (by kernel_rfl) (by kernel_rfl) (HI.out) ?_
                repeat (go_big_quiet_step (fail))
                refine wpQuiet_nil ?_
                intro _ hw'
                obtain ⟨⟨w6, h6⟩, hw''⟩ := hw'
                subst hw''
                have I6 := Lib.hid h6
                clear h6 c0 c1 c2
                go_wp2
                have hNE : Nonempty (Wd (Wk w wr.heap.size e.st e.va e.wo)) := ⟨⟨_, I6.out.below ((Below.refl _ _).drew)⟩⟩
                have c0 := fun x : Wd (Wk w wr.heap.size e.st e.va e.wo) => (wcells3 x.ok.blk).1
                have c1 := fun x : Wd (Wk w wr.heap.size e.st e.va e.wo) => (wcells3 x.ok.blk).2.1
                have c2 := fun x : Wd (Wk w wr.heap.size e.st e.va e.wo) => (wcells3 x.ok.blk).2.2
                refine wp_region_inv (Wk w wr.heap.size e.st e.va e.wo) (by kernel_rfl) (by kernel_rfl) (I6.out.below ((Below.refl _ _).drew)) ?_
                repeat (go_big_quiet_step (fail))
                refine wpQuiet_nil ?_
                intro _ hw'
                obtain ⟨⟨w7, h7⟩, hw''⟩ := hw'
                subst hw''
                have I7 := Lib.hid h7
                clear h7 c0 c1 c2
                go_wp2
                go_roundw
                case rel => exact ⟨k + 1, true, by omega, by go_num, rfl, HN, I7.out.bel⟩
                case measure => simp [intOf] <;> omega
            · have s4 : decide (0 < e.va) = false := decide_eq_false hv
              have HNS : Hid (¬ strands e) := Lib.hid (fun h => hv h.2)
              clear h3
              rcases bd with _ | _
              · have HN := Lib.hid (bad_skip hbd.out HE.out HNS.out)
                go_wp2
                have hNE : Nonempty (Wd (Wk w wr.heap.size e.st e.va e.wo)) := ⟨⟨_, HI.out⟩⟩
                have c0 := fun x : Wd (Wk w wr.heap.size e.st e.va e.wo) => (wcells3 x.ok.blk).1
                have c1 := fun x : Wd (Wk w wr.heap.size e.st e.va e.wo) => (wcells3 x.ok.blk).2.1
                have c2 := fun x : Wd (Wk w wr.heap.size e.st e.va e.wo) => (wcells3 x.ok.blk).2.2
                refine wp_region_inv (Wk w wr.heap.size e.st e.va e.wo) (by kernel_rfl) (by kernel_rfl) (HI.out) ?_
                repeat (go_big_quiet_step (fail))
                refine wpQuiet_nil ?_
                intro _ hw'
                obtain ⟨⟨w6, h6⟩, hw''⟩ := hw'
                subst hw''
                have I6 := Lib.hid h6
                clear h6 c0 c1 c2
                go_wp2
                have hNE : Nonempty (Wd (Wk w wr.heap.size e.st e.va e.wo)) := ⟨⟨_, I6.out.below ((Below.refl _ _).drew)⟩⟩
                have c0 := fun x : Wd (Wk w wr.heap.size e.st e.va e.wo) => (wcells3 x.ok.blk).1
                have c1 := fun x : Wd (Wk w wr.heap.size e.st e.va e.wo) => (wcells3 x.ok.blk).2.1
                have c2 := fun x : Wd (Wk w wr.heap.size e.st e.va e.wo) => (wcells3 x.ok.blk).2.2
                refine wp_region_inv (Wk w wr.heap.size e.st e.va e.wo) (by kernel_rfl) (by kernel_rfl) (I6.out.below ((Below.refl _ _).drew)) ?_
                repeat (go_big_quiet_step (fail))
                refine wpQuiet_nil ?_
                intro _ hw'
                obtain ⟨⟨w7, h7⟩, hw''⟩ := hw'
                subst hw''
                have I7 := Lib.hid h7
                clear h7 c0 c1 c2
                go_wp2
                go_roundw
                case rel => exact ⟨k + 1, false, by omega, by go_num, rfl, HN, I7.out.bel⟩
                case measure => simp [intOf] <;> omega
              · have HN := Lib.hid (bad_skip hbd.out HE.out HNS.out)
                go_wp2
                have hNE : Nonempty (Wd (Wk w wr.heap.size e.st e.va e.wo)) := ⟨⟨_, HI.out⟩⟩
                have c0 := fun x : Wd (Wk w wr.heap.size e.st e.va e.wo) => (wcells3 x.ok.blk).1
                have c1 := fun x : Wd (Wk w wr.heap.size e.st e.va e.wo) => (wcells3 x.ok.blk).2.1
                have c2 := fun x : Wd (Wk w wr.heap.size e.st e.va e.wo) => (wcells3 x.ok.blk).2.2
                refine wp_region_inv (Wk w wr.heap.size e.st e.va e.wo) (by kernel_rfl) (by kernel_rfl) (HI.out) ?_
                repeat (go_big_quiet_step (fail))
                refine wpQuiet_nil ?_
                intro _ hw'
                obtain ⟨⟨w6, h6⟩, hw''⟩ := hw'
                subst hw''
                have I6 := Lib.hid h6
                clear h6 c0 c1 c2
                go_wp2
                have hNE : Nonempty (Wd (Wk w wr.heap.size e.st e.va e.wo)) := ⟨⟨_, I6.out.below ((Below.refl _ _).drew)⟩⟩
                have c0 := fun x : Wd (Wk w wr.heap.size e.st e.va e.wo) => (wcells3 x.ok.blk).1
                have c1 := fun x : Wd (Wk w wr.heap.size e.st e.va e.wo) => (wcells3 x.ok.blk).2.1
                have c2 := fun x : Wd (Wk w wr.heap.size e.st e.va e.wo) => (wcells3 x.ok.blk).2.2
                refine wp_region_inv (Wk w wr.heap.size e.st e.va e.wo) (by kernel_rfl) (by kernel_rfl) (I6.out.below ((Below.refl _ _).drew)) ?_
                repeat (go_big_quiet_step (fail))
                refine wpQuiet_nil ?_
                intro _ hw'
                obtain ⟨⟨w7, h7⟩, hw''⟩ := hw'
                subst hw''
                have I7 := Lib.hid h7
                clear h7 c0 c1 c2
                go_wp2
                go_roundw
                case rel => exact ⟨k + 1, true, by omega, by go_num, rfl, HN, I7.out.bel⟩
                case measure => simp [intOf] <;> omega
          · have s3 : (e.st == 3) = false := beq_eq_false_iff_ne.2 h3
            have HNS : Hid (¬ strands e) := Lib.hid (fun h => h3 h.1)
            clear h3
            rcases bd with _ | _
            · have HN := Lib.hid (bad_skip hbd.out HE.out HNS.out)
              go_wp2
              have hNE : Nonempty (Wd (Wk w wr.heap.size e.st e.va e.wo)) := ⟨⟨_, HI.out⟩⟩
              have c0 := fun x : Wd (Wk w wr.heap.size e.st e.va e.wo) => (wcells3 x.ok.blk).1
              have c1 := fun x : Wd (Wk w wr.heap.size e.st e.va e.wo) => (wcells3 x.ok.blk).2.1
              have c2 := fun x : Wd (Wk w wr.heap.size e.st e.va e.wo) => (wcells3 x.ok.blk).2.2
              refine wp_region_inv (Wk w wr.heap.size e.st e.va e.wo) (by kernel_rfl) (by kernel_rfl) (HI.out) ?_
              repeat (go_big_quiet_step (fail))
              refine wpQuiet_nil ?_
              intro _ hw'
              obtain ⟨⟨w6, h6⟩, hw''⟩ := hw'
              subst hw''
              have I6 := Lib.hid h6
              clear h6 c0 c1 c2
              go_wp2
              have hNE : Nonempty (Wd (Wk w wr.heap.size e.st e.va e.wo)) := ⟨⟨_, I6.out.below ((Below.refl _ _).drew)⟩⟩
              have c0 := fun x : Wd (Wk w wr.heap.size e.st e.va e.wo) => (wcells3 x.ok.blk).1
              have c1 := fun x : Wd (Wk w wr.heap.size e.st e.va e.wo) => (wcells3 x.ok.blk).2.1
              have c2 := fun x : Wd (Wk w wr.heap.size e.st e.va e.wo) => (wcells3 x.ok.blk).2.2
              refine wp_region_inv (Wk w wr.heap.size e.st e.va e.wo) (by kernel_rfl) (by kernel_rfl) (I6.out.below ((Below.refl _ _).drew)) ?_
              repeat (go_big_quiet_step (fail))
              refine wpQuiet_nil ?_
              intro _ hw'
              obtain ⟨⟨w7, h7⟩, hw''⟩ := hw'
              subst hw''
              have I7 := Lib.hid h7
              clear h7 c0 c1 c2
              go_wp2
              go_roundw
              case rel => exact ⟨k + 1, false, by omega, by go_num, rfl, HN, I7.out.bel⟩
              case measure => simp [intOf] <;> omega
            · have HN := Lib.hid (bad_skip hbd.out HE.out HNS.out)
              go_wp2
              have hNE : Nonempty (Wd (Wk w wr.heap.size e.st e.va e.wo)) := ⟨⟨_, HI.out⟩⟩
              have c0 := fun x : Wd (Wk w wr.heap.size e.st e.va e.wo) => (wcells3 x.ok.blk).1
              have c1 := fun x : Wd (Wk w wr.heap.size e.st e.va e.wo) => (wcells3 x.ok.blk).2.1
              have c2 := fun x : Wd (Wk w wr.heap.size e.st e.va e.wo) => (wcells3 x.ok.blk).2.2
              refine wp_region_inv (Wk w wr.heap.size e.st e.va e.wo) (by kernel_rfl) (by kernel_rfl) (HI.out) ?_
              repeat (go_big_quiet_step (fail))
              refine wpQuiet_nil ?_
              intro _ hw'
              obtain ⟨⟨w6, h6⟩, hw''⟩ := hw'
              subst hw''
              have I6 := Lib.hid h6
              clear h6 c0 c1 c2
              go_wp2
              have hNE : Nonempty (Wd (Wk w wr.heap.size e.st e.va e.wo)) := ⟨⟨_, I6.out.below ((Below.refl _ _).drew)⟩⟩
              have c0 := fun x : Wd (Wk w wr.heap.size e.st e.va e.wo) => (wcells3 x.ok.blk).1
              have c1 := fun x : Wd (Wk w wr.heap.size e.st e.va e.wo) => (wcells3 x.ok.blk).2.1
              have c2 := fun x : Wd (Wk w wr.heap.size e.st e.va e.wo) => (wcells3 x.ok.blk).2.2
              refine wp_region_inv (Wk w wr.heap.size e.st e.va e.wo) (by kernel_rfl) (by kernel_rfl) (I6.out.below ((Below.refl _ _).drew)) ?_
              repeat (go_big_quiet_step (fail))
              refine wpQuiet_nil ?_
              intro _ hw'
              obtain ⟨⟨w7, h7⟩, hw''⟩ := hw'
              subst hw''
              have I7 := Lib.hid h7
              clear h7 c0 c1 c2
              go_wp2
              go_roundw
              case rel => exact ⟨k + 1, true, by omega, by go_num, rfl, HN, I7.out.bel⟩
              case measure => simp [intOf] <;> omega
    · obtain rfl : k = len0 := by omega
      have i0 : ¬ (k : Int) < (k : Int) := by omega
      have HBD := Lib.hid hbd.out
      clear hlt hbd
      rcases HX.out with h0 | ⟨b, off, rfl, hb, hc⟩
      · have hk0 : k = 0 := by rw [HL.out, h0]; rfl
        obtain rfl : p = -1 := by omega
        obtain rfl : v = -1 := by omega
        obtain rfl : c = -1 := by omega
        have hbf : bd = false := by
          rcases bd with _ | _
          · rfl
          · obtain ⟨i, x, a1', _⟩ := HBD.out.1 rfl; omega
        subst hbf
        clear h0
        go_wp2_with fail
        refine (awake_any _).mono ?_
        rintro r w5 ⟨rfl, hb5⟩
        have B5 := Lib.hid (below_kept HBE.out hb5)
        clear hb5
        go_wp2
        go_ret
        exact ⟨rfl, B5.out⟩
      · have HCN := Lib.hid hc
        have HLP := Lib.hid (least_or HP.out)
        have HLV := Lib.hid (vic_or HV.out)
        have HLC : Hid (c = -1 ∨ ∃ (jc : Nat) (y : Bk), c = (jc : Int) ∧ jc < k ∧ L0[jc]? = some y ∧ isFull y) := Lib.hid (by
          rcases cd_q HC.out with h | h
          · exact .inl h
          · rcases least_or h with ⟨h, _⟩ | ⟨jc, y, a1', a2', a3', a4', _⟩
            · exact .inl h
            · exact .inr ⟨jc, y, a1', a2', a3', a4'⟩)
        clear hc
        rcases HLV.out with ⟨rfl, _, hns⟩ | ⟨jv, z, hjv, hlv, hz, hvk⟩
        · skip
          have hbf : bd = false := by
            rcases bd with _ | _
            · rfl
            · obtain ⟨i, x, a1', a2', a3'⟩ := HBD.out.1 rfl; exact absurd a3' (hns i x a1' a2')
          subst hbf
          clear hns
          rcases HLP.out with ⟨rfl, _⟩ | ⟨jp, yp, hjp, hlp, hyp, hfp, _⟩
          · rcases HLC.out with rfl | ⟨jc, yc, hjc, hlc, hyc, hfc⟩
            · skip
              go_wp2_with fail
              refine (awake_any _).mono ?_
              rintro r w5 ⟨rfl, hb5⟩
              have B5 := Lib.hid (below_kept HBE.out hb5)
              clear hb5
              go_wp2
              go_ret
              exact ⟨rfl, B5.out⟩
            · subst hjc
              obtain ⟨u0, u1, u2⟩ := (HCN.out jc yc hyc).kept HBE.out hb
              have g1 : (0 : Int) ≤ (jc : Int) := by omega
              have g2 : (jc : Int) < (k : Int) := by omega
              have g3 : (yc.st == 2) = true := beq_iff_eq.2 hfc
              go_wp2_with fail
              refine (awake_any _).mono ?_
              rintro r w5 ⟨rfl, hb5⟩
              have B5 := Lib.hid (below_kept HBE.out hb5)
              clear hb5 u0 u1 u2
              go_wp2
              go_ret
              exact ⟨rfl, B5.out⟩
          · subst hjp
            rcases HLC.out with rfl | ⟨jc, yc, hjc, hlc, hyc, hfc⟩
            · skip
              obtain ⟨x0, x1, x2⟩ := (HCN.out jp yp hyp).kept HBE.out hb
              have f1 : (0 : Int) ≤ (jp : Int) := by omega
              have f2 : (jp : Int) < (k : Int) := by omega
              have f3 : (yp.st == 0) = true := beq_iff_eq.2 hfp
              go_wp2_with fail
              refine (awake_any _).mono ?_
              rintro r w5 ⟨rfl, hb5⟩
              have B5 := Lib.hid (below_kept HBE.out hb5)
              clear hb5 x0 x1 x2
              go_wp2
              go_ret
              exact ⟨rfl, B5.out⟩
            · subst hjc
              obtain ⟨x0, x1, x2⟩ := (HCN.out jp yp hyp).kept HBE.out hb
              have f1 : (0 : Int) ≤ (jp : Int) := by omega
              have f2 : (jp : Int) < (k : Int) := by omega
              have f3 : (yp.st == 0) = true := beq_iff_eq.2 hfp
              obtain ⟨u0, u1, u2⟩ := (HCN.out jc yc hyc).kept HBE.out hb
              have g1 : (0 : Int) ≤ (jc : Int) := by omega
              have g2 : (jc : Int) < (k : Int) := by omega
              have g3 : (yc.st == 2) = true := beq_iff_eq.2 hfc
              go_wp2_with fail
              refine (awake_any _).mono ?_
              rintro r w5 ⟨rfl, hb5⟩
              have B5 := Lib.hid (below_kept HBE.out hb5)
              clear hb5 x0 x1 x2 u0 u1 u2
              go_wp2
              go_ret
              exact ⟨rfl, B5.out⟩
        · subst hjv
          rcases hvk with hst | ⟨hfu, hns, _⟩
          · have hbt : bd = true := HBD.out.2 ⟨jv, z, hlv, hz, hst⟩
            subst hbt
            have m1 : (z.st == 3) = true := beq_iff_eq.2 hst.1
            have m2 : 0 < z.va := hst.2
            clear hst
            rcases HLP.out with ⟨rfl, _⟩ | ⟨jp, yp, hjp, hlp, hyp, hfp, _⟩
            · rcases HLC.out with rfl | ⟨jc, yc, hjc, hlc, hyc, hfc⟩
              · skip
                have HZ := Lib.hid hz
                have k1 : (0 : Int) ≤ (jv : Int) := by omega
                have k2 : (jv : Int) < (k : Int) := by omega
                have k0 : decide ((jv : Int) < 0) = false := decide_eq_false (by omega)
                clear hz
                go_wp2_with fail
                refine (awake_any _).mono ?_
                rintro r w5 ⟨rfl, hb5⟩
                have B5 := Lib.hid (below_kept HBE.out hb5)
                clear hb5
                obtain ⟨z0, z1, z2⟩ := (HCN.out jv z HZ.out).kept B5.out hb
                go_wp2
                go_ret
                exact ⟨rfl, B5.out⟩
              · subst hjc
                obtain ⟨u0, u1, u2⟩ := (HCN.out jc yc hyc).kept HBE.out hb
                have g1 : (0 : Int) ≤ (jc : Int) := by omega
                have g2 : (jc : Int) < (k : Int) := by omega
                have g3 : (yc.st == 2) = true := beq_iff_eq.2 hfc
                have HZ := Lib.hid hz
                have k1 : (0 : Int) ≤ (jv : Int) := by omega
                have k2 : (jv : Int) < (k : Int) := by omega
                have k0 : decide ((jv : Int) < 0) = false := decide_eq_false (by omega)
                clear hz
                go_wp2_with fail
                refine (awake_any _).mono ?_
                rintro r w5 ⟨rfl, hb5⟩
                have B5 := Lib.hid (below_kept HBE.out hb5)
                clear hb5 u0 u1 u2
                obtain ⟨z0, z1, z2⟩ := (HCN.out jv z HZ.out).kept B5.out hb
                go_wp2
                go_ret
                exact ⟨rfl, B5.out⟩
            · subst hjp
              rcases HLC.out with rfl | ⟨jc, yc, hjc, hlc, hyc, hfc⟩
              · skip
                obtain ⟨x0, x1, x2⟩ := (HCN.out jp yp hyp).kept HBE.out hb
                have f1 : (0 : Int) ≤ (jp : Int) := by omega
                have f2 : (jp : Int) < (k : Int) := by omega
                have f3 : (yp.st == 0) = true := beq_iff_eq.2 hfp
                have HZ := Lib.hid hz
                have k1 : (0 : Int) ≤ (jv : Int) := by omega
                have k2 : (jv : Int) < (k : Int) := by omega
                have k0 : decide ((jv : Int) < 0) = false := decide_eq_false (by omega)
                clear hz
                go_wp2_with fail
                refine (awake_any _).mono ?_
                rintro r w5 ⟨rfl, hb5⟩
                have B5 := Lib.hid (below_kept HBE.out hb5)
                clear hb5 x0 x1 x2
                obtain ⟨z0, z1, z2⟩ := (HCN.out jv z HZ.out).kept B5.out hb
                go_wp2
                go_ret
                exact ⟨rfl, B5.out⟩
              · subst hjc
                obtain ⟨x0, x1, x2⟩ := (HCN.out jp yp hyp).kept HBE.out hb
                have f1 : (0 : Int) ≤ (jp : Int) := by omega
                have f2 : (jp : Int) < (k : Int) := by omega
                have f3 : (yp.st == 0) = true := beq_iff_eq.2 hfp
                obtain ⟨u0, u1, u2⟩ := (HCN.out jc yc hyc).kept HBE.out hb
                have g1 : (0 : Int) ≤ (jc : Int) := by omega
                have g2 : (jc : Int) < (k : Int) := by omega
                have g3 : (yc.st == 2) = true := beq_iff_eq.2 hfc
                have HZ := Lib.hid hz
                have k1 : (0 : Int) ≤ (jv : Int) := by omega
                have k2 : (jv : Int) < (k : Int) := by omega
                have k0 : decide ((jv : Int) < 0) = false := decide_eq_false (by omega)
                clear hz
                go_wp2_with fail
                refine (awake_any _).mono ?_
                rintro r w5 ⟨rfl, hb5⟩
                have B5 := Lib.hid (below_kept HBE.out hb5)
                clear hb5 x0 x1 x2 u0 u1 u2
                obtain ⟨z0, z1, z2⟩ := (HCN.out jv z HZ.out).kept B5.out hb
                go_wp2
                go_ret
                exact ⟨rfl, B5.out⟩
          · skip
            have hbf : bd = false := by
              rcases bd with _ | _
              · rfl
              · obtain ⟨i, x, a1', a2', a3'⟩ := HBD.out.1 rfl; exact absurd a3' (hns i x a1' a2')
            subst hbf
            clear hns
            have m1 : (z.st == 2) = true := beq_iff_eq.2 hfu
            clear hfu
            rcases HLP.out with ⟨rfl, _⟩ | ⟨jp, yp, hjp, hlp, hyp, hfp, _⟩
            · rcases HLC.out with rfl | ⟨jc, yc, hjc, hlc, hyc, hfc⟩
              · skip
                have HZ := Lib.hid hz
                have k1 : (0 : Int) ≤ (jv : Int) := by omega
                have k2 : (jv : Int) < (k : Int) := by omega
                have k0 : decide ((jv : Int) < 0) = false := decide_eq_false (by omega)
                clear hz
                go_wp2_with fail
                refine (awake_any _).mono ?_
                rintro r w5 ⟨rfl, hb5⟩
                have B5 := Lib.hid (below_kept HBE.out hb5)
                clear hb5
                obtain ⟨z0, z1, z2⟩ := (HCN.out jv z HZ.out).kept B5.out hb
                go_wp2
                go_ret
                exact ⟨rfl, B5.out⟩
              · subst hjc
                obtain ⟨u0, u1, u2⟩ := (HCN.out jc yc hyc).kept HBE.out hb
                have g1 : (0 : Int) ≤ (jc : Int) := by omega
                have g2 : (jc : Int) < (k : Int) := by omega
                have g3 : (yc.st == 2) = true := beq_iff_eq.2 hfc
                have HZ := Lib.hid hz
                have k1 : (0 : Int) ≤ (jv : Int) := by omega
                have k2 : (jv : Int) < (k : Int) := by omega
                have k0 : decide ((jv : Int) < 0) = false := decide_eq_false (by omega)
                clear hz
                go_wp2_with fail
                refine (awake_any _).mono ?_
                rintro r w5 ⟨rfl, hb5⟩
                have B5 := Lib.hid (below_kept HBE.out hb5)
                clear hb5 u0 u1 u2
                obtain ⟨z0, z1, z2⟩ := (HCN.out jv z HZ.out).kept B5.out hb
                go_wp2
                go_ret
                exact ⟨rfl, B5.out⟩
            · subst hjp
              rcases HLC.out with rfl | ⟨jc, yc, hjc, hlc, hyc, hfc⟩
              · skip
                obtain ⟨x0, x1, x2⟩ := (HCN.out jp yp hyp).kept HBE.out hb
                have f1 : (0 : Int) ≤ (jp : Int) := by omega
                have f2 : (jp : Int) < (k : Int) := by omega
                have f3 : (yp.st == 0) = true := beq_iff_eq.2 hfp
                have HZ := Lib.hid hz
                have k1 : (0 : Int) ≤ (jv : Int) := by omega
                have k2 : (jv : Int) < (k : Int) := by omega
                have k0 : decide ((jv : Int) < 0) = false := decide_eq_false (by omega)
                clear hz
                go_wp2_with fail
                refine (awake_any _).mono ?_
                rintro r w5 ⟨rfl, hb5⟩
                have B5 := Lib.hid (below_kept HBE.out hb5)
                clear hb5 x0 x1 x2
                obtain ⟨z0, z1, z2⟩ := (HCN.out jv z HZ.out).kept B5.out hb
                go_wp2
                go_ret
                exact ⟨rfl, B5.out⟩
              · subst hjc
                obtain ⟨x0, x1, x2⟩ := (HCN.out jp yp hyp).kept HBE.out hb
                have f1 : (0 : Int) ≤ (jp : Int) := by omega
                have f2 : (jp : Int) < (k : Int) := by omega
                have f3 : (yp.st == 0) = true := beq_iff_eq.2 hfp
                obtain ⟨u0, u1, u2⟩ := (HCN.out jc yc hyc).kept HBE.out hb
                have g1 : (0 : Int) ≤ (jc : Int) := by omega
                have g2 : (jc : Int) < (k : Int) := by omega
                have g3 : (yc.st == 2) = true := beq_iff_eq.2 hfc
                have HZ := Lib.hid hz
                have k1 : (0 : Int) ≤ (jv : Int) := by omega
                have k2 : (jv : Int) < (k : Int) := by omega
                have k0 : decide ((jv : Int) < 0) = false := decide_eq_false (by omega)
                clear hz
                go_wp2_with fail
                refine (awake_any _).mono ?_
                rintro r w5 ⟨rfl, hb5⟩
                have B5 := Lib.hid (below_kept HBE.out hb5)
                clear hb5 x0 x1 x2 u0 u1 u2
                obtain ⟨z0, z1, z2⟩ := (HCN.out jv z HZ.out).kept B5.out hb
                go_wp2
                go_ret
                exact ⟨rfl, B5.out⟩

theorem walk (a0 : Option Addr) (len0 cap0 : Nat) (L0 : List WR.Bk) (a1 : Int) (w : World) (hl0 : len0 = L0.length) (lm0 : len0 ≤ maxLen) (w0 : WR.Bks w a0 L0) (wf0 : ∀ e ∈ L0, WR.WfB e) (w1 : (Lit.int .i64 a1).wf = true) :
    Calls Try.prog 5 #[.slice a0 len0 cap0, .int .i64 a1] w fun e w' => e = .returned (.bool true) ∧ Below w.heap.size w w' := by
  by_cases hf : len0 ≤ 300
  · exact few_ a0 len0 cap0 L0 a1 w hl0 hf w0 wf0
  · exact big a0 len0 cap0 L0 a1 w lm0 hf

set_option maxRecDepth 100000 in
theorem lifted (os : Os) (started : os.Started) (H : Type) (enc : TypeId × Value → H) :
    ReturnsInHanded {} Try.checked os 5 .any (Rows.wearLessSpec.pre6 enc Try.prog Try.f5 Rows.wearLessRow.domain false) (Rows.wearLessSpec.post enc Try.prog Try.f5 false true false false) := by
  refine returnsInHanded_of_change_sized (C := Try.checked) own started (by kernel_rfl) Try.func5
    (ChangeSpec.witness6 (enc := enc) (C := Try.checked) false ⟨#[], #[.slice none 0 0, .int .i64 0], []⟩ 8 (by kernel_rfl) (by kernel_rfl) (by kernel_rfl) (by kernel_rfl)) ?_
  intro W base args ds gs before hval0 hW hcnd hsz0 _
  have hval : ∀ (j : Nat) t v, Try.f5.params[j]? = some t → args[j]? = some v → Value.okWide Try.prog W .any base t v := hval0
  have hW' := hW
  obtain ⟨p, q, hA0, hV, rfl, hfz, hnd⟩ := hW
  have hA : DataW.TrodAll enc Try.prog W 0 (fun _ => true) true Try.f5.params.toList args.toList ds p := hA0
  have hsz : (DataW.weightsEach Try.prog (Try.f5.params.toList ++ Rows.wearLessSpec.plain.varTypes Try.prog) (ds ++ gs)).all (· ≤ reachBytes) = true := hsz0
  rw [Try.params5] at hA hval hsz
  obtain ⟨v0, vs0, d0, ds0, p0, q0, hargs, rfl, rfl, h0, r0⟩ := trodAll_cons hA
  obtain ⟨v1, vs1, d1, ds1, p1, q1, rfl, rfl, rfl, h1, r1⟩ := trodAll_cons r0
  obtain ⟨rfl, rfl, rfl⟩ := trodAll_nil r1
  obtain rfl : args = #[v0, v1] := by cases args; simp_all
  obtain ⟨rfl, rfl⟩ := trodVars_none hV
  have k0 := h0
  have lt0 : ∀ x ∈ p0, x.block < W.heap.size := by obtain ⟨m, hm⟩ := k0; exact DataW.trod_lt m _ _ _ hm
  obtain ⟨a0, len0, cap0, L0, rfl, hl0, lm0, w0, wf0⟩ := OP.open_blocks (hval 0 22 v0 rfl rfl) h0
  obtain ⟨a1, rfl, rfl, rfl, w1⟩ := open_int Try.underlying3 (hval 1 3 v1 rfl rfl) h1
  clear hA0 hval0 hsz0
  refine (walk a0 len0 cap0 L0 a1 W hl0 lm0 w0 wf0 w1).mono fun e W' ⟨he, bel⟩ => ?_
  subst he
  exact ⟨_, rfl, _, _, _, [], _, [], hW', trodAll_mk1 (shut_bool Try.underlying4 _), (trodAll_cons_mk (Below.trod laidOut (by kernel_rfl) (of_decide_eq_true (by kernel_rfl)) k0 bel lt0) (trodAll_cons_mk (shut_int Try.underlying3 w1) trodAll_mk0)), rfl, bel.frame _, fun h => by cases h⟩

theorem over : Rows.wearLessRow.holds Try.pinned (OpenSpec.ofChange Rows.wearLessSpec) :=
  OpenClaim.holds_of_wide 5 Try.f5 rfl rfl rfl rfl rfl rfl rfl ⟨rfl, rfl, rfl, rfl, rfl⟩ rfl rfl rfl rfl rfl (by kernel_rfl) Try.func5 (by kernel_rfl)
    (of_decide_eq_true (by kernel_rfl)) (by unfold Func.isWrapper; first | (rw [if_pos (by decide +kernel)]; kernel_rfl) | (rw [if_neg (by decide +kernel)]; exact ⟨rfl, rfl⟩))
    (fun os started H enc _ => lifted os started H enc)

theorem proved : Rows.WearLessSaid := over
#print axioms proved
end Go.Proofs.Ytomncnelkkmalac.wearLess
