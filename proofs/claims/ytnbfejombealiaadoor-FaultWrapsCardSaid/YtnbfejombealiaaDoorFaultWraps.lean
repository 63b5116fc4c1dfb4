/- The law FaultWraps holds: its Go text answers true for every input, and leaves its arguments as they were. No condition beyond the statement's own (errors.errorType holds what start-up lays; the card ties it to the program's text). -/
import Derived.Test.YtnbfejombealiaaDoorRows
import Derived.Test.YtnbfejombealiaaDoorCards
import Derived.Test.YtnbfejombealiaaDoorTie
import Derived.Test.YtnbfejombealiaaDoorMade3
import Derived.Test.YtnbfejombealiaaDoorAwake3
import Derived.Test.YtnbfejombealiaaDoorFHas
import Derived.Outline
import Derived.Deep.QuietTactic
import Derived.BigQuiet
import Derived.Deep.RegionHeld3
import Derived.IntWalk
import Derived.ProofKit
import Derived.OpenShut
import Derived.ShutString
import Derived.ChangeOld
import Derived.ChangeSame
import Derived.ChangeVars
import Derived.Below
import Derived.SizedLaws
import Derived.JoinedOf
import Derived.RowKitTokens
import Derived.LaidLaws
import Derived.LaidHandle
import Derived.LaidMore
import Derived.Stop.Joined
import Derived.SevenTiedAt
namespace Go.Proofs.YtnbfejombealiaaDoor.faultWraps
open Go.ChangeShapes Go.WideShapes Go.ChangeAt Go.RowKit
open Go.ChangeMaps (open_string shut_string)
open Go.Proofs.YtnbfejombealiaaDoor
set_option linter.unusedVariables false
set_option linter.unusedSimpArgs false

theorem own : ownKnob Tryd.prog.godebug = none := by kernel_rfl
theorem laidOut : laidOutB Tryd.prog = true := by kernel_rfl
theorem et : Tryd.prog.globalNamed "errors.errorType" = some 0 := by kernel_rfl
theorem rt : (Tryd.prog.cutTypes.find? (·.1 == "internal/reflectlite.rtype")).map (·.2) = some 84 := by kernel_rfl
theorem oneRow : ((List.range 128).filter fun t => Tryd.prog.rowNamed t [101, 114, 114, 111, 114]) = [26] := by kernel_rfl
theorem tsize : Tryd.prog.types.size = 128 := by kernel_rfl
/-- What the condition gives the walk. -/
theorem handle_of_laid {W : World} (h : laidMetH Tryd.prog [("errors.errorType", Rows.laid_errors_errorType)] W) : ER.ErrorType W := by
  have h' : laidMet Tryd.prog [] W ∧ handlesMet Tryd.prog [("errors.errorType", Rows.laid_errors_errorType)] W := h
  obtain ⟨name, u, ty, e1, e2, e3, e4, e5⟩ := h'.2 _ (List.mem_singleton.2 rfl)
  have en : name = [101, 114, 114, 111, 114] := (Option.some.inj e1).symm
  subst en
  obtain rfl := Option.some.inj (rt.symm.trans e2)
  have hm : ty ∈ (List.range 128).filter fun t => Tryd.prog.rowNamed t [101, 114, 114, 111, 114] := List.mem_filter.2 ⟨List.mem_range.2 (by rw [← tsize]; exact e3), e4⟩
  rw [oneRow] at hm
  obtain rfl := List.mem_singleton.1 hm
  have hh : typeHandle Tryd.prog 26 = .pointer (some ⟨1, 26, none⟩) := by kernel_rfl
  rw [hh] at e5
  have := World.var?_cell et e5 0
  unfold ER.ErrorType
  simpa using this
/-- A world that meets the condition: the settled one, the variable's cell laid. -/
noncomputable def laidWorld (os : Os) : World :=
  let w0 := World.holding Tryd.prog os ⟨#[], #[], []⟩
  { w0 with heap := w0.heap.modify 0 fun
      | .cells _ t frozen => .cells #[.iface 84 (.agg #[.pointer (some ⟨1, 26, none⟩)])] t frozen
      | o => o }
theorem laidWorld_met (os : Os) (args : Array Value) : laidMetH Tryd.prog [("errors.errorType", Rows.laid_errors_errorType)] ((laidWorld os).forCall (fun _ _ => 0) ⟨#[], args, []⟩).memory :=
  laidMetH_of_parts (laidMet_nil _ _) (by kernel_rfl)

open ER MM OP

theorem trail_le_n : ∀ (n : Nat) (E : Er), E.dep ≤ n → E.trail.length ≤ E.dep := by
  intro n
  induction n with
  | zero =>
    intro E h
    rw [trail_first]
    cases hc : E.first with
    | none => exact Nat.zero_le _
    | some z => obtain ⟨op, m, e⟩ := z; have := first_dep E hc; omega
  | succ n ih =>
    intro E h
    rw [trail_first]
    cases hc : E.first with
    | none => exact Nat.zero_le _
    | some z =>
      obtain ⟨op, m, e⟩ := z
      have h1 := first_dep E hc
      have h2 := ih e (by omega)
      show e.trail.length + 1 ≤ _
      omega
theorem trail_le (E : Er) : E.trail.length ≤ E.dep := trail_le_n _ E (Nat.le_refl _)


set_option maxHeartbeats 8000000 in
set_option maxRecDepth 100000 in
theorem walk (a0 : Option Addr) (len0 cap0 : Nat) (s1 : ByteArray) (n1 : Int) (a2 : Int) (w : World) (l0 : len0 ≤ maxLen) (w0 : OP.Rows w a0 len0 4 OP.PartC) (z1 : s1.size ≤ maxLen) (w1 : (Lit.int .i64 n1).wf = true) (w2 : (Lit.int .i64 a2).wf = true) (hg : ER.ErrorType w) :
    Calls Tryd.prog 6 #[.slice a0 len0 cap0, .agg #[.string s1, .int .i64 n1], .int .i64 a2] w fun e w' => e = .returned (.bool true) ∧ Below w.heap.size w w' := by
  have HWN := Lib.hid w1
  have HZ := Lib.hid z1
  obtain ⟨W1, hW1⟩ : ∃ W1, W1 = w.alloc (.cells #[.string s1, .int .i64 n1] 42) := ⟨_, rfl⟩
  have hbb : Below w.heap.size w W1 := by rw [hW1]; exact (Below.refl _ _).alloc (Nat.le_refl _) _
  have hsb : W1.heap.size = w.heap.size + 1 := by rw [hW1]; simp
  have b0 : W1.cell? ⟨w.heap.size, 0, none⟩ = some (.string s1) := by rw [hW1, cell_of_row _ _ _ _ _ _ (heap_alloc_new w _)]; rfl
  have b1 : W1.cell? ⟨w.heap.size, 1, none⟩ = some (.int .i64 n1) := by rw [hW1, cell_of_row _ _ _ _ _ _ (heap_alloc_new w _)]; rfl
  have HR1 := w0.kept hbb (Nat.le_refl _)
  have HF := Lib.hid (few_any a0 len0 cap0 l0 W1 HR1)
  have HMD := Lib.hid (made_any a0 len0 cap0 l0 W1 HR1)
  have HG := Lib.hid (hg.kept hbb)
  have HBB := Lib.hid hbb
  have HSB := Lib.hid hsb
  have HB0 := Lib.hid b0
  have HB1 := Lib.hid b1
  clear w0 hg HR1 hbb hsb b0 b1 w2 w1 z1
  unfold maxLen at l0
  go_enter Tryd.func6, Tryd.ntmps6
  go_wp2_with fail
  rw [← hW1]
  clear hW1
  refine HF.out.mono ?_
  rintro e w2 ⟨b, rfl, rfl⟩
  cases b with
  | false =>
    have HA := Lib.hid (awake_any W1 HG.out)
    go_wp2_with fail
    refine HA.out.mono ?_
    rintro e w2 ⟨rfl, hb2⟩
    have hfin := HBB.out.trans (hb2.mono (by rw [HSB.out]; exact Nat.le_succ _))
    clear hb2
    go_wp2
    go_ret
    exact ⟨rfl, hfin⟩
  | true =>
    go_wp2_with fail
    refine HMD.out.mono ?_
    rintro e W2 ⟨v, na, nn, nc, rfl, hb1, hz, hp⟩
    have c0 : W2.cell? ⟨w.heap.size, 0, none⟩ = some (.string s1) := by rw [hb1.cell (p := ⟨w.heap.size, 0, none⟩) (by rw [HSB.out]; exact Nat.lt_succ_self _)]; exact HB0.out
    have c1 : W2.cell? ⟨w.heap.size, 1, none⟩ = some (.int .i64 n1) := by rw [hb1.cell (p := ⟨w.heap.size, 1, none⟩) (by rw [HSB.out]; exact Nat.lt_succ_self _)]; exact HB1.out
    have hs1 : w.heap.size < W2.heap.size := by have := hb1.size; rw [HSB.out] at this; omega
    have HBW2 := Lib.hid (HBB.out.trans (hb1.mono (by rw [HSB.out]; exact Nat.le_succ _)))
    have HG2 := Lib.hid (HG.out.kept hb1)
    clear hb1
    by_cases hl0 : len0 = 0
    · obtain ⟨rfl, rfl⟩ := hz hl0
      clear hz hp
      go_wp2_with fail
      refine (wrap_nil _ _ _).mono ?_
      rintro e w3 ⟨rfl, rfl⟩
      have HA := Lib.hid (awake_any W2 HG2.out)
      go_wp2_with fail
      refine HA.out.mono ?_
      rintro e w3 ⟨rfl, hb3⟩
      have hfin := HBW2.out.trans (hb3.mono (by omega))
      clear hb3
      go_wp2
      go_ret
      exact ⟨rfl, hfin⟩
    · obtain ⟨ns, es, E, hn0, hn30, hnl, hmt, hna, hE, hIE⟩ := hp (by omega)
      clear hz hp
      subst hnl
      have hnb : ((ns.length : Int) == 0) = false := beq_eq_false_iff_ne.2 (by omega)
      have hdep := match_dep hmt _ E hE
      have htl := trail_le E
      obtain ⟨t, x, rfl⟩ := hIE.iface
      have HWR := Lib.hid (wrap_any s1 n1 E (.iface t x) W2 hIE HWN.out HZ.out)
      obtain ⟨W3, hW3⟩ : ∃ W3, W3 = W2.alloc (.cells #[.string s1, .int .i64 n1, .iface t x] 60) := ⟨_, rfl⟩
      rw [← hW3] at HWR
      have hb3 : Below W2.heap.size W2 W3 := by rw [hW3]; exact (Below.refl _ _).alloc (Nat.le_refl _) _
      have hs3 : W3.heap.size = W2.heap.size + 1 := by rw [hW3]; simp
      have hIW : IsErr W3 W3.heap.size (.fault s1 n1 E) (.iface 57 (.pointer (some ⟨W2.heap.size, 0, none⟩))) := by
        rw [hs3, hW3]; exact wrapped hIE HWN.out HZ.out
      have HIE := Lib.hid ((hIE.below hb3).more hb3.size)
      have HIW := Lib.hid hIW
      have HB3 := Lib.hid hb3
      have HS3 := Lib.hid hs3
      have HG3 := Lib.hid (HG2.out.kept hb3)
      clear hmt hna hE hIE hb3 hs3 hIW hW3
      go_wp2_with fail
      refine HWR.out.mono ?_
      rintro e w3 ⟨rfl, rfl⟩
      have HT1 := Lib.hid (trail_any E (.iface t x) W3 HIE.out HG3.out (by omega))
      go_wp2_with fail
      refine HT1.out.mono ?_
      rintro e W4 ⟨v4, rfl, hown4, hb4⟩
      obtain ⟨A4, k4, rfl⟩ := own_slice hown4
      have hs4 := hb4.size
      have HT2 := Lib.hid (trail_any _ _ W4 ((HIW.out.below hb4).more hs4) (HG3.out.kept hb4) (by show E.dep + 1 ≤ _; omega))
      have HO4 := Lib.hid hown4
      have HB4 := Lib.hid hb4
      clear hown4 hb4
      go_wp2_with fail
      refine HT2.out.mono ?_
      rintro e W5 ⟨v5, rfl, hown5, hb5⟩
      have hs5 := hb5.size
      have hl5 : (Er.fault s1 n1 E).trail.length = E.trail.length + 1 := rfl
      rw [hl5] at hown5
      obtain ⟨g5, k5, rfl, hg5b, hg5l⟩ := own_form hown5 (Nat.succ_pos _)
      have q0 : W5.cell? ⟨g5, 0, none⟩ = some (.string s1) := by have := hown5.cells (g := g5) rfl 0 _ rfl; rwa [Addr.add_lit] at this
      have q1 : W5.cell? ⟨g5, 1, none⟩ = some (.int .i64 n1) := by have := hown5.cells (g := g5) rfl 1 _ rfl; rwa [Addr.add_lit] at this
      have HB5 := Lib.hid (HB4.out.trans (hb5.mono hs4))
      have q2 : W5.cell? ⟨w.heap.size, 0, none⟩ = some (.string s1) := by rw [HB5.out.cell (p := ⟨w.heap.size, 0, none⟩) (by show w.heap.size < _; rw [HS3.out]; omega), HB3.out.cell (p := ⟨w.heap.size, 0, none⟩) hs1]; exact c0
      have q3 : W5.cell? ⟨w.heap.size, 1, none⟩ = some (.int .i64 n1) := by rw [HB5.out.cell (p := ⟨w.heap.size, 1, none⟩) (by show w.heap.size < _; rw [HS3.out]; omega), HB3.out.cell (p := ⟨w.heap.size, 1, none⟩) hs1]; exact c1
      have HO5 := Lib.hid hown5
      have HO4' := Lib.hid (own_kept HO4.out hb5)
      obtain ⟨m, hm⟩ : ∃ m, m = E.trail.length := ⟨_, rfl⟩
      have HM := Lib.hid hm
      rw [← hm] at htl HO4' HO5 ⊢
      -- the calls of the great test
      have hstep : ∀ (w' w'' : World), (w'.cell? ⟨g5, 0, none⟩ = some (.string s1) ∧ w'.cell? ⟨g5, 1, none⟩ = some (.int .i64 n1) ∧ w'.cell? ⟨w.heap.size, 0, none⟩ = some (.string s1) ∧ w'.cell? ⟨w.heap.size, 1, none⟩ = some (.int .i64 n1) ∧ Below W5.heap.size W5 w') → Below w'.heap.size w' w'' →
          (w''.cell? ⟨g5, 0, none⟩ = some (.string s1) ∧ w''.cell? ⟨g5, 1, none⟩ = some (.int .i64 n1) ∧ w''.cell? ⟨w.heap.size, 0, none⟩ = some (.string s1) ∧ w''.cell? ⟨w.heap.size, 1, none⟩ = some (.int .i64 n1) ∧ Below W5.heap.size W5 w'') := by
        rintro w' w'' ⟨h0, h1, h2, h3, h4⟩ hb
        have hsz := h4.size
        have hww : w.heap.size < w'.heap.size := by have := HS3.out; have := HB5.out.size; omega
        refine ⟨?_, ?_, ?_, ?_, h4.trans (hb.mono hsz)⟩
        · rw [hb.cell (p := ⟨g5, 0, none⟩) (Nat.lt_of_lt_of_le hg5l hsz)]; exact h0
        · rw [hb.cell (p := ⟨g5, 1, none⟩) (Nat.lt_of_lt_of_le hg5l hsz)]; exact h1
        · rw [hb.cell (p := ⟨w.heap.size, 0, none⟩) hww]; exact h2
        · rw [hb.cell (p := ⟨w.heap.size, 1, none⟩) hww]; exact h3
      have HST := Lib.hid hstep
      have HG5 := Lib.hid (HG3.out.kept HB5.out)
      have HIE5 := Lib.hid ((HIE.out.below HB5.out).more HB5.out.size)
      have HIW5 := Lib.hid ((HIW.out.below HB5.out).more HB5.out.size)
      have HC : Hid (∀ v' w', (v' = .iface 57 (.pointer (some ⟨W2.heap.size, 0, none⟩)) ∨ v' = .iface t x) → Below W5.heap.size W5 w' → Calls Tryd.prog 12 #[v'] w' fun e w'' => e = .returned (.int .i64 (E.code.getD 8)) ∧ Below w'.heap.size w' w'') := by
        refine Lib.hid (fun v' w' hv hb => ?_)
        rcases hv with rfl | rfl
        · have := code_any (.fault s1 n1 E) _ w' ((HIW5.out.below hb).more hb.size) (HG5.out.kept hb)
          exact this
        · exact code_any E _ w' ((HIE5.out.below hb).more hb.size) (HG5.out.kept hb)
      have HH : Hid (∀ v' w', (v' = .iface 57 (.pointer (some ⟨W2.heap.size, 0, none⟩)) ∨ v' = .iface t x) → Below W5.heap.size W5 w' → Calls Tryd.prog 14 #[v', .int .i64 a2] w' fun e w'' => e = .returned (.bool (E.has a2)) ∧ w' = w'') := by
        refine Lib.hid (fun v' w' hv hb => ?_)
        rcases hv with rfl | rfl
        · have := has_any (.fault s1 n1 E) _ a2 w' ((HIW5.out.below hb).more hb.size)
          exact this
        · exact has_any E _ a2 w' ((HIE5.out.below hb).more hb.size)
      obtain ⟨cd, hcd⟩ : ∃ cd, cd = E.code.getD 8 := ⟨_, rfl⟩
      obtain ⟨hh, hhh⟩ : ∃ hh, hh = E.has a2 := ⟨_, rfl⟩
      rw [← hcd] at HC
      rw [← hhh] at HH
      have HQ := Lib.hid (show W5.drew.cell? ⟨g5, 0, none⟩ = some (.string s1) ∧ W5.drew.cell? ⟨g5, 1, none⟩ = some (.int .i64 n1) ∧ W5.drew.cell? ⟨w.heap.size, 0, none⟩ = some (.string s1) ∧ W5.drew.cell? ⟨w.heap.size, 1, none⟩ = some (.int .i64 n1) ∧ Below W5.heap.size W5 W5.drew from ⟨q0, q1, q2, q3, (Below.refl _ _).drew⟩)
      have r0 : IntKind.i64.wrap ((m : Int) + 1) = (m : Int) + 1 := IntWalk.i64_in _ (by omega)
      have r1 : ((m + 1 : Nat) : Int) = (m : Int) + 1 := by omega
      have r2 : ((m : Int) + 1 != (m : Int) + 1) = false := by simp
      have r3 : (cd != cd) = false := by simp
      have r4 : (hh != hh) = false := by cases hh <;> rfl
      have r5 : (0 : Int) < (m : Int) + 1 := by omega
      have hm30 : m ≤ 100 := by omega
      clear hcd hhh hm hown5 hb5 hstep c0 c1 hdep
      go_wp2
      go_region_held3 (fun w' => w'.cell? ⟨g5, 0, none⟩ = some (.string s1) ∧ w'.cell? ⟨g5, 1, none⟩ = some (.int .i64 n1) ∧ w'.cell? ⟨w.heap.size, 0, none⟩ = some (.string s1) ∧ w'.cell? ⟨w.heap.size, 1, none⟩ = some (.int .i64 n1) ∧ Below W5.heap.size W5 w') (first | exact HQ.out | assumption) (first | (go_at_call 12; refine (HC.out _ _ (by first | exact Or.inl rfl | exact Or.inr rfl) (by first | exact HQ.out.2.2.2.2 | exact hS6.2.2.2.2)).mono ?_; first | (rintro e w6 ⟨rfl, hb6⟩; have hS6 := HST.out _ _ HQ.out hb6) | (rintro e w7 ⟨rfl, hb7⟩; have hS7 := HST.out _ _ hS6 hb7)) | (go_at_call 14; refine (HH.out _ _ (by first | exact Or.inl rfl | exact Or.inr rfl) hS7.2.2.2.2).mono ?_; first | (rintro e w8 ⟨rfl, rfl⟩) | (rintro e w9 ⟨rfl, rfl⟩)))
      have HB7 := Lib.hid hS7.2.2.2.2
      clear hS6 hS7 hb6 hb7 HQ HC HH HST q0 q1 q2 q3
      try clear hHeld
      go_wp2
      go_loopw [12] (fun s wr => ∃ j : Nat, j ≤ m ∧ s = .int .i64 j ∧ Below W5.heap.size W5 wr) (fun s _ => m - (intOf s).toNat)
      case atStart => exact ⟨0, Nat.zero_le _, rfl, HB7.out⟩
      case round =>
        obtain ⟨j, hj, rfl, hbx⟩ := hrel
        obtain ⟨wx, rfl⟩ : ∃ wx : World, wx = wr := ⟨_, rfl⟩
        have HBX := Lib.hid hbx
        clear hbx
        by_cases hlt : j < m
        · have hlt' : j < E.trail.length := by rw [← HM.out]; exact hlt
          obtain ⟨q, hq⟩ : ∃ q, E.trail[j]? = some q := ⟨E.trail[j], List.getElem?_eq_getElem hlt'⟩
          obtain ⟨g4, k4', hv4, _, hg4⟩ := own_form HO4'.out (by omega)
          have hA4 : A4 = some ⟨g4, 0, none⟩ := by injection hv4
          subst hA4
          obtain ⟨t0, t1⟩ := stepCells_get _ _ _ hq
          obtain ⟨t2, t3⟩ := stepCells_get ((s1, n1) :: E.trail) (j + 1) q (by rw [List.getElem?_cons_succ]; exact hq)
          have s0 := HO4'.out.cells (g := g4) rfl _ _ t0
          have s1' := HO4'.out.cells (g := g4) rfl _ _ t1
          have s2 := HO5.out.cells (g := g5) rfl _ _ t2
          have s3 := HO5.out.cells (g := g5) rfl _ _ t3
          rw [Addr.add_lit, Nat.zero_add] at s0 s1' s2 s3
          have d0 : wx.cell? ⟨g4, j * 2, none⟩ = some (.string q.1) := by rw [HBX.out.cell (p := ⟨g4, j * 2, none⟩) hg4]; exact s0
          have d1 : wx.cell? ⟨g4, j * 2 + 1, none⟩ = some (.int .i64 q.2) := by rw [HBX.out.cell (p := ⟨g4, j * 2 + 1, none⟩) hg4]; exact s1'
          have d2 : wx.cell? ⟨g5, (j + 1) * 2, none⟩ = some (.string q.1) := by rw [HBX.out.cell (p := ⟨g5, (j + 1) * 2, none⟩) hg5l]; exact s2
          have d3 : wx.cell? ⟨g5, (j + 1) * 2 + 1, none⟩ = some (.int .i64 q.2) := by rw [HBX.out.cell (p := ⟨g5, (j + 1) * 2 + 1, none⟩) hg5l]; exact s3
          have z0 : (0 : Int) ≤ (j : Int) := by omega
          have z1 : (j : Int) < (m : Int) := by omega
          have z2 : IntKind.i64.wrap ((j : Int) + 1) = (j : Int) + 1 := IntWalk.i64_in _ (by omega)
          have z3 : (0 : Int) ≤ (j : Int) + 1 := by omega
          have z4 : (j : Int) + 1 < (m : Int) + 1 := by omega
          have z5 : ((j : Int) + 1).toNat = j + 1 := by omega
          clear hq t0 t1 t2 t3 s0 s1' s2 s3 hv4 hlt'
          go_wp2
          go_quiet (fail)
          go_wp2
          clear z0 z1 z2 z3 z4 z5
          exact ⟨⟨j + 1, by omega, by go_num, drewN_below HBX.out _⟩, by simp [intOf]; omega⟩
        · obtain rfl : j = m := by omega
          have HA3 := Lib.hid (awake_any wx (HG5.out.kept HBX.out))
          go_wp2_with fail
          refine HA3.out.mono ?_
          rintro e w9 ⟨rfl, hb9⟩
          have e1 : w.heap.size ≤ W2.heap.size := by omega
          have e2 : W2.heap.size ≤ W3.heap.size := by rw [HS3.out]; omega
          have e3 := HB5.out.size
          have e4 := HBX.out.size
          have hfin := HBW2.out.trans (((((HB3.out.trans (HB5.out.mono e2)).trans (HBX.out.mono (Nat.le_trans e2 e3))).trans (hb9.mono (Nat.le_trans (Nat.le_trans e2 e3) e4)))).mono e1)
          clear hb9 e1 e2 e3 e4
          go_wp2
          go_ret
          exact ⟨rfl, hfin⟩

set_option maxRecDepth 100000 in
theorem lifted (os : Os) (started : os.Started) (H : Type) (enc : TypeId × Value → H) :
    ReturnsInHanded {} Tryd.checked os 6 .any (fun w args => (Rows.faultWrapsSpec.pre enc Tryd.prog Tryd.f6 [] false w args ∧ laidMetH Tryd.prog [("errors.errorType", Rows.laid_errors_errorType)] w) ∧ sizedMet enc Tryd.prog Tryd.f6 (OpenSpec.ofChange Rows.faultWrapsSpec) false w args) (Rows.faultWrapsSpec.post enc Tryd.prog Tryd.f6 false true false false) := by
  refine returnsInHanded_of_change_and (C := Tryd.checked) (X := (fun w _ => laidMetH Tryd.prog [("errors.errorType", Rows.laid_errors_errorType)] w)) (fun _ _ _ hh h => h.of_heap hh) own started (by kernel_rfl) Tryd.func6
    (ChangeSpec.witness_at (enc := enc) (C := Tryd.checked) (os := os) (X := (fun w _ => laidMetH Tryd.prog [("errors.errorType", Rows.laid_errors_errorType)] w)) false (laidWorld os) #[.slice none 0 0, .agg #[.string ByteArray.empty, .int .i64 0], .int .i64 0] 8 rfl (by kernel_rfl) (by kernel_rfl) (by kernel_rfl) (by kernel_rfl) (by kernel_rfl) (laidWorld_met os _)) ?_
  intro W base args ds gs before hval0 hW _ hsz0 hL _
  have hval : ∀ (j : Nat) t v, Tryd.f6.params[j]? = some t → args[j]? = some v → Value.okWide Tryd.prog W .any base t v := hval0
  have hW' := hW
  obtain ⟨p, q, hA0, hV, rfl, hfz, hnd⟩ := hW
  have hA : DataW.TrodAll enc Tryd.prog W 0 (fun _ => true) true Tryd.f6.params.toList args.toList ds p := hA0
  rw [Tryd.params6] at hA hval
  obtain ⟨v0, vs0, d0, ds0, p0, q0, hargs, rfl, rfl, h0, r0⟩ := trodAll_cons hA
  obtain ⟨v1, vs1, d1, ds1, p1, q1, rfl, rfl, rfl, h1, r1⟩ := trodAll_cons r0
  obtain ⟨v2, vs2, d2, ds2, p2, q2, rfl, rfl, rfl, h2, r2⟩ := trodAll_cons r1
  obtain ⟨rfl, rfl, rfl⟩ := trodAll_nil r2
  obtain rfl : args = #[v0, v1, v2] := by cases args; simp_all
  obtain ⟨rfl, rfl⟩ := trodVars_none hV
  have k0 := h0
  have lt0 : ∀ x ∈ p0, x.block < W.heap.size := by obtain ⟨m, hm⟩ := k0; exact DataW.trod_lt m _ _ _ hm
  obtain ⟨a0, len0, cap0, rfl, l0, w0⟩ := OP.open_parts (hval 0 22 v0 rfl rfl) h0
  have k1 := h1
  have lt1 : ∀ x ∈ p1, x.block < W.heap.size := by obtain ⟨m, hm⟩ := k1; exact DataW.trod_lt m _ _ _ hm
  obtain ⟨s1, n1, rfl, z1, w1⟩ := OP.open_step (hval 1 42 v1 rfl rfl) h1
  obtain ⟨a2, rfl, rfl, rfl, w2⟩ := open_int Tryd.underlying3 (hval 2 3 v2 rfl rfl) h2
  have hg := handle_of_laid hL
  clear hA0 hval0 hsz0
  refine (walk a0 len0 cap0 s1 n1 a2 W l0 w0 z1 w1 w2 hg).mono fun e W' ⟨he, bel⟩ => ?_
  subst he
  exact ⟨_, rfl, _, _, _, [], _, [], hW', trodAll_mk1 (shut_bool Tryd.underlying4 _), (trodAll_cons_mk (Below.trod laidOut (by kernel_rfl) (of_decide_eq_true (by kernel_rfl)) k0 bel lt0) (trodAll_cons_mk (Below.trod laidOut (by kernel_rfl) (of_decide_eq_true (by kernel_rfl)) k1 bel lt1) (trodAll_cons_mk (shut_int Tryd.underlying3 w2) trodAll_mk0))), rfl, bel.frame _, fun h => by cases h⟩

theorem over : Rows.FaultWrapsSaid :=
  OpenClaim.holds_of_wide 6 Tryd.f6 rfl rfl rfl rfl rfl rfl rfl ⟨rfl, rfl, rfl, rfl, rfl⟩ rfl rfl rfl rfl rfl (by kernel_rfl) Tryd.func6 (by kernel_rfl)
    (of_decide_eq_true (by kernel_rfl)) (by unfold Func.isWrapper; first | (rw [if_pos (by decide +kernel)]; kernel_rfl) | (rw [if_neg (by decide +kernel)]; exact ⟨rfl, rfl⟩))
    (fun os started H enc _ => lifted os started H enc)

/-- The card: the row, its one listed variable tied to the program's text. -/
theorem proved : Rows.FaultWrapsCardSaid :=
  Claim7.holds_tied_plain_at .later [] [.handle] true _ true
    over (fun _ h => by cases h) (by kernel_rfl) (fun _ h => by cases h) faultWraps_row_tie rfl ⟨rfl, rfl⟩ (by kernel_rfl) rfl
    (fun f fn hf hfn => by
      obtain rfl : f = 6 := Option.some.inj ((show Tryd.prog.funcNamed "scoria/scorialaw03.FaultWraps" = some 6 by kernel_rfl).symm.trans hf) |>.symm
      obtain rfl : fn = Tryd.f6 := (Option.some.inj (Tryd.func6.symm.trans hfn)).symm
      exact ⟨by kernel_rfl, fun j t ht => by
        rw [Tryd.params6] at ht
        have hm : t ∈ [22, 42, 3] := by simpa using Array.mem_of_getElem? ht
        have hall : ([22, 42, 3].all fun u => !Tryd.prog.wantsStandIn u) = true := by kernel_rfl
        exact (show Tryd.prog.wantsStandIn t = false by simpa using List.all_eq_true.1 hall t hm)⟩)
    (by kernel_rfl)
#print axioms proved
end Go.Proofs.YtnbfejombealiaaDoor.faultWraps
