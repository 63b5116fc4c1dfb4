/- The law FaultTrails holds: its Go text answers true for every input, and leaves its arguments as they were. No condition beyond the statement's own (errors.errorType holds what start-up lays; the card ties it to the program's text). -/
import Derived.Test.YtnbfejombealiaaDoorRows
import Derived.Test.YtnbfejombealiaaDoorCards
import Derived.Test.YtnbfejombealiaaDoorTie
import Derived.Test.YtnbfejombealiaaDoorMade3
import Derived.Test.YtnbfejombealiaaDoorAwake3
import Derived.Outline
import Derived.Deep.QuietTactic
import Derived.BigQuiet
import Derived.ProofKit
import Derived.OpenShut
import Derived.ShutString
import Derived.ChangeOld
import Derived.ChangeSame
import Derived.ChangeVars
import Derived.Below
import Derived.SizedLaws
import Derived.JoinedOf
import Derived.RowKitTokens
import Derived.LaidLaws
import Derived.LaidHandle
import Derived.LaidMore
import Derived.Stop.Joined
import Derived.SevenTiedAt
namespace Go.Proofs.YtnbfejombealiaaDoor.faultTrails
open Go.ChangeShapes Go.WideShapes Go.ChangeAt Go.RowKit
open Go.ChangeMaps (open_string shut_string)
open Go.Proofs.YtnbfejombealiaaDoor
set_option linter.unusedVariables false
set_option linter.unusedSimpArgs false

theorem own : ownKnob Tryd.prog.godebug = none := by kernel_rfl
theorem laidOut : laidOutB Tryd.prog = true := by kernel_rfl
theorem et : Tryd.prog.globalNamed "errors.errorType" = some 0 := by kernel_rfl
theorem rt : (Tryd.prog.cutTypes.find? (·.1 == "internal/reflectlite.rtype")).map (·.2) = some 84 := by kernel_rfl
theorem oneRow : ((List.range 128).filter fun t => Tryd.prog.rowNamed t [101, 114, 114, 111, 114]) = [26] := by kernel_rfl
theorem tsize : Tryd.prog.types.size = 128 := by kernel_rfl
/-- What the condition gives the walk. -/
theorem handle_of_laid {W : World} (h : laidMetH Tryd.prog [("errors.errorType", Rows.laid_errors_errorType)] W) : ER.ErrorType W := by
  have h' : laidMet Tryd.prog [] W ∧ handlesMet Tryd.prog [("errors.errorType", Rows.laid_errors_errorType)] W := h
  obtain ⟨name, u, ty, e1, e2, e3, e4, e5⟩ := h'.2 _ (List.mem_singleton.2 rfl)
  have en : name = [101, 114, 114, 111, 114] := (Option.some.inj e1).symm
  subst en
  obtain rfl := Option.some.inj (rt.symm.trans e2)
  have hm : ty ∈ (List.range 128).filter fun t => Tryd.prog.rowNamed t [101, 114, 114, 111, 114] := List.mem_filter.2 ⟨List.mem_range.2 (by rw [← tsize]; exact e3), e4⟩
  rw [oneRow] at hm
  obtain rfl := List.mem_singleton.1 hm
  have hh : typeHandle Tryd.prog 26 = .pointer (some ⟨1, 26, none⟩) := by kernel_rfl
  rw [hh] at e5
  have := World.var?_cell et e5 0
  unfold ER.ErrorType
  simpa using this
/-- A world that meets the condition: the settled one, the variable's cell laid. -/
noncomputable def laidWorld (os : Os) : World :=
  let w0 := World.holding Tryd.prog os ⟨#[], #[], []⟩
  { w0 with heap := w0.heap.modify 0 fun
      | .cells _ t frozen => .cells #[.iface 84 (.agg #[.pointer (some ⟨1, 26, none⟩)])] t frozen
      | o => o }
theorem laidWorld_met (os : Os) (args : Array Value) : laidMetH Tryd.prog [("errors.errorType", Rows.laid_errors_errorType)] ((laidWorld os).forCall (fun _ _ => 0) ⟨#[], args, []⟩).memory :=
  laidMetH_of_parts (laidMet_nil _ _) (by kernel_rfl)

open ER MM OP

theorem trail_le_n : ∀ (n : Nat) (E : Er), E.dep ≤ n → E.trail.length ≤ E.dep := by
  intro n
  induction n with
  | zero =>
    intro E h
    rw [trail_first]
    cases hc : E.first with
    | none => exact Nat.zero_le _
    | some z => obtain ⟨op, m, e⟩ := z; have := first_dep E hc; omega
  | succ n ih =>
    intro E h
    rw [trail_first]
    cases hc : E.first with
    | none => exact Nat.zero_le _
    | some z =>
      obtain ⟨op, m, e⟩ := z
      have h1 := first_dep E hc
      have h2 := ih e (by omega)
      show e.trail.length + 1 ≤ _
      omega
theorem trail_le (E : Er) : E.trail.length ≤ E.dep := trail_le_n _ E (Nat.le_refl _)

set_option maxHeartbeats 4000000 in
set_option maxRecDepth 100000 in
theorem walk (a0 : Option Addr) (len0 cap0 : Nat) (w : World) (l0 : len0 ≤ maxLen) (w0 : OP.Rows w a0 len0 4 OP.PartC) (hg : ER.ErrorType w) :
    Calls Tryd.prog 5 #[.slice a0 len0 cap0] w fun e w' => e = .returned (.bool true) ∧ Below w.heap.size w w' := by
  have HF := Lib.hid (few_any a0 len0 cap0 l0 w w0)
  have HMD := Lib.hid (made_any a0 len0 cap0 l0 w w0)
  have HG := Lib.hid hg
  clear w0 hg
  unfold maxLen at l0
  go_enter Tryd.func5, Tryd.ntmps5
  go_wp2_with fail
  refine HF.out.mono ?_
  rintro e w1 ⟨b, rfl, rfl⟩
  cases b with
  | false =>
    have HA := Lib.hid (awake_any w HG.out)
    go_wp2_with fail
    refine HA.out.mono ?_
    rintro e w2 ⟨rfl, hb2⟩
    go_wp2
    go_ret
    exact ⟨rfl, hb2⟩
  | true =>
    go_wp2_with fail
    refine HMD.out.mono ?_
    rintro e w1 ⟨v, na, nn, nc, rfl, hb1, hz, hp⟩
    have HB1 := Lib.hid hb1
    have hs1 := hb1.size
    have HG1 := Lib.hid (HG.out.kept hb1)
    clear hb1
    by_cases hl0 : len0 = 0
    · obtain ⟨rfl, rfl⟩ := hz hl0
      clear hz hp
      go_wp2_with fail
      refine (trail_nil _).mono ?_
      rintro e w3 ⟨rfl, hb3⟩
      have HB3 := Lib.hid (HB1.out.trans (hb3.mono hs1))
      have HA := Lib.hid (awake_any w3 (HG1.out.kept hb3))
      clear hb3
      go_wp2_with fail
      refine HA.out.mono ?_
      rintro e w2 ⟨rfl, hb2⟩
      have hb : Below w.heap.size w w2 := HB3.out.trans (hb2.mono HB3.out.size)
      clear hb2
      go_wp2
      go_ret
      exact ⟨rfl, hb⟩
    · obtain ⟨ns, es, E, hn0, hn30, hnl, hmt, hna, hE, hIE⟩ := hp (by omega)
      clear hz hp
      subst hnl
      have hnb : ((ns.length : Int) == 0) = false := beq_eq_false_iff_ne.2 (by omega)
      have hcast : ((ns.length - 1 : Nat) : Int) = (ns.length : Int) - 1 := by omega
      have hdep : E.dep ≤ 100000 := by have := match_dep hmt _ E hE; omega
      have HT := Lib.hid (trail_any E v w1 hIE HG1.out hdep)
      have HCAST := Lib.hid hcast
      have HMT := Lib.hid hmt
      have HNA := Lib.hid hna
      have HE := Lib.hid hE
      obtain ⟨t, x, rfl⟩ := hIE.iface
      clear hcast hmt hna hE hIE hdep
      go_wp2_with fail
      refine HT.out.mono ?_
      rintro e w2 ⟨v2, rfl, hown, hb2⟩
      have HB2 := Lib.hid hb2
      have hs2 := hb2.size
      have HO := Lib.hid hown
      obtain ⟨A2, c2, rfl⟩ := own_slice hown
      have hre := rtrail_any ns es HMT.out (by omega) na nc (ns.length - 1) w2 w1.heap.size E (HNA.out.below hb2) hs2 HE.out
      rw [HCAST.out] at hre
      have HRE := Lib.hid hre
      clear hre hb2 hown
      go_wp2_with fail
      refine HRE.out.mono ?_
      rintro e w3 ⟨v3, ts, rfl, hown3, hpl, hb3⟩
      have HB3 := Lib.hid hb3
      have hs3 := hb3.size
      have HPL := Lib.hid hpl
      have htl := hpl.1
      obtain ⟨A3, c3, rfl⟩ := own_slice hown3
      have HO3 := Lib.hid hown3
      have HO2 := Lib.hid (own_kept HO.out hb3)
      have HNA3 := Lib.hid ((HNA.out.below HB2.out).below (hb3.mono hs2))
      have hdl : ts.length ≤ 1000000 := by
        have h1 := trail_le E
        have h2 := match_dep HMT.out _ E HE.out
        omega
      rw [← htl] at HO2 ⊢
      have HTL := Lib.hid htl
      clear hb3 hpl hown3 htl
      go_wp2
      go_loopw [7] (fun s wr => ∃ j : Nat, j ≤ ts.length ∧ s = .int .i64 j ∧ Below w3.heap.size w3 wr) (fun s _ => ts.length - (intOf s).toNat)
      case atStart => exact ⟨0, Nat.zero_le _, rfl, Below.refl _ _⟩
      case round =>
        obtain ⟨j, hj, rfl, hbx⟩ := hrel
        obtain ⟨wx, rfl⟩ : ∃ wx : World, wx = wr := ⟨_, rfl⟩
        have HBX := Lib.hid hbx
        clear hbx
        by_cases hlt : j < ts.length
        · obtain ⟨q, hq⟩ : ∃ q, ts[j]? = some q := ⟨ts[j], List.getElem?_eq_getElem hlt⟩
          obtain ⟨nd, hnd, htr⟩ := HPL.out.2 j q hq
          obtain ⟨g2, k2, hv2, _, hg2⟩ := own_form HO2.out (by omega)
          have hA2 : A2 = some ⟨g2, 0, none⟩ := by injection hv2
          subst hA2
          obtain ⟨g3, k3, hv3, _, hg3⟩ := own_form HO3.out (by omega)
          have hA3 : A3 = some ⟨g3, 0, none⟩ := by injection hv3
          subst hA3
          rcases HNA3.out with h0 | ⟨gn, rfl, hgn, hcells⟩
          · rw [h0] at hn0; simp at hn0
          · obtain ⟨_, _, n2, n3, _⟩ := hcells q nd hnd
            obtain ⟨t0, t1⟩ := stepCells_get _ _ _ htr
            have s0 := HO2.out.cells (g := g2) rfl _ _ t0
            have s1 := HO2.out.cells (g := g2) rfl _ _ t1
            rw [Addr.add_lit, Nat.zero_add] at s0 s1
            have s2 := own_cells HO3.out j (.int .i64 (q : Int)) (by simp [intCells, hq])
            have hgn3 : gn < w3.heap.size := Nat.lt_of_lt_of_le hgn (Nat.le_trans hs2 hs3)
            have d0 : wx.cell? ⟨g2, j * 2, none⟩ = some (.string nd.op) := by rw [HBX.out.cell (p := ⟨g2, j * 2, none⟩) hg2]; exact s0
            have d1 : wx.cell? ⟨g2, j * 2 + 1, none⟩ = some (.int .i64 nd.at_) := by rw [HBX.out.cell (p := ⟨g2, j * 2 + 1, none⟩) hg2]; exact s1
            have d2 : wx.cell? ⟨g3, j, none⟩ = some (.int .i64 (q : Int)) := by rw [HBX.out.cell (p := ⟨g3, j, none⟩) hg3]; exact s2
            have d3 : wx.cell? ⟨gn, q * 5 + 2, none⟩ = some (.string nd.op) := by rw [HBX.out.cell (p := ⟨gn, q * 5 + 2, none⟩) hgn3]; exact n2
            have d4 : wx.cell? ⟨gn, q * 5 + 3, none⟩ = some (.int .i64 nd.at_) := by rw [HBX.out.cell (p := ⟨gn, q * 5 + 3, none⟩) hgn3]; exact n3
            have hql : q < ns.length := (List.getElem?_eq_some_iff.1 hnd).1
            have r0 : (0 : Int) ≤ (q : Int) := by omega
            have r1 : (q : Int) < (ns.length : Int) := by omega
            have r2 : (0 : Int) ≤ (j : Int) := by omega
            have r3 : (j : Int) < (ts.length : Int) := by omega
            clear hq hnd htr n2 n3 t0 t1 s0 s1 s2 hv2 hv3 hcells
            go_wp2
            go_quiet (fail)
            go_wp2
            clear r0 r1 r2 r3
            exact ⟨⟨j + 1, by omega, by go_num, drewN_below HBX.out _⟩, by simp [intOf]; omega⟩
        · obtain rfl : j = ts.length := by omega
          have HA3 := Lib.hid (awake_any wx (((HG1.out.kept HB2.out).kept HB3.out).kept HBX.out))
          go_wp2_with fail
          refine HA3.out.mono ?_
          rintro e w4 ⟨rfl, hb4⟩
          have hfin : Below w.heap.size w w4 := HB1.out.trans ((HB2.out.mono hs1).trans ((HB3.out.mono (Nat.le_trans hs1 hs2)).trans ((HBX.out.mono (Nat.le_trans hs1 (Nat.le_trans hs2 hs3))).trans (hb4.mono (Nat.le_trans hs1 (Nat.le_trans hs2 (Nat.le_trans hs3 HBX.out.size)))))))
          clear hb4
          go_wp2
          go_ret
          exact ⟨rfl, hfin⟩

set_option maxRecDepth 100000 in
theorem lifted (os : Os) (started : os.Started) (H : Type) (enc : TypeId × Value → H) :
    ReturnsInHanded {} Tryd.checked os 5 .any (fun w args => (Rows.faultTrailsSpec.pre enc Tryd.prog Tryd.f5 [] false w args ∧ laidMetH Tryd.prog [("errors.errorType", Rows.laid_errors_errorType)] w) ∧ sizedMet enc Tryd.prog Tryd.f5 (OpenSpec.ofChange Rows.faultTrailsSpec) false w args) (Rows.faultTrailsSpec.post enc Tryd.prog Tryd.f5 false true false false) := by
  refine returnsInHanded_of_change_and (C := Tryd.checked) (X := (fun w _ => laidMetH Tryd.prog [("errors.errorType", Rows.laid_errors_errorType)] w)) (fun _ _ _ hh h => h.of_heap hh) own started (by kernel_rfl) Tryd.func5
    (ChangeSpec.witness_at (enc := enc) (C := Tryd.checked) (os := os) (X := (fun w _ => laidMetH Tryd.prog [("errors.errorType", Rows.laid_errors_errorType)] w)) false (laidWorld os) #[.slice none 0 0] 8 rfl (by kernel_rfl) (by kernel_rfl) (by kernel_rfl) (by kernel_rfl) (by kernel_rfl) (laidWorld_met os _)) ?_
  intro W base args ds gs before hval0 hW _ hsz0 hL _
  have hval : ∀ (j : Nat) t v, Tryd.f5.params[j]? = some t → args[j]? = some v → Value.okWide Tryd.prog W .any base t v := hval0
  have hW' := hW
  obtain ⟨p, q, hA0, hV, rfl, hfz, hnd⟩ := hW
  have hA : DataW.TrodAll enc Tryd.prog W 0 (fun _ => true) true Tryd.f5.params.toList args.toList ds p := hA0
  rw [Tryd.params5] at hA hval
  obtain ⟨v0, vs0, d0, ds0, p0, q0, hargs, rfl, rfl, h0, r0⟩ := trodAll_cons hA
  obtain ⟨rfl, rfl, rfl⟩ := trodAll_nil r0
  obtain rfl : args = #[v0] := by cases args; simp_all
  obtain ⟨rfl, rfl⟩ := trodVars_none hV
  have k0 := h0
  have lt0 : ∀ x ∈ p0, x.block < W.heap.size := by obtain ⟨m, hm⟩ := k0; exact DataW.trod_lt m _ _ _ hm
  obtain ⟨a0, len0, cap0, rfl, l0, w0⟩ := OP.open_parts (hval 0 22 v0 rfl rfl) h0
  have hg := handle_of_laid hL
  clear hA0 hval0 hsz0
  refine (walk a0 len0 cap0 W l0 w0 hg).mono fun e W' ⟨he, bel⟩ => ?_
  subst he
  exact ⟨_, rfl, _, _, _, [], _, [], hW', trodAll_mk1 (shut_bool Tryd.underlying4 _), (trodAll_cons_mk (Below.trod laidOut (by kernel_rfl) (of_decide_eq_true (by kernel_rfl)) k0 bel lt0) trodAll_mk0), rfl, bel.frame _, fun h => by cases h⟩

theorem over : Rows.FaultTrailsSaid :=
  OpenClaim.holds_of_wide 5 Tryd.f5 rfl rfl rfl rfl rfl rfl rfl ⟨rfl, rfl, rfl, rfl, rfl⟩ rfl rfl rfl rfl rfl (by kernel_rfl) Tryd.func5 (by kernel_rfl)
    (of_decide_eq_true (by kernel_rfl)) (by unfold Func.isWrapper; first | (rw [if_pos (by decide +kernel)]; kernel_rfl) | (rw [if_neg (by decide +kernel)]; exact ⟨rfl, rfl⟩))
    (fun os started H enc _ => lifted os started H enc)

/-- The card: the row, its one listed variable tied to the program's text. -/
theorem proved : Rows.FaultTrailsCardSaid :=
  Claim7.holds_tied_plain_at .later [] [.handle] true _ true
    over (fun _ h => by cases h) (by kernel_rfl) (fun _ h => by cases h) faultTrails_row_tie rfl ⟨rfl, rfl⟩ (by kernel_rfl) rfl
    (fun f fn hf hfn => by
      obtain rfl : f = 5 := Option.some.inj ((show Tryd.prog.funcNamed "scoria/scorialaw03.FaultTrails" = some 5 by kernel_rfl).symm.trans hf) |>.symm
      obtain rfl : fn = Tryd.f5 := (Option.some.inj (Tryd.func5.symm.trans hfn)).symm
      exact ⟨by kernel_rfl, fun j t ht => by
        rw [Tryd.params5] at ht
        have hm : t ∈ [22] := by simpa using Array.mem_of_getElem? ht
        have hall : ([22].all fun u => !Tryd.prog.wantsStandIn u) = true := by kernel_rfl
        exact (show Tryd.prog.wantsStandIn t = false by simpa using List.all_eq_true.1 hall t hm)⟩)
    (by kernel_rfl)
#print axioms proved
end Go.Proofs.YtnbfejombealiaaDoor.faultTrails
