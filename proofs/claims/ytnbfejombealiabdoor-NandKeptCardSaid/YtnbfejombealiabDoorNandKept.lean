/- The law NandKept holds: its Go text answers true for every input, and leaves its arguments as they were. No condition beyond the statement's own (errors.errorType holds what start-up lays; the card ties it to the program's text). -/
import Derived.Test.YtnbfejombealiabDoorRows
import Derived.Test.YtnbfejombealiabDoorCards
import Derived.Test.YtnbfejombealiabDoorTie
import Derived.Test.YtnbfejombealiabDoorOpen4
import Derived.Test.YtnbfejombealiabDoorAwake4
import Derived.Test.YtnbfejombealiabDoorNdEq
import Derived.Test.YtnbfejombealiabDoorActs4
import Derived.Test.YtnbfejombealiabDoorNdK
import Derived.Outline
import Derived.IntWalk
import Derived.Deep.QuietTactic
import Derived.BigQuiet
import Derived.Deep.RegionWith
import Derived.ProofKit
import Derived.OpenShut
import Derived.ShutString
import Derived.ChangeOld
import Derived.ChangeSame
import Derived.ChangeVars
import Derived.Below
import Derived.SizedLaws
import Derived.JoinedOf
import Derived.RowKitTokens
import Derived.LaidLaws
import Derived.LaidHandle
import Derived.LaidMore
import Derived.Stop.Joined
import Derived.SevenTiedAt
namespace Go.Proofs.YtnbfejombealiabDoor.nandKept
open Go.ChangeShapes Go.WideShapes Go.ChangeAt Go.RowKit
open Go.ChangeMaps (open_string shut_string)
open Go.Proofs.YtnbfejombealiabDoor
set_option linter.unusedVariables false
set_option linter.unusedSimpArgs false

theorem own : ownKnob Tryd.prog.godebug = none := by kernel_rfl
theorem laidOut : laidOutB Tryd.prog = true := by kernel_rfl
theorem et : Tryd.prog.globalNamed "errors.errorType" = some 0 := by kernel_rfl
theorem rt : (Tryd.prog.cutTypes.find? (·.1 == "internal/reflectlite.rtype")).map (·.2) = some 100 := by kernel_rfl
theorem oneRow : ((List.range 142).filter fun t => Tryd.prog.rowNamed t [101, 114, 114, 111, 114]) = [25] := by kernel_rfl
theorem tsize : Tryd.prog.types.size = 142 := by kernel_rfl
/-- What the condition gives the walk. -/
theorem handle_of_laid {W : World} (h : laidMetH Tryd.prog [("errors.errorType", Rows.laid_errors_errorType)] W) : ER.ErrorType W := by
  have h' : laidMet Tryd.prog [] W ∧ handlesMet Tryd.prog [("errors.errorType", Rows.laid_errors_errorType)] W := h
  obtain ⟨name, u, ty, e1, e2, e3, e4, e5⟩ := h'.2 _ (List.mem_singleton.2 rfl)
  have en : name = [101, 114, 114, 111, 114] := (Option.some.inj e1).symm
  subst en
  obtain rfl := Option.some.inj (rt.symm.trans e2)
  have hm : ty ∈ (List.range 142).filter fun t => Tryd.prog.rowNamed t [101, 114, 114, 111, 114] := List.mem_filter.2 ⟨List.mem_range.2 (by rw [← tsize]; exact e3), e4⟩
  rw [oneRow] at hm
  obtain rfl := List.mem_singleton.1 hm
  have hh : typeHandle Tryd.prog 25 = .pointer (some ⟨1, 25, none⟩) := by kernel_rfl
  rw [hh] at e5
  have := World.var?_cell et e5 0
  unfold ER.ErrorType
  simpa using this
/-- A world that meets the condition: the settled one, the variable's cell laid. -/
noncomputable def laidWorld (os : Os) : World :=
  let w0 := World.holding Tryd.prog os ⟨#[], #[], []⟩
  { w0 with heap := w0.heap.modify 0 fun
      | .cells _ t frozen => .cells #[.iface 100 (.agg #[.pointer (some ⟨1, 25, none⟩)])] t frozen
      | o => o }
theorem laidWorld_met (os : Os) (args : Array Value) : laidMetH Tryd.prog [("errors.errorType", Rows.laid_errors_errorType)] ((laidWorld os).forCall (fun _ _ => 0) ⟨#[], args, []⟩).memory :=
  laidMetH_of_parts (laidMet_nil _ _) (by kernel_rfl)

open ER MM OP ND

theorem map_get (l : List ByteArray) {i : Nat} {t : ByteArray} (h : l[i]? = some t) : (l.map Value.string)[i]? = some (.string t) := by
  rw [List.getElem?_map, h]; rfl
structure Lp (w wr : World) (g : Nat) (d : Nd) (l : List ByteArray) (v : Value) (n : Nat) : Prop where
  st : St w wr g d
  kp : Kp d l
  ops : d.ops ≤ n
  own : OwnK w wr g v l

set_option maxHeartbeats 8000000 in
set_option maxRecDepth 100000 in
theorem walk (a0 : Option Addr) (len0 cap0 : Nat) (C0 : Nat → ByteArray) (a1 : Option Addr) (len1 cap1 : Nat) (w : World) (l0 : len0 ≤ maxLen) (w0 : OP.Strs w a0 len0 C0) (l1 : len1 ≤ maxLen) (w1 : OP.Rows w a1 len1 4 (OP.ActP w)) (hg : ER.ErrorType w) :
    Calls Tryd.prog 4 #[.slice a0 len0 cap0, .slice a1 len1 cap1] w fun e w' => e = .returned (.bool true) ∧ Below w.heap.size w w' := by
  obtain ⟨i0, hi, hz0, hz1, hz2⟩ := info_parts info_str
  obtain ⟨X, M, hX⟩ := acts_of w1
  have HT := Lib.hid w0
  have HX := Lib.hid hX
  have HG := Lib.hid hg
  unfold maxLen at l0 l1
  clear w0 w1 hX hg
  go_enter Tryd.func4, Tryd.ntmps4
  go_wp2_with fail
  refine (plain_any _).mono ?_
  rintro e w1 ⟨rfl, hb1⟩
  go_wp2_with fail
  refine (st_new 16 8 (by omega) w hb1).mono ?_
  clear hb1
  rintro e w2 ⟨g, rfl, h2, _⟩
  have H2 := Lib.hid h2
  clear h2
  go_wp2_with fail
  refine (ND.awake_any w2 (H2.out.et HG.out)).mono ?_
  rintro e w3 ⟨rfl, hb3⟩
  have H3 := Lib.hid (H2.out.below hb3)
  clear hb3
  go_wp2
  have hstart : Lp w w3 g (fresh 16 8) [] (.slice none 0 0) 0 := ⟨H3.out, ⟨rfl, rfl, Nat.zero_le _, rfl, rfl, rfl, fun i t h => by simp at h⟩, Nat.le_refl _, World.ownsRow_nil _ _ _ _, fun b hb => by simp [Value.ownBlock] at hb⟩
  have HSTART := Lib.hid hstart
  clear hstart
  go_loopw [7, 8] (fun s7 s8 wr => ∃ (k : Nat) (d : Nd) (l : List ByteArray), k ≤ len0 ∧ s8 = .int .i64 k ∧ Lp w wr g d l s7 l.length ∧ Quiet d) (fun _ i _ => len0 - (intOf i).toNat)
  case atStart => exact ⟨0, _, [], Nat.zero_le _, rfl, HSTART.out, ⟨rfl, rfl⟩⟩
  case round =>
    obtain ⟨k, d, l, hk, rfl, hlp, hq⟩ := hrel
    obtain ⟨A7, c7, rfl⟩ := own_slice hlp.own.1
    have LP := Lib.hid hlp
    have HQ := Lib.hid hq
    clear hlp hq HSTART
    have k0 : (0 : Int) ≤ (k : Int) := by omega
    by_cases hlt : k < len0 ∧ l.length < 8
    · obtain ⟨hlt, hl8⟩ := hlt
      have k1 : (k : Int) < (len0 : Int) := by omega
      have k2 : (l.length : Int) < 8 := by omega
      have hw1 : IntKind.i64.wrap ((k : Int) + 1) = (k : Int) + 1 := IntWalk.i64_in _ (by omega)
      rcases HT.out with h0 | ⟨b, off, rfl, hb, hc⟩
      · omega
      · obtain ⟨t, ht⟩ : ∃ t, t = C0 k := ⟨_, rfl⟩
        obtain ⟨hcell, hts⟩ := hc k hlt
        rw [← ht] at hcell hts
        have HCELL := Lib.hid hcell
        have y0 : wr.cell? ⟨b, off + k, none⟩ = some (.string t) := by rw [LP.out.st.bel.cell (p := ⟨b, off + k, none⟩) hb]; exact hcell
        unfold maxLen at hts
        clear hc ht hcell
        by_cases h128 : t.size ≤ 128
        · have k3 : (t.size : Int) ≤ 128 := by omega
          obtain ⟨d', hd', hkp', hq', hops'⟩ := LP.out.kp.more HQ.out hl8 h128
          have OPS := Lib.hid (show d.ops ≤ 4611686018427387904 by have := LP.out.ops; omega)
          have WF := Lib.hid (show (Lit.int .i64 (l.length : Int)).wf = true from WalkArith.wf_i64 (by omega))
          have HD := Lib.hid hd'
          have HKP := Lib.hid hkp'
          have HQ' := Lib.hid hq'
          have HOPS := Lib.hid hops'
          clear hd' hkp' hq' hops' h128
          go_wp2_with fail
          refine (stk_program LP.out.st OPS.out (l.length : Int) WF.out t).mono ?_
          rintro e w5 ⟨v5, rfl, he5, h5, _, kp5⟩
          rw [HD.out] at he5 h5
          obtain rfl := he5.none rfl
          have hown5 := LP.out.own.keep kp5
          have y5 : w5.cell? ⟨b, off + k, none⟩ = some (.string t) := by rw [h5.bel.cell (p := ⟨b, off + k, none⟩) hb]; exact HCELL.out
          have hbel6 : Below w5.heap.size w5 (w5.alloc (.cells #[.string t] 9)) := (Below.refl _ _).alloc (Nat.le_refl _) _
          have hown6 := hown5.keep (Keeps.below h5 hbel6)
          have H6 := Lib.hid (h5.below hbel6)
          have HO6 := Lib.hid hown6
          have SZ6 := Lib.hid (Nat.le_trans h5.bel.size hbel6.size)
          clear h5 he5 kp5 hown5 hbel6 hown6
          go_wp2_with (at_builtin; refine wpList_append_lies _ rfl _ _ 43 rfl w.heap.size 9 i0 (.string ⟨#[]⟩) 1 16 Tryd.underlying43 hi hz0 hz1 hz2 rfl (by decide) _ _ _ rfl HO6.out.1 ⟨w5.heap.size, 0, none⟩ 1 1 [.string t] rfl rfl ?c1 ?c2 (by decide) ?c3 ?c4 ?c5 _ rfl ?_)
          case c1 => exact new_cells _ _ _
          case c2 => intro u hu; simp at hu; subst hu; rfl
          case c3 => unfold maxLen; omega
          case c4 => omega
          case c5 => exact SZ6.out
          intro g7 c8 w7 hown7 hgrow hwhere _
          have hrow : ∀ q, (Value.slice A7 l.length c7).ownBlock = some q → Out (w5.alloc (.cells #[.string t] 9)) g q ∧ w.heap.size ≤ q := fun q hq => ⟨HO6.out.2 q hq, (HO6.out.1.lt q hq).1⟩
          have h7 := H6.out.grown hgrow hrow
          have hout : Out w7 g g7 := by
            refine Out.grown H6.out hgrow hrow ?_
            rcases hwhere with h | h
            · exact HO6.out.2 g7 h
            · exact Out.new H6.out (by rw [h]; simp)
          have hlp7 : Lp w w7 g d' (l ++ [t]) (.slice (some ⟨g7, 0, none⟩) (l.length + 1) c8) (l ++ [t]).length := by
            refine ⟨h7, HKP.out, by rw [HOPS.out]; simp; exact LP.out.ops, ?_, fun q hq => ?_⟩
            · rw [List.map_append, List.length_append]
              exact hown7
            · simp [Value.ownBlock] at hq
              subst hq
              exact hout
          have LP7 := Lib.hid hlp7
          clear hown7 hgrow hwhere hrow h7 hout hlp7
          go_wp2
          go_roundw
          case rel => exact ⟨k + 1, d', l ++ [t], by omega, by go_num, LP7.out, HQ'.out⟩
          case measure => simp [intOf]; omega
        · have k3 : ¬ (t.size : Int) ≤ 128 := by omega
          clear h128
          go_wp2
          go_roundw
          case rel => exact ⟨k + 1, d, l, by omega, by go_num, LP.out, HQ.out⟩
          case measure => simp [intOf]; omega
    · have hex : (¬ (k : Int) < (len0 : Int)) ∨ ((k : Int) < (len0 : Int) ∧ ¬ (l.length : Int) < 8) := by omega
      have LP0 : Hid (Lp w wr g d l (.slice A7 l.length c7) 8) := Lib.hid ⟨LP.out.st, LP.out.kp, Nat.le_trans LP.out.ops LP.out.kp.few, LP.out.own⟩
      have hl8 := LP.out.kp.few
      clear hlt LP HQ
      have LQ : Hid (∀ (wr : World) (d : Nd) (k : Nat), Lp w wr g d l (.slice A7 l.length c7) (8 + k) → True) := Lib.hid fun _ _ _ _ => trivial
      rcases hex with j1 | ⟨j1, j2⟩
      all_goals
        clear LQ
        go_wp2
        go_loopw [9] (fun i wx => ∃ (k : Nat) (d : Nd), k ≤ len1 ∧ k ≤ 120 ∧ i = .int .i64 k ∧ Lp w wx g d l (.slice A7 l.length c7) (8 + k)) (fun i _ => len1 - (intOf i).toNat)
        case atStart => exact ⟨0, d, Nat.zero_le _, by omega, rfl, LP0.out⟩
        case round =>
          obtain ⟨k, d, hk, hk2, rfl, hlp⟩ := hrel
          have LP := Lib.hid hlp
          clear hlp LP0
          have k0 : (0 : Int) ≤ (k : Int) := by omega
          by_cases hlt : k < len1 ∧ k < 120
          · obtain ⟨hlt, hlt2⟩ := hlt
            have k1 : (k : Int) < (len1 : Int) := by omega
            have k2 : (k : Int) < 120 := by omega
            have hw1 : IntKind.i64.wrap ((k : Int) + 1) = (k : Int) + 1 := IntWalk.i64_in _ (by omega)
            rcases HX.out with h0 | ⟨b, off, rfl, hb, hc⟩
            · omega
            · have hact := (hc k hlt).kept LP.out.st.bel hb
              obtain ⟨x, hx⟩ : ∃ x, x = X k := ⟨_, rfl⟩
              rw [← hx] at hact
              obtain ⟨x0, x1, x2, x3, wk, wa, ht, hpl, hrow⟩ := hact
              have y0 : wr.cell? ⟨b, off + k * 4, none⟩ = some (.int .i64 x.kind) := x0
              have WK := Lib.hid wk
              have WA := Lib.hid wa
              have HTX := Lib.hid ht
              have HPL := Lib.hid hpl
              have HROW := Lib.hid hrow
              have OPS := Lib.hid (show d.ops ≤ 4611686018427387904 by have := LP.out.ops; omega)
              clear hc hx x0 wk wa ht hpl hrow
              go_wp2_with fail
              obtain ⟨W1, hW1⟩ : ∃ W1, W1 = wr.alloc (.cells #[.int .i64 x.kind, .int .i64 x.at_, .string x.txt, .slice x.pa x.plen x.pcap] 35) := ⟨_, rfl⟩
              have hb1 : Below wr.heap.size wr W1 := by rw [hW1]; exact (Below.refl _ _).alloc (Nat.le_refl _) _
              have hk1 : Blk W1 wr.heap.size 35 #[.int .i64 x.kind, .int .i64 x.at_, .string x.txt, .slice x.pa x.plen x.pcap] := by rw [hW1]; exact Blk.new wr _ _
              rw [← hW1]
              have hrow1 := HROW.out.kept_below (hb1.mono LP.out.st.bel.size)
              have K1 := Lib.hid hk1
              have B1 := Lib.hid hb1
              clear hW1 hk1 hb1
              refine (light_any x _ W1 _ hrow1 HPL.out HTX.out).mono ?_
              rintro e w4 ⟨bl, rfl, hb4⟩
              have hbr4 : Below wr.heap.size wr w4 := B1.out.trans (hb4.mono B1.out.size)
              have hlp4 : Lp w w4 g d l (.slice A7 l.length c7) (8 + k) := ⟨LP.out.st.below hbr4, LP.out.kp, LP.out.ops, LP.out.own.keep (Keeps.below LP.out.st hbr4)⟩
              have hlp4' : Lp w w4 g d l (.slice A7 l.length c7) (8 + (k + 1)) := ⟨hlp4.st, hlp4.kp, by have := hlp4.ops; omega, hlp4.own⟩
              have k4 := Errs.below hb4 _ _ _ rfl K1.out
              have LP4 := Lib.hid hlp4
              have LP4' := Lib.hid hlp4'
              have K4 := Lib.hid k4
              have B4 := Lib.hid hbr4
              clear hb4 hbr4 hlp4 hlp4' k4 hrow1 y0 x1 x2 x3
              cases bl with
              | false =>
                go_wp2
                go_roundw
                case rel => exact ⟨k + 1, d, by omega, by omega, by go_num, LP4'.out⟩
                case measure => simp [intOf]; omega
              | true =>
                have g0 : w4.cell? ⟨wr.heap.size, 0, none⟩ = some (.int .i64 x.kind) := K4.out.cell 0
                have g1 : w4.cell? ⟨wr.heap.size, 1, none⟩ = some (.int .i64 x.at_) := K4.out.cell 1
                have g2 : w4.cell? ⟨wr.heap.size, 2, none⟩ = some (.string x.txt) := K4.out.cell 2
                have g3 : w4.cell? ⟨wr.heap.size, 3, none⟩ = some (.slice x.pa x.plen x.pcap) := K4.out.cell 3
                by_cases c0 : x.kind = 0
                · have q0 : (x.kind == 0) = true := by simp [c0]
                  have q1 : (x.kind == 1) = false := by simp [c0]
                  by_cases hA : x.at_ < 8
                  · clear c0
                    go_wp2
                    go_roundw
                    case rel => exact ⟨k + 1, d, by omega, by omega, by go_num, LP4'.out⟩
                    case measure => simp [intOf]; omega
                  · have HA := Lib.hid hA
                    clear c0
                    go_wp2_with fail
                    refine (stk_program LP4.out.st OPS.out x.at_ WA.out x.txt).mono ?_
                    rintro e w5 ⟨v5, rfl, _, h5, _, kp5⟩
                    have LP5 : Hid (Lp w w5 g (d.program x.at_ x.txt).1 l (.slice A7 l.length c7) (8 + (k + 1))) := Lib.hid ⟨h5, LP4.out.kp.program x.at_ (by have := HA.out; omega) x.txt, Nat.le_trans (program_ops d _ _) (by have := LP4.out.ops; omega), LP4.out.own.keep kp5⟩
                    clear h5 kp5
                    go_wp2
                    go_roundw
                    case rel => exact ⟨k + 1, _, by omega, by omega, by go_num, LP5.out⟩
                    case measure => simp [intOf]; omega
                · have q0 : (x.kind == 0) = false := by simp [c0]
                  by_cases c1 : x.kind = 1
                  · have q1 : (x.kind == 1) = true := by simp [c1]
                    by_cases hA : x.at_ < 1
                    · clear c0 c1
                      go_wp2
                      go_roundw
                      case rel => exact ⟨k + 1, d, by omega, by omega, by go_num, LP4'.out⟩
                      case measure => simp [intOf]; omega
                    · have HA := Lib.hid hA
                      clear c0 c1
                      go_wp2_with fail
                      refine (stk_erase LP4.out.st OPS.out x.at_ WA.out).mono ?_
                      rintro e w5 ⟨v5, rfl, _, h5, _, kp5⟩
                      have LP5 : Hid (Lp w w5 g (d.erase x.at_).1 l (.slice A7 l.length c7) (8 + (k + 1))) := Lib.hid ⟨h5, LP4.out.kp.erase x.at_ (by have := HA.out; omega), Nat.le_trans (erase_ops d _) (by have := LP4.out.ops; omega), LP4.out.own.keep kp5⟩
                      clear h5 kp5
                      go_wp2
                      go_roundw
                      case rel => exact ⟨k + 1, _, by omega, by omega, by go_num, LP5.out⟩
                      case measure => simp [intOf]; omega
                  · have q1 : (x.kind == 1) = false := by simp [c1]
                    by_cases c3 : x.kind = 3
                    · have q3 : (x.kind == 3) = true := by simp [c3]
                      clear c0 c1 c3
                      go_wp2_with fail
                      have hrow4 := HROW.out.kept_below (B4.out.mono LP.out.st.bel.size)
                      refine (stk_plan_in LP4.out.st x.pa x.plen x.pcap HPL.out _ hrow4).mono ?_
                      rintro e w5 ⟨rfl, h5, _, kp5⟩
                      have LP5 : Hid (Lp w w5 g (d.planned (misL (M k) x.plen)) l (.slice A7 l.length c7) (8 + (k + 1))) := Lib.hid ⟨h5, LP4.out.kp.planned _, by have : d.ops ≤ _ := LP4.out.ops; show d.ops ≤ _; omega, LP4.out.own.keep kp5⟩
                      clear h5 kp5 hrow4
                      go_wp2
                      go_roundw
                      case rel => exact ⟨k + 1, _, by omega, by omega, by go_num, LP5.out⟩
                      case measure => simp [intOf]; omega
                    · have q3 : (x.kind == 3) = false := by simp [c3]
                      by_cases c4 : x.kind = 4
                      · have q4 : (x.kind == 4) = true := by simp [c4]
                        clear c0 c1 c3 c4
                        go_wp2_with fail
                        refine (stk_up LP4.out.st).mono ?_
                        rintro e w5 ⟨rfl, h5, _, kp5⟩
                        have LP5 : Hid (Lp w w5 g d.up l (.slice A7 l.length c7) (8 + (k + 1))) := Lib.hid ⟨h5, LP4.out.kp.up, by have : d.ops ≤ _ := LP4.out.ops; show d.ops ≤ _; omega, LP4.out.own.keep kp5⟩
                        clear h5 kp5
                        go_wp2
                        go_roundw
                        case rel => exact ⟨k + 1, _, by omega, by omega, by go_num, LP5.out⟩
                        case measure => simp [intOf]; omega
                      · have q4 : (x.kind == 4) = false := by simp [c4]
                        clear c0 c1 c3 c4
                        go_wp2
                        go_roundw
                        case rel => exact ⟨k + 1, d, by omega, by omega, by go_num, LP4'.out⟩
                        case measure => simp [intOf]; omega
          · have hex : (¬ (k : Int) < (len1 : Int)) ∨ ((k : Int) < (len1 : Int) ∧ ¬ (k : Int) < 120) := by omega
            clear hlt
            rcases hex with j3 | ⟨j3, j4⟩
            all_goals
              go_wp2_with fail
              refine (stk_up LP.out.st).mono ?_
              rintro e w5 ⟨rfl, h5, _, kp5⟩
              have LP5 : Hid (Lp w w5 g d.up l (.slice A7 l.length c7) (8 + k)) := Lib.hid ⟨h5, LP.out.kp.up, LP.out.ops, LP.out.own.keep kp5⟩
              clear h5 kp5
              go_wp2
              go_loopw [11] (fun i wx => ∃ j : Nat, j ≤ l.length ∧ i = .int .i64 j ∧ Lp w wx g d.up l (.slice A7 l.length c7) (8 + k)) (fun i _ => l.length - (intOf i).toNat)
              case atStart => exact ⟨0, Nat.zero_le _, rfl, LP5.out⟩
              case round =>
                obtain ⟨j, hj, rfl, hlp⟩ := hrel
                have LPJ := Lib.hid hlp
                clear hlp
                have e3 : (0 : Int) ≤ (j : Int) := by omega
                by_cases hlt : j < l.length
                · have e4 : (j : Int) < (l.length : Int) := by omega
                  have hw1 : IntKind.i64.wrap ((j : Int) + 1) = (j : Int) + 1 := IntWalk.i64_in _ (by omega)
                  obtain ⟨t, ht⟩ : ∃ t, l[j]? = some t := ⟨_, List.getElem?_eq_getElem hlt⟩
                  have hrd := LPJ.out.kp.read (by rfl) ht
                  have RD := Lib.hid hrd
                  have WJ := Lib.hid (show (Lit.int .i64 (j : Int)).wf = true from WalkArith.wf_i64 (by omega))
                  have HTJ := Lib.hid ht
                  clear hrd ht
                  go_wp2_with fail
                  refine (stk_read LPJ.out.st (j : Int) WJ.out).mono ?_
                  rintro e w6 ⟨v6, rfl, he6, hb6⟩
                  rw [RD.out] at he6
                  obtain rfl := he6.none rfl
                  rw [RD.out]
                  have hlp6 : Lp w w6 g d.up l (.slice A7 l.length c7) (8 + k) := ⟨LPJ.out.st.below hb6, LPJ.out.kp, LPJ.out.ops, LPJ.out.own.keep (Keeps.below LPJ.out.st hb6)⟩
                  have LP6 := Lib.hid hlp6
                  obtain ⟨g7, c8, heq, _, _⟩ := own_form hlp6.own.1 (by omega)
                  injection heq with heqA _ heqc
                  subst heqA
                  have f6 : w6.cell? ⟨g7, j, none⟩ = some (.string t) := by
                    have := hlp6.own.1
                    rw [heqc] at this
                    exact own_cells this j _ (map_get l HTJ.out)
                  clear he6 hb6 hlp6 heqc
                  go_wp2
                  go_roundw
                  case rel => exact ⟨j + 1, by omega, by go_num, LP6.out⟩
                  case measure => simp [intOf]; omega
                · have e4 : ¬ (j : Int) < (l.length : Int) := by omega
                  obtain rfl : j = l.length := by omega
                  have hn : d.up.nextAt 0 = (l.length : Int) := by
                    unfold Nd.nextAt
                    rw [show (0 : Int) = ((0 : Nat) : Int) from rfl, has_block (by rw [LPJ.out.kp.B]; omega), if_pos rfl, show (((0 : Nat) : Int)).toNat = 0 by omega, LPJ.out.kp.next]
                  have hwn : d.up.wornAt 0 = 0 := by
                    unfold Nd.wornAt
                    rw [show (0 : Int) = ((0 : Nat) : Int) from rfl, has_block (by rw [LPJ.out.kp.B]; omega), if_pos rfl, show (((0 : Nat) : Int)).toNat = 0 by omega, LPJ.out.kp.worn]
                  have hbd : d.up.badAt 0 = false := by
                    unfold Nd.badAt
                    rw [show (0 : Int) = ((0 : Nat) : Int) from rfl, has_block (by rw [LPJ.out.kp.B]; omega), if_pos rfl, show (((0 : Nat) : Int)).toNat = 0 by omega, LPJ.out.kp.bad]
                  have HN := Lib.hid hn
                  have HW := Lib.hid hwn
                  have HBD := Lib.hid hbd
                  clear hn hwn hbd
                  go_wp2_with fail
                  refine (st_next LPJ.out.st 0).mono ?_
                  rintro e w6 ⟨rfl, rfl⟩
                  rw [HN.out]
                  go_wp2_with fail
                  refine (st_worn LPJ.out.st 0).mono ?_
                  rintro e w6 ⟨rfl, rfl⟩
                  rw [HW.out]
                  go_wp2_with fail
                  refine (st_bad LPJ.out.st 0).mono ?_
                  rintro e w6 ⟨rfl, rfl⟩
                  rw [HBD.out]
                  go_wp2
                  go_ret
                  exact ⟨rfl, LPJ.out.st.bel⟩

set_option maxRecDepth 100000 in
theorem lifted (os : Os) (started : os.Started) (H : Type) (enc : TypeId × Value → H) :
    ReturnsInHanded {} Tryd.checked os 4 .any (fun w args => (Rows.nandKeptSpec.pre enc Tryd.prog Tryd.f4 [] false w args ∧ laidMetH Tryd.prog [("errors.errorType", Rows.laid_errors_errorType)] w) ∧ sizedMet enc Tryd.prog Tryd.f4 (OpenSpec.ofChange Rows.nandKeptSpec) false w args) (Rows.nandKeptSpec.post enc Tryd.prog Tryd.f4 false true false false) := by
  refine returnsInHanded_of_change_and (C := Tryd.checked) (X := (fun w _ => laidMetH Tryd.prog [("errors.errorType", Rows.laid_errors_errorType)] w)) (fun _ _ _ hh h => h.of_heap hh) own started (by kernel_rfl) Tryd.func4
    (ChangeSpec.witness_at (enc := enc) (C := Tryd.checked) (os := os) (X := (fun w _ => laidMetH Tryd.prog [("errors.errorType", Rows.laid_errors_errorType)] w)) false (laidWorld os) #[.slice none 0 0, .slice none 0 0] 8 rfl (by kernel_rfl) (by kernel_rfl) (by kernel_rfl) (by kernel_rfl) (by kernel_rfl) (laidWorld_met os _)) ?_
  intro W base args ds gs before hval0 hW _ hsz0 hL _
  have hval : ∀ (j : Nat) t v, Tryd.f4.params[j]? = some t → args[j]? = some v → Value.okWide Tryd.prog W .any base t v := hval0
  have hW' := hW
  obtain ⟨p, q, hA0, hV, rfl, hfz, hnd⟩ := hW
  have hA : DataW.TrodAll enc Tryd.prog W 0 (fun _ => true) true Tryd.f4.params.toList args.toList ds p := hA0
  rw [Tryd.params4] at hA hval
  obtain ⟨v0, vs0, d0, ds0, p0, q0, hargs, rfl, rfl, h0, r0⟩ := trodAll_cons hA
  obtain ⟨v1, vs1, d1, ds1, p1, q1, rfl, rfl, rfl, h1, r1⟩ := trodAll_cons r0
  obtain ⟨rfl, rfl, rfl⟩ := trodAll_nil r1
  obtain rfl : args = #[v0, v1] := by cases args; simp_all
  obtain ⟨rfl, rfl⟩ := trodVars_none hV
  have k0 := h0
  have lt0 : ∀ x ∈ p0, x.block < W.heap.size := by obtain ⟨m, hm⟩ := k0; exact DataW.trod_lt m _ _ _ hm
  obtain ⟨a0, len0, cap0, C0, rfl, l0, w0⟩ := OP.open_strs (hval 0 43 v0 rfl rfl) h0
  have k1 := h1
  have lt1 : ∀ x ∈ p1, x.block < W.heap.size := by obtain ⟨m, hm⟩ := k1; exact DataW.trod_lt m _ _ _ hm
  obtain ⟨a1, len1, cap1, rfl, l1, w1⟩ := OP.open_acts (hval 1 22 v1 rfl rfl) h1
  have hg := handle_of_laid hL
  clear hA0 hval0 hsz0
  refine (walk a0 len0 cap0 C0 a1 len1 cap1 W l0 w0 l1 w1 hg).mono fun e W' ⟨he, bel⟩ => ?_
  subst he
  exact ⟨_, rfl, _, _, _, [], _, [], hW', trodAll_mk1 (shut_bool Tryd.underlying4 _), (trodAll_cons_mk (Below.trod laidOut (by kernel_rfl) (of_decide_eq_true (by kernel_rfl)) k0 bel lt0) (trodAll_cons_mk (Below.trod laidOut (by kernel_rfl) (of_decide_eq_true (by kernel_rfl)) k1 bel lt1) trodAll_mk0)), rfl, bel.frame _, fun h => by cases h⟩

theorem over : Rows.NandKeptSaid :=
  OpenClaim.holds_of_wide 4 Tryd.f4 rfl rfl rfl rfl rfl rfl rfl ⟨rfl, rfl, rfl, rfl, rfl⟩ rfl rfl rfl rfl rfl (by kernel_rfl) Tryd.func4 (by kernel_rfl)
    (of_decide_eq_true (by kernel_rfl)) (by unfold Func.isWrapper; first | (rw [if_pos (by decide +kernel)]; kernel_rfl) | (rw [if_neg (by decide +kernel)]; exact ⟨rfl, rfl⟩))
    (fun os started H enc _ => lifted os started H enc)

/-- The card: the row, its one listed variable tied to the program's text. -/
theorem proved : Rows.NandKeptCardSaid :=
  Claim7.holds_tied_plain_at .later [] [.handle] true _ true
    over (fun _ h => by cases h) (by kernel_rfl) (fun _ h => by cases h) nandKept_row_tie rfl ⟨rfl, rfl⟩ (by kernel_rfl) rfl
    (fun f fn hf hfn => by
      obtain rfl : f = 4 := Option.some.inj ((show Tryd.prog.funcNamed "scoria/scorialaw04.NandKept" = some 4 by kernel_rfl).symm.trans hf) |>.symm
      obtain rfl : fn = Tryd.f4 := (Option.some.inj (Tryd.func4.symm.trans hfn)).symm
      exact ⟨by kernel_rfl, fun j t ht => by
        rw [Tryd.params4] at ht
        have hm : t ∈ [43, 22] := by simpa using Array.mem_of_getElem? ht
        have hall : ([43, 22].all fun u => !Tryd.prog.wantsStandIn u) = true := by kernel_rfl
        exact (show Tryd.prog.wantsStandIn t = false by simpa using List.all_eq_true.1 hall t hm)⟩)
    (by kernel_rfl)
#print axioms proved
end Go.Proofs.YtnbfejombealiabDoor.nandKept
