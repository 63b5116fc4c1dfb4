/- The law NandOrder holds: its Go text answers true for every input, and leaves its arguments as they were. No condition beyond the statement's own (errors.errorType holds what start-up lays; the card ties it to the program's text). -/
import Derived.Test.YtnbfejombealiabDoorRows
import Derived.Test.YtnbfejombealiabDoorCards
import Derived.Test.YtnbfejombealiabDoorTie
import Derived.Test.YtnbfejombealiabDoorOpen4
import Derived.Test.YtnbfejombealiabDoorAwake4
import Derived.Test.YtnbfejombealiabDoorNdEq
import Derived.Test.YtnbfejombealiabDoorActs4
import Derived.Outline
import Derived.IntWalk
import Derived.Deep.QuietTactic
import Derived.BigQuiet
import Derived.Deep.RegionWith
import Derived.ProofKit
import Derived.OpenShut
import Derived.ShutString
import Derived.ChangeOld
import Derived.ChangeSame
import Derived.ChangeVars
import Derived.Below
import Derived.SizedLaws
import Derived.JoinedOf
import Derived.RowKitTokens
import Derived.LaidLaws
import Derived.LaidHandle
import Derived.LaidMore
import Derived.Stop.Joined
import Derived.SevenTiedAt
namespace Go.Proofs.YtnbfejombealiabDoor.nandOrder
open Go.ChangeShapes Go.WideShapes Go.ChangeAt Go.RowKit
open Go.ChangeMaps (open_string shut_string)
open Go.Proofs.YtnbfejombealiabDoor
set_option linter.unusedVariables false
set_option linter.unusedSimpArgs false

theorem own : ownKnob Tryd.prog.godebug = none := by kernel_rfl
theorem laidOut : laidOutB Tryd.prog = true := by kernel_rfl
theorem et : Tryd.prog.globalNamed "errors.errorType" = some 0 := by kernel_rfl
theorem rt : (Tryd.prog.cutTypes.find? (·.1 == "internal/reflectlite.rtype")).map (·.2) = some 100 := by kernel_rfl
theorem oneRow : ((List.range 142).filter fun t => Tryd.prog.rowNamed t [101, 114, 114, 111, 114]) = [25] := by kernel_rfl
theorem tsize : Tryd.prog.types.size = 142 := by kernel_rfl
/-- What the condition gives the walk. -/
theorem handle_of_laid {W : World} (h : laidMetH Tryd.prog [("errors.errorType", Rows.laid_errors_errorType)] W) : ER.ErrorType W := by
  have h' : laidMet Tryd.prog [] W ∧ handlesMet Tryd.prog [("errors.errorType", Rows.laid_errors_errorType)] W := h
  obtain ⟨name, u, ty, e1, e2, e3, e4, e5⟩ := h'.2 _ (List.mem_singleton.2 rfl)
  have en : name = [101, 114, 114, 111, 114] := (Option.some.inj e1).symm
  subst en
  obtain rfl := Option.some.inj (rt.symm.trans e2)
  have hm : ty ∈ (List.range 142).filter fun t => Tryd.prog.rowNamed t [101, 114, 114, 111, 114] := List.mem_filter.2 ⟨List.mem_range.2 (by rw [← tsize]; exact e3), e4⟩
  rw [oneRow] at hm
  obtain rfl := List.mem_singleton.1 hm
  have hh : typeHandle Tryd.prog 25 = .pointer (some ⟨1, 25, none⟩) := by kernel_rfl
  rw [hh] at e5
  have := World.var?_cell et e5 0
  unfold ER.ErrorType
  simpa using this
/-- A world that meets the condition: the settled one, the variable's cell laid. -/
noncomputable def laidWorld (os : Os) : World :=
  let w0 := World.holding Tryd.prog os ⟨#[], #[], []⟩
  { w0 with heap := w0.heap.modify 0 fun
      | .cells _ t frozen => .cells #[.iface 100 (.agg #[.pointer (some ⟨1, 25, none⟩)])] t frozen
      | o => o }
theorem laidWorld_met (os : Os) (args : Array Value) : laidMetH Tryd.prog [("errors.errorType", Rows.laid_errors_errorType)] ((laidWorld os).forCall (fun _ _ => 0) ⟨#[], args, []⟩).memory :=
  laidMetH_of_parts (laidMet_nil _ _) (by kernel_rfl)

open ER MM OP ND

def cells16 (f : Nat → Nat) : Array Value := ((List.range 16).map fun i => Value.int .i64 (f i)).toArray
theorem cells16_get (f : Nat → Nat) {i : Nat} (hi : i < 16) : (cells16 f)[i]? = some (.int .i64 (f i)) := by
  unfold cells16
  rw [List.getElem?_toArray, List.getElem?_map, List.getElem?_range hi]; rfl
theorem cells16_zero : cells16 (fun _ => 0) = #[.int .i64 0, .int .i64 0, .int .i64 0, .int .i64 0, .int .i64 0, .int .i64 0, .int .i64 0, .int .i64 0, .int .i64 0, .int .i64 0, .int .i64 0, .int .i64 0, .int .i64 0, .int .i64 0, .int .i64 0, .int .i64 0] := rfl
theorem cells16_set (f : Nat → Nat) (i v : Nat) : (cells16 f).setIfInBounds i (.int .i64 v) = cells16 (put f i v) := by
  apply Array.ext'
  unfold cells16
  rw [Array.toList_setIfInBounds]
  apply List.ext_getElem?
  intro j
  rw [List.getElem?_set]
  by_cases hj : j < 16
  · by_cases h : i = j
    · subst h
      rw [if_pos rfl, if_pos (by simpa using hj), List.getElem?_map, List.getElem?_range hj]
      show _ = some (Value.int .i64 ((put f i v i : Nat) : Int))
      rw [put_same]
    · rw [if_neg h, List.getElem?_map, List.getElem?_map, List.getElem?_range hj]
      show some (Value.int .i64 ((f j : Nat) : Int)) = some (Value.int .i64 ((put f i v j : Nat) : Int))
      rw [put_other _ _ (Ne.symm h)]
  · have h1 : (List.map (fun i => Value.int .i64 ((put f i v i : Nat) : Int)) (List.range 16))[j]? = none := List.getElem?_eq_none (by simp; omega)
    by_cases h : i = j
    · subst h
      rw [if_pos rfl, if_neg (by simpa using hj), List.getElem?_eq_none (by simp; omega)]
    · rw [if_neg h, List.getElem?_eq_none (by simp; omega), List.getElem?_eq_none (by simp; omega)]
theorem cells16_eq {f g : Nat → Nat} (h : ∀ i, i < 16 → f i = g i) : cells16 f = cells16 g := by
  unfold cells16
  congr 1
  apply List.map_congr_left
  intro i hi
  rw [h i (List.mem_range.1 hi)]

/-- What an act leaves: no other geometry, one operation more at most. -/
structure Step (d d' : Nd) : Prop where
  B : d'.B = d.B
  P : d'.P = d.P
  ops : d'.ops ≤ d.ops + 1
theorem suffer_BP (d : Nd) (b : Nat) (c : Int) : (d.suffer b c).B = d.B ∧ (d.suffer b c).P = d.P := by
  unfold Nd.suffer
  split
  · exact ⟨rfl, rfl⟩
  · split <;> exact ⟨rfl, rfl⟩
theorem erased_BP (d : Nd) (b : Nat) (m : Mis) (c : Int) : (d.erased b m c).B = d.B ∧ (d.erased b m c).P = d.P := by
  unfold Nd.erased
  split
  · exact ⟨rfl, rfl⟩
  · split <;> exact ⟨rfl, rfl⟩
theorem program_step (d : Nd) (p : Int) (s : ByteArray) : Step d (d.program p s).1 := by
  have h : (d.program p s).1.B = d.B ∧ (d.program p s).1.P = d.P := by
    unfold Nd.program
    split
    · exact ⟨rfl, rfl⟩
    · have := suffer_BP ((d.counted).wrote p.toNat (d.takes s)) (p.toNat / d.P) (brings d.mis 2)
      exact ⟨this.1, this.2⟩
  exact ⟨h.1, h.2, program_ops d p s⟩
theorem erase_step (d : Nd) (p : Int) : Step d (d.erase p).1 := by
  have h : (d.erase p).1.B = d.B ∧ (d.erase p).1.P = d.P := by
    unfold Nd.erase
    split
    · exact ⟨rfl, rfl⟩
    · have h1 := suffer_BP ((d.counted).erased p.toNat d.mis (brings d.mis 3)) p.toNat (brings d.mis 3)
      have h2 := erased_BP d.counted p.toNat d.mis (brings d.mis 3)
      exact ⟨h1.1.trans h2.1, h1.2.trans h2.2⟩
  exact ⟨h.1, h.2, erase_ops d p⟩
theorem program_cases (d : Nd) (hB : d.B = 16) (hP : d.P = 8) (p : Int) (s : ByteArray) :
    ((d.program p s).1 = d ∧ (d.program p s).2 ≠ 0) ∨ ∃ q : Nat, p = q ∧ q < 128 ∧ d.next (q / 8) = q % 8 ∧ (d.program p s).1.ops = d.ops + 1 ∧ (d.program p s).1.next = put d.next (q / 8) (q % 8 + 1) := by
  unfold Nd.program
  by_cases h : d.mayProgram p s = 0
  · rw [if_neg (by simpa using h)]
    right
    obtain ⟨_, hp, _, _, hn⟩ := may_zero h
    have hq0 : 0 ≤ p ∧ p < (d.B * d.P : Nat) := by unfold Nd.hasPage at hp; simp at hp; exact ⟨hp.1, by exact_mod_cast hp.2⟩
    rw [hB, hP] at hq0
    rw [hP] at hn
    obtain ⟨q, rfl⟩ := Int.eq_ofNat_of_zero_le hq0.1
    have e : ((q : Int)).toNat = q := by omega
    rw [e] at hn ⊢
    refine ⟨q, rfl, by omega, hn, by rw [suffer_ops]; rfl, ?_⟩
    have e2 : ∀ (x : Nd) (b : Nat) (c : Int), (x.suffer b c).next = x.next := by
      intro x b c
      unfold Nd.suffer
      split
      · rfl
      · split <;> rfl
    rw [e2]
    show put d.next (q / d.P) (d.next (q / d.P) + 1) = _
    rw [hP, hn]
  · rw [if_pos h]
    exact .inl ⟨rfl, h⟩
theorem erase_cases (d : Nd) (hB : d.B = 16) (p : Int) :
    ((d.erase p).2 = 0 ∧ ∃ b : Nat, p = b ∧ b < 16 ∧ (d.erase p).1.next = put d.next b 0) ∨ ((d.erase p).2 ≠ 0 ∧ ((¬ (0 ≤ p ∧ p < 16) ∧ (d.erase p).1.next = d.next) ∨ ∃ b : Nat, p = b ∧ b < 16 ∧ ∀ i, i ≠ b → (d.erase p).1.next i = d.next i)) := by
  have e2 : ∀ (x : Nd) (b : Nat) (c : Int), (x.suffer b c).next = x.next := by
    intro x b c
    unfold Nd.suffer
    split
    · rfl
    · split <;> rfl
  unfold Nd.erase
  by_cases h : d.mayErase p = 0
  · rw [if_neg (by simpa using h)]
    obtain ⟨_, hb, _⟩ := mayE_zero h
    have hq0 : 0 ≤ p ∧ p < (d.B : Int) := by unfold Nd.hasBlock at hb; simp at hb; exact hb
    rw [hB] at hq0
    obtain ⟨b, rfl⟩ := Int.eq_ofNat_of_zero_le hq0.1
    have e : ((b : Int)).toNat = b := by omega
    rw [e]
    by_cases hc : brings d.mis 3 = 0
    · refine .inl ⟨hc, b, rfl, by omega, ?_⟩
      rw [e2]
      unfold Nd.erased
      rw [if_pos hc]; rfl
    · refine .inr ⟨hc, .inr ⟨b, rfl, by omega, fun i hi => ?_⟩⟩
      rw [e2]
      unfold Nd.erased
      rw [if_neg hc]
      split
      · show put d.next b d.P i = _
        rw [put_other _ _ hi]
      · rfl
  · rw [if_pos h]
    refine .inr ⟨h, ?_⟩
    by_cases hr : 0 ≤ p ∧ p < 16
    · obtain ⟨b, rfl⟩ := Int.eq_ofNat_of_zero_le hr.1
      exact .inr ⟨b, rfl, by omega, fun i _ => rfl⟩
    · exact .inl ⟨hr, rfl⟩

/-- What holds ahead of each act. -/
structure Mid (w wr : World) (g nb k : Nat) (d : Nd) : Prop where
  st : St w wr g d
  B : d.B = 16
  P : d.P = 8
  ops : d.ops ≤ k
  arr : Blk wr nb 32 (cells16 d.next)
theorem Mid.step {w wr w' : World} {g nb k : Nat} {d d' : Nd} (h : Mid w wr g nb k d) (hs : Step d d') (st : St w w' g d') (arr : Blk w' nb 32 (cells16 d'.next)) : Mid w w' g nb (k + 1) d' :=
  ⟨st, hs.B.trans h.B, hs.P.trans h.P, Nat.le_trans hs.ops (Nat.succ_le_succ h.ops), arr⟩

set_option maxHeartbeats 8000000 in
set_option maxRecDepth 100000 in
theorem walk (a0 : Option Addr) (len0 cap0 : Nat) (w : World) (l0 : len0 ≤ maxLen) (w0 : OP.Rows w a0 len0 4 (OP.ActP w)) (hg : ER.ErrorType w) :
    Calls Tryd.prog 3 #[.slice a0 len0 cap0] w fun e w' => e = .returned (.bool true) ∧ Below w.heap.size w w' := by
  obtain ⟨X, M, hX⟩ := acts_of w0
  have HX := Lib.hid hX
  have HG := Lib.hid hg
  unfold maxLen at l0
  clear w0 hX hg
  go_enter Tryd.func3, Tryd.ntmps3
  go_wp2_with fail
  refine (plain_any _).mono ?_
  rintro e w1 ⟨rfl, hb1⟩
  go_wp2_with fail
  refine (st_new 16 8 (by omega) w hb1).mono ?_
  clear hb1
  rintro e w2 ⟨g, rfl, h2, _⟩
  have H2 := Lib.hid h2
  clear h2
  go_wp2_with fail
  refine (ND.awake_any w2 (H2.out.et HG.out)).mono ?_
  rintro e w3 ⟨rfl, hb3⟩
  have H3 := Lib.hid (H2.out.below hb3)
  clear hb3
  go_wp2
  obtain ⟨nb, hnb⟩ : ∃ nb, nb = w3.heap.size := ⟨_, rfl⟩
  rw [← hnb]
  have hnlow : w.heap.size ≤ nb := by rw [hnb]; exact H3.out.bel.size
  have hmid : Mid w (w3.alloc (.cells #[.int .i64 0, .int .i64 0, .int .i64 0, .int .i64 0, .int .i64 0, .int .i64 0, .int .i64 0, .int .i64 0, .int .i64 0, .int .i64 0, .int .i64 0, .int .i64 0, .int .i64 0, .int .i64 0, .int .i64 0, .int .i64 0] 32)) g nb 0 (fresh 16 8) := by
    refine ⟨H3.out.below ((Below.refl _ _).alloc (Nat.le_refl _) _), rfl, rfl, Nat.le_refl _, ?_⟩
    have := Blk.new w3 32 (cells16 fun _ => 0)
    rw [hnb]
    exact this
  have HMID := Lib.hid hmid
  have HNL := Lib.hid hnlow
  clear hmid hnlow hnb
  go_loopw [6] (fun i wr => ∃ (k : Nat) (d : Nd), k ≤ len0 ∧ k ≤ 200 ∧ i = .int .i64 k ∧ Mid w wr g nb k d) (fun i _ => len0 - (intOf i).toNat)
  case atStart => exact ⟨0, _, Nat.zero_le _, by omega, rfl, HMID.out⟩
  case round =>
    obtain ⟨k, d, hk, hk2, rfl, hmid⟩ := hrel
    have MID := Lib.hid hmid
    have k0 : (0 : Int) ≤ (k : Int) := by omega
    clear hmid HMID
    by_cases hlt : k < len0 ∧ k < 200
    · obtain ⟨hlt, hlt2⟩ := hlt
      have j1 : decide ((k : Int) < (len0 : Int)) = true := by simp; omega
      have j2 : decide ((k : Int) < 200) = true := by simp; omega
      have k1 : (k : Int) < (len0 : Int) := by omega
      have hw1 : IntKind.i64.wrap ((k : Int) + 1) = (k : Int) + 1 := IntWalk.i64_in _ (by omega)
      rcases HX.out with h0 | ⟨b, off, rfl, hb, hc⟩
      · omega
      · have hact := (hc k hlt).kept MID.out.st.bel hb
        obtain ⟨x, hx⟩ : ∃ x, x = X k := ⟨_, rfl⟩
        rw [← hx] at hact
        obtain ⟨x0, x1, x2, x3, wk, wa, ht, hpl, hrow⟩ := hact
        have y0 : wr.cell? ⟨b, off + k * 4, none⟩ = some (.int .i64 x.kind) := x0
        have WK := Lib.hid wk
        have WA := Lib.hid wa
        have HT := Lib.hid ht
        have HPL := Lib.hid hpl
        have HROW := Lib.hid hrow
        have OPS := Lib.hid (show d.ops ≤ 4611686018427387904 by have := MID.out.ops; omega)
        clear hc hx x0 wk wa ht hpl hrow
        go_wp2_with fail
        obtain ⟨W1, hW1⟩ : ∃ W1, W1 = wr.alloc (.cells #[.int .i64 x.kind, .int .i64 x.at_, .string x.txt, .slice x.pa x.plen x.pcap] 35) := ⟨_, rfl⟩
        have hb1 : Below wr.heap.size wr W1 := by rw [hW1]; exact (Below.refl _ _).alloc (Nat.le_refl _) _
        have hk1 : Blk W1 wr.heap.size 35 #[.int .i64 x.kind, .int .i64 x.at_, .string x.txt, .slice x.pa x.plen x.pcap] := by rw [hW1]; exact Blk.new wr _ _
        rw [← hW1]
        have hrow1 := HROW.out.kept_below (hb1.mono MID.out.st.bel.size)
        have K1 := Lib.hid hk1
        have B1 := Lib.hid hb1
        clear hW1 hk1 hb1
        refine (light_any x _ W1 _ hrow1 HPL.out HT.out).mono ?_
        rintro e w4 ⟨bl, rfl, hb4⟩
        have h4 := (MID.out.st.below B1.out).below hb4
        have hbr4 : Below wr.heap.size wr w4 := B1.out.trans (hb4.mono B1.out.size)
        have k4 := Errs.below hb4 _ _ _ rfl K1.out
        have n4 := Errs.below hbr4 _ _ _ rfl MID.out.arr
        have B4 := Lib.hid hbr4
        have H4 := Lib.hid h4
        have K4 := Lib.hid k4
        have N4 := Lib.hid n4
        clear hb4 hbr4 h4 k4 n4 hrow1 y0 x1 x2 x3
        cases bl with
        | false =>
          go_wp2
          go_roundw
          case rel => exact ⟨k + 1, d, by omega, by omega, by go_num, ⟨H4.out, MID.out.B, MID.out.P, Nat.le_succ_of_le MID.out.ops, N4.out⟩⟩
          case measure => simp [intOf]; omega
        | true =>
          go_wp2_with fail
          refine (st_ops H4.out).mono ?_
          rintro e w5 ⟨rfl, rfl⟩
          have g0 : w4.cell? ⟨wr.heap.size, 0, none⟩ = some (.int .i64 x.kind) := K4.out.cell 0
          have g1 : w4.cell? ⟨wr.heap.size, 1, none⟩ = some (.int .i64 x.at_) := K4.out.cell 1
          have g2 : w4.cell? ⟨wr.heap.size, 2, none⟩ = some (.string x.txt) := K4.out.cell 2
          have g3 : w4.cell? ⟨wr.heap.size, 3, none⟩ = some (.slice x.pa x.plen x.pcap) := K4.out.cell 3
          by_cases c0 : x.kind = 0
          · have q0 : (x.kind == 0) = true := by simp [c0]
            clear c0
            go_wp2_with fail
            refine (st_program H4.out OPS.out x.at_ WA.out x.txt).mono ?_
            rintro e w5 ⟨v5, rfl, he5, h5, k5⟩
            have N5 := Lib.hid (k5 _ _ _ rfl N4.out)
            have K5 := Lib.hid (k5 _ _ _ rfl K4.out)
            rcases program_cases d MID.out.B MID.out.P x.at_ x.txt with ⟨e1, e2⟩ | ⟨q, hq, hq128, hn, hops, hnx⟩
            · rw [e1] at h5
              have H5 := Lib.hid h5
              obtain ⟨tv, xv, rfl⟩ := he5.some e2
              clear h5 he5 k5 e1 e2 g0 g1 g2 g3 q0
              go_wp2_with fail
              refine (st_ops H5.out).mono ?_
              rintro e w6 ⟨rfl, rfl⟩
              go_wp2
              go_roundw
              case rel => exact ⟨k + 1, d, by omega, by omega, by go_num, ⟨H5.out, MID.out.B, MID.out.P, Nat.le_succ_of_le MID.out.ops, N5.out⟩⟩
              case measure => simp [intOf]; omega
            · have HS := Lib.hid (program_step d x.at_ x.txt)
              obtain ⟨d', hd'⟩ : ∃ d', d' = (d.program x.at_ x.txt).1 := ⟨_, rfl⟩
              rw [← hd'] at h5 hops hnx HS
              have H5 := Lib.hid h5
              obtain ⟨m, hm⟩ : ∃ m, m = q % 8 := ⟨_, rfl⟩
              obtain ⟨bb, hbb⟩ : ∃ bb, bb = q / 8 := ⟨_, rfl⟩
              have e3 : (0 : Int) ≤ (bb : Int) := Int.natCast_nonneg bb
              have e4 : (bb : Int) < 16 := by clear h5 he5 k5 hn hnx hops; omega
              rw [← hm, ← hbb] at hn hnx
              have f1 : w5.cell? ⟨wr.heap.size, 1, none⟩ = some (.int .i64 (q : Int)) := by rw [← hq]; exact K5.out.cell 1
              have f2 : w5.cell? ⟨nb, bb, none⟩ = some (.int .i64 (m : Int)) := by rw [N5.out.cell, cells16_get _ (by omega), hn]
              have z2 : w5.frozen? ⟨nb, bb, none⟩ = false := N5.out.frozen bb
              have j3 : decide ((q : Int) < 0) = false := by simp
              have j4 : decide ((128 : Int) ≤ (q : Int)) = false := by simp; omega
              have j5 : (((d.ops + 1 : Nat) : Int) == (d.ops : Int)) = false := beq_eq_false_iff_ne.2 (by omega)
              have r1 : (q : Int).tmod 8 = (m : Int) := by rw [Int.tmod_eq_emod_of_nonneg (by omega)]; omega
              have r2 : (q : Int).tdiv 8 = (bb : Int) := by rw [Int.tdiv_eq_ediv_of_nonneg (by omega)]; omega
              have r3 : IntKind.i64.wrap (bb : Int) = (bb : Int) := IntWalk.i64_in _ (by omega)
              have r4 : wrap64 ((q : Int).tdiv 8) = (bb : Int) := by rw [r2]; unfold wrap64; omega
              have r5 : IntKind.i64.wrap ((m : Int) + 1) = (m : Int) + 1 := IntWalk.i64_in _ (by omega)
              have HNX := Lib.hid hnx
              have hN5 : ∀ n, Blk (w5.drewN n) nb 32 (cells16 d.next) := fun n => Errs.below (drewN_below (Below.refl _ w5) n) _ _ _ rfl N5.out
              have HMD := Lib.hid (show ∀ n, Blk ((w5.drewN n).setCell ⟨nb, bb, none⟩ (.int .i64 ((m : Int) + 1))) nb 32 (cells16 d'.next) from fun n => by
                have := (hN5 n).set_ bb (.int .i64 ((m + 1 : Nat) : Int))
                rw [cells16_set, ← hnx] at this
                exact this)
              have HST := Lib.hid (fun n => (H5.out.below (drewN_below (Below.refl _ w5) n)).own rfl (hN5 n) HNL.out bb (.int .i64 ((m : Int) + 1)))
              clear h5 he5 k5 hd' hm hbb hn hnx hq hN5 g0 g1 g2 g3 q0
              go_wp2_with fail
              refine (st_ops H5.out).mono ?_
              rintro e w6 ⟨rfl, rfl⟩
              rw [hops]
              clear hops
              go_wp2
              go_quiet (fail)
              go_wp2
              go_roundw
              case rel =>
                clear r1 r2 r3 r4 r5 j3 j4 j5
                exact ⟨k + 1, d', by omega, by omega, by go_num, MID.out.step HS.out (HST.out _) (HMD.out _)⟩
              case measure => simp [intOf]; omega
          · have q0 : (x.kind == 0) = false := by simp [c0]
            by_cases c1 : x.kind = 1
            · have q1 : (x.kind == 1) = true := by simp [c1]
              clear c0 c1
              go_wp2_with fail
              refine (st_erase H4.out OPS.out x.at_ WA.out).mono ?_
              rintro e w5 ⟨v5, rfl, he5, h5, k5⟩
              have N5 := Lib.hid (k5 _ _ _ rfl N4.out)
              have K5 := Lib.hid (k5 _ _ _ rfl K4.out)
              have HS := Lib.hid (erase_step d x.at_)
              rcases erase_cases d MID.out.B x.at_ with ⟨e1, b2, hb2, hb16, hnx⟩ | ⟨e1, ⟨hout, hsame⟩ | ⟨b2, hb2, hb16, hoth⟩⟩
              · obtain rfl := he5.none e1
                obtain ⟨d', hd'⟩ : ∃ d', d' = (d.erase x.at_).1 := ⟨_, rfl⟩
                rw [← hd'] at h5 hnx HS
                have H5 := Lib.hid h5
                have f1 : w5.cell? ⟨wr.heap.size, 1, none⟩ = some (.int .i64 (b2 : Int)) := by rw [← hb2]; exact K5.out.cell 1
                obtain ⟨old, hold⟩ : ∃ v, v = Value.int .i64 (d.next b2) := ⟨_, rfl⟩
                have f2 : w5.cell? ⟨nb, b2, none⟩ = some old := by rw [N5.out.cell, cells16_get _ hb16, hold]
                have z2 : w5.frozen? ⟨nb, b2, none⟩ = false := N5.out.frozen b2
                have j3 : decide ((b2 : Int) < 0) = false := by simp
                have j4 : decide ((15 : Int) < (b2 : Int)) = false := by simp; omega
                have e3 : (0 : Int) ≤ (b2 : Int) := by omega
                have e4 : (b2 : Int) < 16 := by omega
                have HMD := Lib.hid (show Blk (w5.setCell ⟨nb, b2, none⟩ (.int .i64 0)) nb 32 (cells16 d'.next) by
                  have := N5.out.set_ b2 (.int .i64 ((0 : Nat) : Int))
                  rw [cells16_set, ← hnx] at this
                  exact this)
                have HST := Lib.hid (H5.out.own rfl N5.out HNL.out b2 (.int .i64 0))
                clear h5 he5 k5 hd' hnx hb2 hold e1 g0 g1 g2 g3 q0 q1
                go_wp2
                go_roundw
                case rel => exact ⟨k + 1, d', by omega, by omega, by go_num, MID.out.step HS.out HST.out HMD.out⟩
                case measure => simp [intOf]; omega
              · obtain ⟨tv, xv, rfl⟩ := he5.some e1
                obtain ⟨d', hd'⟩ : ∃ d', d' = (d.erase x.at_).1 := ⟨_, rfl⟩
                rw [← hd'] at h5 hsame HS
                have H5 := Lib.hid h5
                have f1 : w5.cell? ⟨wr.heap.size, 1, none⟩ = some (.int .i64 x.at_) := K5.out.cell 1
                have HN5 : Hid (Blk w5 nb 32 (cells16 d'.next)) := by rw [hsame]; exact N5
                by_cases hneg : 0 ≤ x.at_
                · have j3 : decide ((0 : Int) ≤ x.at_) = true := by simp; omega
                  have j4 : decide (x.at_ < 16) = false := by simp; omega
                  clear h5 he5 k5 hd' hsame hout hneg e1 g0 g1 g2 g3 q0 q1
                  go_wp2
                  go_roundw
                  case rel => exact ⟨k + 1, d', by omega, by omega, by go_num, MID.out.step HS.out H5.out HN5.out⟩
                  case measure => simp [intOf]; omega
                · have j3 : decide ((0 : Int) ≤ x.at_) = false := by simp; omega
                  clear h5 he5 k5 hd' hsame hout hneg e1 g0 g1 g2 g3 q0 q1
                  go_wp2
                  go_roundw
                  case rel => exact ⟨k + 1, d', by omega, by omega, by go_num, MID.out.step HS.out H5.out HN5.out⟩
                  case measure => simp [intOf]; omega
              · obtain ⟨tv, xv, rfl⟩ := he5.some e1
                obtain ⟨d', hd'⟩ : ∃ d', d' = (d.erase x.at_).1 := ⟨_, rfl⟩
                rw [← hd'] at h5 hoth HS
                have H5 := Lib.hid h5
                have f1 : w5.cell? ⟨wr.heap.size, 1, none⟩ = some (.int .i64 (b2 : Int)) := by rw [← hb2]; exact K5.out.cell 1
                obtain ⟨old, hold⟩ : ∃ v, v = Value.int .i64 (d.next b2) := ⟨_, rfl⟩
                have f2 : w5.cell? ⟨nb, b2, none⟩ = some old := by rw [N5.out.cell, cells16_get _ hb16, hold]
                have z2 : w5.frozen? ⟨nb, b2, none⟩ = false := N5.out.frozen b2
                have j3 : decide ((0 : Int) ≤ (b2 : Int)) = true := by simp
                have j4 : decide ((b2 : Int) < 16) = true := by simp; omega
                have e3 : (0 : Int) ≤ (b2 : Int) := by omega
                have e4 : (b2 : Int) < 16 := by omega
                obtain ⟨nx, hnx⟩ : ∃ nx, nx = d'.next b2 := ⟨_, rfl⟩
                have hat : d'.nextAt (b2 : Int) = (nx : Int) := by
                  unfold Nd.nextAt
                  rw [has_block (by rw [HS.out.B, MID.out.B]; exact hb16), if_pos rfl, show ((b2 : Int)).toNat = b2 by omega, hnx]
                have HNEXT := Lib.hid (st_next (H5.out.below (Below.refl _ _).drew) (b2 : Int))
                rw [hat] at HNEXT
                have HMD := Lib.hid (show Blk (w5.drew.setCell ⟨nb, b2, none⟩ (.int .i64 (nx : Int))) nb 32 (cells16 d'.next) by
                  have := (Errs.below (Below.refl w5.heap.size w5).drew _ _ _ rfl N5.out).set_ b2 (.int .i64 (nx : Int))
                  rw [cells16_set] at this
                  have e : cells16 (put d.next b2 nx) = cells16 d'.next := cells16_eq fun i hi => by
                    by_cases h : i = b2
                    · subst h; rw [put_same, hnx]
                    · rw [put_other _ _ h, hoth i h]
                  rw [e] at this
                  exact this)
                have HST := Lib.hid ((H5.out.below (Below.refl _ _).drew).own rfl (Errs.below (Below.refl w5.heap.size w5).drew _ _ _ rfl N5.out) HNL.out b2 (.int .i64 (nx : Int)))
                clear h5 he5 k5 hd' hoth hb2 hold hnx hat e1 g0 g1 g2 g3 q0 q1
                go_wp2
                go_region_with (go_at_call 15; refine HNEXT.out.mono ?_; rintro e w6 ⟨rfl, rfl⟩)
                all_goals
                  go_wp2
                  go_roundw
                  case rel => exact ⟨k + 1, d', by omega, by omega, by go_num, MID.out.step HS.out HST.out HMD.out⟩
                  case measure => simp [intOf]; omega
            · have q1 : (x.kind == 1) = false := by simp [c1]
              by_cases c3 : x.kind = 3
              · have q3 : (x.kind == 3) = true := by simp [c3]
                clear c0 c1 c3
                go_wp2_with fail
                have hb4 := B4.out
                have hrow4 := HROW.out.kept_below (hb4.mono MID.out.st.bel.size)
                refine (st_plan_in H4.out x.pa x.plen x.pcap HPL.out _ hrow4).mono ?_
                rintro e w5 ⟨rfl, h5, k5⟩
                have H5 := Lib.hid h5
                have N5 := Lib.hid (k5 _ _ _ rfl N4.out)
                clear h5 k5 hrow4 hb4
                go_wp2
                go_roundw
                case rel => exact ⟨k + 1, d.planned (misL (M k) x.plen), by omega, by omega, by go_num, MID.out.step (d' := d.planned (misL (M k) x.plen)) ⟨rfl, rfl, Nat.le_succ _⟩ H5.out N5.out⟩
                case measure => simp [intOf]; omega
              · have q3 : (x.kind == 3) = false := by simp [c3]
                by_cases c4 : x.kind = 4
                · have q4 : (x.kind == 4) = true := by simp [c4]
                  clear c0 c1 c3 c4
                  go_wp2_with fail
                  refine (st_up H4.out).mono ?_
                  rintro e w5 ⟨rfl, h5, k5⟩
                  have H5 := Lib.hid h5
                  have N5 := Lib.hid (k5 _ _ _ rfl N4.out)
                  clear h5 k5
                  go_wp2
                  go_roundw
                  case rel => exact ⟨k + 1, d.up, by omega, by omega, by go_num, MID.out.step (d' := d.up) ⟨rfl, rfl, Nat.le_succ _⟩ H5.out N5.out⟩
                  case measure => simp [intOf]; omega
                · have q4 : (x.kind == 4) = false := by simp [c4]
                  clear c0 c1 c3 c4
                  go_wp2
                  go_roundw
                  case rel => exact ⟨k + 1, d, by omega, by omega, by go_num, ⟨H4.out, MID.out.B, MID.out.P, Nat.le_succ_of_le MID.out.ops, N4.out⟩⟩
                  case measure => simp [intOf]; omega
    · have hex : (¬ (k : Int) < (len0 : Int)) ∨ (k = 200 ∧ (200 : Int) < (len0 : Int)) := by omega
      have hfin : ∀ (j : Nat), j < 16 → d.nextAt (j : Int) = (d.next j : Int) := fun j hj => by
        unfold Nd.nextAt
        rw [has_block (by rw [MID.out.B]; exact hj), if_pos rfl, show ((j : Int)).toNat = j by omega]
      have HF := Lib.hid hfin
      clear hfin hlt
      rcases hex with j1 | ⟨rfl, j1⟩
      all_goals
        go_wp2
        go_loopw [10] (fun i wx => ∃ j : Nat, j ≤ 16 ∧ i = .int .i64 j ∧ St w wx g d ∧ Blk wx nb 32 (cells16 d.next)) (fun i _ => 16 - (intOf i).toNat)
        case atStart => exact ⟨0, by omega, rfl, MID.out.st, MID.out.arr⟩
        case round =>
          obtain ⟨j, hj, rfl, hst, harr⟩ := hrel
          have HST := Lib.hid hst
          have HARR := Lib.hid harr
          by_cases hlt : j < 16
          · have j3 : decide ((j : Int) < 16) = true := by simp; omega
            have e3 : (0 : Int) ≤ (j : Int) := by omega
            have e4 : (j : Int) < 16 := by omega
            have f2 : wr.cell? ⟨nb, j, none⟩ = some (.int .i64 (d.next j)) := by rw [harr.cell, cells16_get _ hlt]
            have HNEXT := Lib.hid (fun n => st_next (hst.below (drewN_below (Below.refl _ _) n)) (j : Int))
            rw [HF.out j hlt] at HNEXT
            have hw1 : IntKind.i64.wrap ((j : Int) + 1) = (j : Int) + 1 := IntWalk.i64_in _ (by omega)
            clear hst harr
            go_wp2
            go_quiet (exact (HNEXT.out _).mono fun e w1 h => ⟨h.1, _, h.2.symm⟩)
            go_wp2
            go_roundw
            case rel => exact ⟨j + 1, by omega, by go_num, HST.out.below (drewN_below (Below.refl _ _) _), HARR.out⟩
            case measure => simp [intOf]; omega
          · have j3 : decide ((j : Int) < 16) = false := by simp; omega
            go_wp2
            go_ret
            exact ⟨rfl, HST.out.bel⟩

set_option maxRecDepth 100000 in
theorem lifted (os : Os) (started : os.Started) (H : Type) (enc : TypeId × Value → H) :
    ReturnsInHanded {} Tryd.checked os 3 .any (fun w args => (Rows.nandOrderSpec.pre enc Tryd.prog Tryd.f3 [] false w args ∧ laidMetH Tryd.prog [("errors.errorType", Rows.laid_errors_errorType)] w) ∧ sizedMet enc Tryd.prog Tryd.f3 (OpenSpec.ofChange Rows.nandOrderSpec) false w args) (Rows.nandOrderSpec.post enc Tryd.prog Tryd.f3 false true false false) := by
  refine returnsInHanded_of_change_and (C := Tryd.checked) (X := (fun w _ => laidMetH Tryd.prog [("errors.errorType", Rows.laid_errors_errorType)] w)) (fun _ _ _ hh h => h.of_heap hh) own started (by kernel_rfl) Tryd.func3
    (ChangeSpec.witness_at (enc := enc) (C := Tryd.checked) (os := os) (X := (fun w _ => laidMetH Tryd.prog [("errors.errorType", Rows.laid_errors_errorType)] w)) false (laidWorld os) #[.slice none 0 0] 8 rfl (by kernel_rfl) (by kernel_rfl) (by kernel_rfl) (by kernel_rfl) (by kernel_rfl) (laidWorld_met os _)) ?_
  intro W base args ds gs before hval0 hW _ hsz0 hL _
  have hval : ∀ (j : Nat) t v, Tryd.f3.params[j]? = some t → args[j]? = some v → Value.okWide Tryd.prog W .any base t v := hval0
  have hW' := hW
  obtain ⟨p, q, hA0, hV, rfl, hfz, hnd⟩ := hW
  have hA : DataW.TrodAll enc Tryd.prog W 0 (fun _ => true) true Tryd.f3.params.toList args.toList ds p := hA0
  rw [Tryd.params3] at hA hval
  obtain ⟨v0, vs0, d0, ds0, p0, q0, hargs, rfl, rfl, h0, r0⟩ := trodAll_cons hA
  obtain ⟨rfl, rfl, rfl⟩ := trodAll_nil r0
  obtain rfl : args = #[v0] := by cases args; simp_all
  obtain ⟨rfl, rfl⟩ := trodVars_none hV
  have k0 := h0
  have lt0 : ∀ x ∈ p0, x.block < W.heap.size := by obtain ⟨m, hm⟩ := k0; exact DataW.trod_lt m _ _ _ hm
  obtain ⟨a0, len0, cap0, rfl, l0, w0⟩ := OP.open_acts (hval 0 22 v0 rfl rfl) h0
  have hg := handle_of_laid hL
  clear hA0 hval0 hsz0
  refine (walk a0 len0 cap0 W l0 w0 hg).mono fun e W' ⟨he, bel⟩ => ?_
  subst he
  exact ⟨_, rfl, _, _, _, [], _, [], hW', trodAll_mk1 (shut_bool Tryd.underlying4 _), (trodAll_cons_mk (Below.trod laidOut (by kernel_rfl) (of_decide_eq_true (by kernel_rfl)) k0 bel lt0) trodAll_mk0), rfl, bel.frame _, fun h => by cases h⟩

theorem over : Rows.NandOrderSaid :=
  OpenClaim.holds_of_wide 3 Tryd.f3 rfl rfl rfl rfl rfl rfl rfl ⟨rfl, rfl, rfl, rfl, rfl⟩ rfl rfl rfl rfl rfl (by kernel_rfl) Tryd.func3 (by kernel_rfl)
    (of_decide_eq_true (by kernel_rfl)) (by unfold Func.isWrapper; first | (rw [if_pos (by decide +kernel)]; kernel_rfl) | (rw [if_neg (by decide +kernel)]; exact ⟨rfl, rfl⟩))
    (fun os started H enc _ => lifted os started H enc)

/-- The card: the row, its one listed variable tied to the program's text. -/
theorem proved : Rows.NandOrderCardSaid :=
  Claim7.holds_tied_plain_at .later [] [.handle] true _ true
    over (fun _ h => by cases h) (by kernel_rfl) (fun _ h => by cases h) nandOrder_row_tie rfl ⟨rfl, rfl⟩ (by kernel_rfl) rfl
    (fun f fn hf hfn => by
      obtain rfl : f = 3 := Option.some.inj ((show Tryd.prog.funcNamed "scoria/scorialaw04.NandOrder" = some 3 by kernel_rfl).symm.trans hf) |>.symm
      obtain rfl : fn = Tryd.f3 := (Option.some.inj (Tryd.func3.symm.trans hfn)).symm
      exact ⟨by kernel_rfl, fun j t ht => by
        rw [Tryd.params3] at ht
        have hm : t ∈ [22] := by simpa using Array.mem_of_getElem? ht
        have hall : ([22].all fun u => !Tryd.prog.wantsStandIn u) = true := by kernel_rfl
        exact (show Tryd.prog.wantsStandIn t = false by simpa using List.all_eq_true.1 hall t hm)⟩)
    (by kernel_rfl)
#print axioms proved
end Go.Proofs.YtnbfejombealiabDoor.nandOrder
