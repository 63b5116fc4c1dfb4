/- The law NandTorn holds: its Go text answers true for every input, and leaves its arguments as they were. No condition beyond the statement's own (errors.errorType holds what start-up lays; the card ties it to the program's text). -/
import Derived.Test.YtnbfejombealiabDoorRows
import Derived.Test.YtnbfejombealiabDoorCards
import Derived.Test.YtnbfejombealiabDoorTie
import Derived.Test.YtnbfejombealiabDoorOpen4
import Derived.Test.YtnbfejombealiabDoorAwake4
import Derived.Outline
import Derived.Deep.QuietTactic
import Derived.BigQuiet
import Derived.ProofKit
import Derived.OpenShut
import Derived.ShutString
import Derived.ChangeOld
import Derived.ChangeSame
import Derived.ChangeVars
import Derived.Below
import Derived.SizedLaws
import Derived.JoinedOf
import Derived.RowKitTokens
import Derived.LaidLaws
import Derived.LaidHandle
import Derived.LaidMore
import Derived.Stop.Joined
import Derived.SevenTiedAt
namespace Go.Proofs.YtnbfejombealiabDoor.nandTorn
open Go.ChangeShapes Go.WideShapes Go.ChangeAt Go.RowKit
open Go.ChangeMaps (open_string shut_string)
open Go.Proofs.YtnbfejombealiabDoor
set_option linter.unusedVariables false
set_option linter.unusedSimpArgs false

theorem own : ownKnob Tryd.prog.godebug = none := by kernel_rfl
theorem laidOut : laidOutB Tryd.prog = true := by kernel_rfl
theorem et : Tryd.prog.globalNamed "errors.errorType" = some 0 := by kernel_rfl
theorem rt : (Tryd.prog.cutTypes.find? (·.1 == "internal/reflectlite.rtype")).map (·.2) = some 100 := by kernel_rfl
theorem oneRow : ((List.range 142).filter fun t => Tryd.prog.rowNamed t [101, 114, 114, 111, 114]) = [25] := by kernel_rfl
theorem tsize : Tryd.prog.types.size = 142 := by kernel_rfl
/-- What the condition gives the walk. -/
theorem handle_of_laid {W : World} (h : laidMetH Tryd.prog [("errors.errorType", Rows.laid_errors_errorType)] W) : ER.ErrorType W := by
  have h' : laidMet Tryd.prog [] W ∧ handlesMet Tryd.prog [("errors.errorType", Rows.laid_errors_errorType)] W := h
  obtain ⟨name, u, ty, e1, e2, e3, e4, e5⟩ := h'.2 _ (List.mem_singleton.2 rfl)
  have en : name = [101, 114, 114, 111, 114] := (Option.some.inj e1).symm
  subst en
  obtain rfl := Option.some.inj (rt.symm.trans e2)
  have hm : ty ∈ (List.range 142).filter fun t => Tryd.prog.rowNamed t [101, 114, 114, 111, 114] := List.mem_filter.2 ⟨List.mem_range.2 (by rw [← tsize]; exact e3), e4⟩
  rw [oneRow] at hm
  obtain rfl := List.mem_singleton.1 hm
  have hh : typeHandle Tryd.prog 25 = .pointer (some ⟨1, 25, none⟩) := by kernel_rfl
  rw [hh] at e5
  have := World.var?_cell et e5 0
  unfold ER.ErrorType
  simpa using this
/-- A world that meets the condition: the settled one, the variable's cell laid. -/
noncomputable def laidWorld (os : Os) : World :=
  let w0 := World.holding Tryd.prog os ⟨#[], #[], []⟩
  { w0 with heap := w0.heap.modify 0 fun
      | .cells _ t frozen => .cells #[.iface 100 (.agg #[.pointer (some ⟨1, 25, none⟩)])] t frozen
      | o => o }
theorem laidWorld_met (os : Os) (args : Array Value) : laidMetH Tryd.prog [("errors.errorType", Rows.laid_errors_errorType)] ((laidWorld os).forCall (fun _ _ => 0) ⟨#[], args, []⟩).memory :=
  laidMetH_of_parts (laidMet_nil _ _) (by kernel_rfl)

open ER MM OP ND

theorem program_eq {d : Nd} {p : Nat} {s : ByteArray} (hd : d.down = false) (hp : p < d.B * d.P) (hs : s.size ≤ 128) (hb : d.bad (p / d.P) = false) (hn : d.next (p / d.P) = p % d.P) :
    d.program p s = (((d.counted).wrote p (d.takes s)).suffer (p / d.P) (brings d.mis 2), brings d.mis 2) := by
  have hm : d.mayProgram p s = 0 := by
    unfold Nd.mayProgram
    rw [hd]
    have h1 : d.hasPage p = true := by
      have h1 : (p : Int) < ((d.B * d.P : Nat) : Int) := by exact_mod_cast hp
      unfold Nd.hasPage
      simp only [Bool.and_eq_true, decide_eq_true_eq]
      exact ⟨by omega, h1⟩
    rw [if_neg (by simp), if_neg (by rw [h1]; simp; omega)]
    have h2 : ((p : Int)).toNat = p := by omega
    rw [h2, hb, hn]
    simp
  unfold Nd.program
  rw [if_neg (by simpa using hm)]
  have h2 : ((p : Int)).toNat = p := by omega
  rw [h2]
def T1 (a : ByteArray) : Nd := ((fresh 16 8).counted).wrote 0 a
theorem t1 {a : ByteArray} (h : a.size ≤ 128) : (fresh 16 8).program 0 a = (T1 a, 0) := by
  have := program_eq (d := fresh 16 8) (p := 0) rfl (by decide) h rfl rfl
  exact this
def tm (m : Mis) : Mis := ⟨1, 1, m.keep, m.junk⟩
def T2 (a : ByteArray) (m : Mis) : Nd := (T1 a).planned [tm m]
def T3 (a b : ByteArray) (m : Mis) : Nd := (((T2 a m).counted).wrote 1 (spoilt { tm m with junk := cut m.junk } b)).suffer 0 9
theorem t2 {a b : ByteArray} (m : Mis) (h : b.size ≤ 128) : (T2 a m).program 1 b = (T3 a b m, 9) := by
  have := program_eq (d := T2 a m) (p := 1) rfl (by show 1 < 16 * 8; decide) h (by kernel_rfl) (by kernel_rfl)
  exact this
theorem t3e {a b : ByteArray} (m : Mis) : (T3 a b m).erase 0 = (T3 a b m, 9) := by kernel_rfl
theorem t3r {a b : ByteArray} (m : Mis) : ((T3 a b m).read 0).2 = 9 := by kernel_rfl
theorem t3d {a b : ByteArray} (m : Mis) : (T3 a b m).down = true := by kernel_rfl
theorem t3n {a b : ByteArray} (m : Mis) : (T3 a b m).up.nextAt 0 = 2 := by kernel_rfl
theorem t4a {a b : ByteArray} (m : Mis) : (T3 a b m).up.read 0 = (a, 0) := by kernel_rfl
theorem t4b {a b : ByteArray} (m : Mis) : (T3 a b m).up.read 1 = (spoilt { tm m with junk := cut m.junk } b, 0) := by kernel_rfl
def T5 (a b : ByteArray) (m : Mis) : Nd := ((T3 a b m).up.counted).wrote 2 a
theorem t5 {a b : ByteArray} (m : Mis) (h : a.size ≤ 128) : (T3 a b m).up.program 2 a = (T5 a b m, 0) := by
  have := program_eq (d := (T3 a b m).up) (p := 2) rfl (by show 2 < 16 * 8; decide) h (by kernel_rfl) (by kernel_rfl)
  exact this
theorem t6 {a b : ByteArray} (m : Mis) (h : b.size ≤ 128) : (T5 a b m).program 1 b = (T5 a b m, 40) := by
  have e : (T5 a b m).mayProgram 1 b = 40 := by
    unfold Nd.mayProgram
    rw [show (T5 a b m).down = false from by kernel_rfl, if_neg (by simp), if_neg (by rw [show (T5 a b m).hasPage 1 = true from by kernel_rfl]; simp; omega)]
    kernel_rfl
  unfold Nd.program
  rw [if_pos (by rw [e]; decide), e]
theorem t7 {a b : ByteArray} (m : Mis) : (T5 a b m).ops = 3 := by kernel_rfl
theorem cut_cut (x j : ByteArray) : cut (x ++ cut j) = cut (x ++ j) := by
  unfold cut
  apply ByteArray.ext
  apply Array.ext'
  simp only [ByteArray.data_extract, ByteArray.data_append, Array.toList_extract, Array.toList_append, ByteArray.size_append, ByteArray.size_extract, List.extract_eq_take_drop, List.drop_zero, Nat.sub_zero]
  have h1 : x.size = x.data.toList.length := rfl
  have h2 : j.size = j.data.toList.length := rfl
  rw [List.take_append, List.take_append]
  congr 1
  · rw [List.take_eq_take_iff]; omega
  · rw [List.take_take, List.take_eq_take_iff]; omega
theorem wanted (b : ByteArray) (m : Mis) : spoilt { tm m with junk := cut m.junk } b = cut (b.extract 0 (keepOf m b) ++ m.junk) := by
  unfold spoilt
  exact cut_cut _ _

set_option maxHeartbeats 2000000 in
set_option maxRecDepth 100000 in
theorem walk_long (a0 : ByteArray) (a1 : ByteArray) (m2 : Mis) (w : World) (hg : ER.ErrorType w) (hlong : 128 < a0.size ∨ 128 < a1.size ∨ 2000 < m2.junk.size) :
    Calls Tryd.prog 5 #[.string a0, .string a1, .agg #[.int .i64 m2.at_, .int .i64 m2.kind, .int .i64 m2.keep, .string m2.junk]] w fun e w' => e = .returned (.bool true) ∧ Below w.heap.size w w' := by
  have HG := Lib.hid hg
  obtain ⟨W0, hW0⟩ : ∃ W0, W0 = w.alloc (.cells #[.int .i64 m2.at_, .int .i64 m2.kind, .int .i64 m2.keep, .string m2.junk] 49) := ⟨_, rfl⟩
  have hb0 : Below w.heap.size w W0 := by rw [hW0]; exact (Below.refl _ _).alloc (Nat.le_refl _) _
  have HA := Lib.hid (ND.awake_any W0 (hg.kept hb0))
  have HB := Lib.hid hb0
  rw [hW0] at HA HB
  clear hg hW0 hb0
  by_cases ha : 128 < a0.size
  · have ja : decide ((128 : Int) < (a0.size : Int)) = true := by simp; omega
    clear ha hlong
    go_enter Tryd.func5, Tryd.ntmps5
    go_wp2_with fail
    refine HA.out.mono ?_
    rintro e w1 ⟨rfl, hb1⟩
    have HB1 := Lib.hid (HB.out.trans (hb1.mono HB.out.size))
    clear hb1
    go_wp2
    go_ret
    exact ⟨rfl, HB1.out⟩
  · have ja : decide ((128 : Int) < (a0.size : Int)) = false := by simp; omega
    by_cases hb : 128 < a1.size
    · have jb : decide ((128 : Int) < (a1.size : Int)) = true := by simp; omega
      clear ha hb hlong
      go_enter Tryd.func5, Tryd.ntmps5
      go_wp2_with fail
      refine HA.out.mono ?_
      rintro e w1 ⟨rfl, hb1⟩
      have HB1 := Lib.hid (HB.out.trans (hb1.mono HB.out.size))
      clear hb1
      go_wp2
      go_ret
      exact ⟨rfl, HB1.out⟩
    · have jb : decide ((128 : Int) < (a1.size : Int)) = false := by simp; omega
      have jc : decide ((2000 : Int) < (m2.junk.size : Int)) = true := by simp; omega
      clear ha hb hlong
      go_enter Tryd.func5, Tryd.ntmps5
      go_wp2_with fail
      refine HA.out.mono ?_
      rintro e w1 ⟨rfl, hb1⟩
      have HB1 := Lib.hid (HB.out.trans (hb1.mono HB.out.size))
      clear hb1
      go_wp2
      go_ret
      exact ⟨rfl, HB1.out⟩

theorem wf_one : (Lit.int .i64 1).wf = true := rfl
set_option maxHeartbeats 4000000 in
set_option maxRecDepth 100000 in
theorem walk (a0 : ByteArray) (a1 : ByteArray) (m2 : ND.Mis) (w : World) (w0 : a0.size ≤ 140737488351232) (w1 : a1.size ≤ 140737488351232) (j2 : m2.junk.size ≤ maxLen) (wa2 : (Lit.int .i64 m2.at_).wf = true) (wk2 : (Lit.int .i64 m2.kind).wf = true) (we2 : (Lit.int .i64 m2.keep).wf = true) (hg : ER.ErrorType w) :
    Calls Tryd.prog 5 #[.string a0, .string a1, .agg #[.int .i64 m2.at_, .int .i64 m2.kind, .int .i64 m2.keep, .string m2.junk]] w fun e w' => e = .returned (.bool true) ∧ Below w.heap.size w w' := by
  by_cases hlong : 128 < a0.size ∨ 128 < a1.size ∨ 2000 < m2.junk.size
  · exact walk_long a0 a1 m2 w hg hlong
  have ja : decide ((128 : Int) < (a0.size : Int)) = false := by simp; omega
  have jb : decide ((128 : Int) < (a1.size : Int)) = false := by simp; omega
  have jc : decide ((2000 : Int) < (m2.junk.size : Int)) = false := by simp; omega
  have sa : a0.size ≤ 128 := by omega
  have sb : a1.size ≤ 128 := by omega
  have HG := Lib.hid hg
  obtain ⟨W0, hW0⟩ : ∃ W0, W0 = w.alloc (.cells #[.int .i64 m2.at_, .int .i64 m2.kind, .int .i64 m2.keep, .string m2.junk] 49) := ⟨_, rfl⟩
  obtain ⟨L, hL⟩ : ∃ L, L = w.heap.size := ⟨_, rfl⟩
  have hb0 : Below w.heap.size w W0 := by rw [hW0]; exact (Below.refl _ _).alloc (Nat.le_refl _) _
  have hk0 : Blk W0 L 49 #[.int .i64 m2.at_, .int .i64 m2.kind, .int .i64 m2.keep, .string m2.junk] := by rw [hW0, hL]; exact Blk.new w _ _
  have HW0 := Lib.hid hW0
  have HB0 := Lib.hid hb0
  have HK0 := Lib.hid hk0
  have HL := Lib.hid hL
  have SA := Lib.hid sa
  have SB := Lib.hid sb
  have WE := Lib.hid we2
  have JJ := Lib.hid j2
  clear hlong sa sb hg w0 w1 wa2 wk2 we2 j2 hW0 hb0 hk0 hL
  go_enter Tryd.func5, Tryd.ntmps5
  go_wp2_with fail
  rw [← HW0.out]
  refine (plain_any _).mono ?_
  rintro e w1 ⟨rfl, hb1⟩
  have hk1 := (hb1.block _ HK0.out.lt).trans HK0.out
  have hb1' := HB0.out.trans (hb1.mono HB0.out.size)
  have HK1 : Hid (Blk w1 L 49 #[.int .i64 m2.at_, .int .i64 m2.kind, .int .i64 m2.keep, .string m2.junk]) := Lib.hid hk1
  clear hk1
  go_wp2_with fail
  refine (st_new 16 8 (by omega) w hb1').mono ?_
  clear hb1 hb1'
  rintro e w2 ⟨g, rfl, h2, k2⟩
  have H2 := Lib.hid h2
  have HK2 := Lib.hid (k2 _ _ _ rfl HK1.out)
  clear h2 k2
  go_wp2_with fail
  refine (ND.awake_any w2 (H2.out.et HG.out)).mono ?_
  rintro e w3 ⟨rfl, hb3⟩
  have H3 := Lib.hid (H2.out.below hb3)
  have HK3 := Lib.hid (Errs.below hb3 _ _ _ rfl HK2.out)
  clear hb3
  go_wp2_with fail
  refine (st_program H3.out (by decide) 0 rfl a0).mono ?_
  rintro e w4 ⟨v4, rfl, he4, h4, k4⟩
  rw [t1 SA.out] at he4 h4
  obtain rfl := he4.none rfl
  have H4 := Lib.hid h4
  have hk4 := k4 _ _ _ rfl HK3.out
  have c0 : w4.cell? ⟨L, 0, none⟩ = some (.int .i64 m2.at_) := hk4.cell 0
  have z0 := hk4.frozen 0
  have hk5 := hk4.set_ 0 (.int .i64 1)
  have c1 : (w4.setCell ⟨L, 0, none⟩ (.int .i64 1)).cell? ⟨L, 1, none⟩ = some (.int .i64 m2.kind) := hk5.cell 1
  have z1 := hk5.frozen 1
  have hk6 := hk5.set_ 1 (.int .i64 1)
  have h5 := H4.out.own rfl hk4 (by rw [HL.out]; exact Nat.le_refl _) 0 (.int .i64 1)
  have h6 := h5.own rfl hk5 (by rw [HL.out]; exact Nat.le_refl _) 1 (.int .i64 1)
  have d0 : ((w4.setCell ⟨L, 0, none⟩ (.int .i64 1)).setCell ⟨L, 1, none⟩ (.int .i64 1)).cell? ⟨L, 0, none⟩ = some (.int .i64 1) := hk6.cell 0
  have d1 : ((w4.setCell ⟨L, 0, none⟩ (.int .i64 1)).setCell ⟨L, 1, none⟩ (.int .i64 1)).cell? ⟨L, 1, none⟩ = some (.int .i64 1) := hk6.cell 1
  have d2 : ((w4.setCell ⟨L, 0, none⟩ (.int .i64 1)).setCell ⟨L, 1, none⟩ (.int .i64 1)).cell? ⟨L, 2, none⟩ = some (.int .i64 m2.keep) := hk6.cell 2
  have d3 : ((w4.setCell ⟨L, 0, none⟩ (.int .i64 1)).setCell ⟨L, 1, none⟩ (.int .i64 1)).cell? ⟨L, 3, none⟩ = some (.string m2.junk) := hk6.cell 3
  have H6 := Lib.hid h6
  have HK6 : Hid (Blk ((w4.setCell ⟨L, 0, none⟩ (.int .i64 1)).setCell ⟨L, 1, none⟩ (.int .i64 1)) L 49 #[.int .i64 1, .int .i64 1, .int .i64 m2.keep, .string m2.junk]) := Lib.hid hk6
  rw [← HL.out]
  clear h4 he4 k4 hk4 hk5 hk6 h5 h6
  go_wp2_with fail
  obtain ⟨w6, hw6⟩ : ∃ w6, w6 = (w4.setCell ⟨L, 0, none⟩ (.int .i64 1)).setCell ⟨L, 1, none⟩ (.int .i64 1) := ⟨_, rfl⟩
  have hs6 : w6.heap.size = w4.heap.size := by rw [hw6]; simp [World.setCell]
  rw [← hw6] at H6 HK6 ⊢
  clear hw6 c0 z0 c1 z1 d0 d1 d2 d3
  refine (st_plan_new H6.out [tm m2] _ rfl 1 1 rfl (by simp [maxLen]) (by
    intro m hm
    obtain rfl := List.mem_singleton.1 hm
    exact ⟨rfl, rfl, WE.out, JJ.out⟩) _ hs6).mono ?_
  rintro e w7 ⟨rfl, h7, k7⟩
  rw [show (T1 a0).planned [tm m2] = T2 a0 m2 from by unfold T2; rfl] at h7
  have H7 := Lib.hid h7
  have HK7 := Lib.hid (k7 _ _ _ rfl HK6.out)
  clear h7 k7
  go_wp2_with fail
  refine (st_program H7.out (by show 1 ≤ _; decide) 1 rfl a1).mono ?_
  rintro e w8 ⟨v8, rfl, he8, h8, k8⟩
  rw [t2 m2 SB.out] at he8 h8
  have H8 := Lib.hid h8
  have E8 := Lib.hid he8
  have HK8 := Lib.hid (k8 _ _ _ rfl HK7.out)
  clear h8 k8 he8
  go_wp2_with fail
  refine (st_read H8.out 0 rfl).mono ?_
  rintro e w9 ⟨v9, rfl, he9, h9, k9⟩
  rw [t3r] at he9
  have H9 := Lib.hid h9
  have E8 := Lib.hid (E8.out.keep k9)
  have E9 := Lib.hid he9
  have HK9 := Lib.hid (k9 _ _ _ rfl HK8.out)
  clear h9 k9 he9
  obtain ⟨tx, htx⟩ : ∃ tx, tx = ((T3 a0 a1 m2).read 0).1 := ⟨_, rfl⟩
  rw [← htx]
  clear htx
  go_wp2_with fail
  refine (st_code H9.out HG.out E8.out).mono ?_
  rintro e w10 ⟨rfl, h10, k10⟩
  have H10 := Lib.hid h10
  have E9 := Lib.hid (E9.out.keep k10)
  have HK10 := Lib.hid (k10 _ _ _ rfl HK9.out)
  clear h10 k10
  go_wp2_with fail
  refine (st_down H10.out).mono ?_
  rintro e w11 ⟨rfl, rfl⟩
  rw [t3d]
  go_wp2_with fail
  refine (st_code H10.out HG.out E9.out).mono ?_
  rintro e w11 ⟨rfl, h11, k11⟩
  have H11 := Lib.hid h11
  have HK11 := Lib.hid (k11 _ _ _ rfl HK10.out)
  clear h11 k11
  go_wp2_with fail
  refine (st_erase H11.out (by show 2 ≤ _; decide) 0 rfl).mono ?_
  rintro e w12 ⟨v12, rfl, he12, h12, k12⟩
  rw [t3e] at he12 h12
  have H12 := Lib.hid h12
  have E12 := Lib.hid he12
  have HK12 := Lib.hid (k12 _ _ _ rfl HK11.out)
  clear h12 k12 he12
  go_wp2_with fail
  refine (st_code H12.out HG.out E12.out).mono ?_
  rintro e w13 ⟨rfl, h13, k13⟩
  have H13 := Lib.hid h13
  have HK13 := Lib.hid (k13 _ _ _ rfl HK12.out)
  clear h13 k13
  go_wp2_with fail
  refine (st_up H13.out).mono ?_
  rintro e w14 ⟨rfl, h14, k14⟩
  have hk14 := k14 _ _ _ rfl HK13.out
  have f2 : w14.cell? ⟨L, 2, none⟩ = some (.int .i64 m2.keep) := hk14.cell 2
  have f3 : w14.cell? ⟨L, 3, none⟩ = some (.string m2.junk) := hk14.cell 3
  have H14 := Lib.hid h14
  clear h14 k14 hk14
  have hmn := run_min2 #[3, 3] 3 m2.keep a1.size
  have hmx := run_max2 #[3, 3] 3 (min m2.keep a1.size) 0
  have hk : max (min m2.keep (a1.size : Int)) 0 = (keepOf m2 a1 : Nat) := by unfold keepOf; omega
  have hks : keepOf m2 a1 ≤ a1.size := by unfold keepOf; omega
  obtain ⟨k, hkk⟩ : ∃ k, k = keepOf m2 a1 := ⟨_, rfl⟩
  rw [hk, ← hkk] at hmx
  rw [← hkk] at hks
  obtain ⟨mn, hmm⟩ : ∃ x, x = min m2.keep (a1.size : Int) := ⟨_, rfl⟩
  rw [← hmm] at hmn hmx
  have e1 : (0 : Int) ≤ (k : Int) := by omega
  have e2 : (k : Int) ≤ (a1.size : Int) := by omega
  have hj2 : m2.junk.size ≤ 2000 := by simp at jc; omega
  have hadd : ∀ w' : World, (Op.stringOp .add (a1.extract 0 k) m2.junk).run Tryd.prog w' = .ok (.string (a1.extract 0 k ++ m2.junk)) w' := fun w' => run_string_add_sum w' _ _ (by rw [ByteArray.size_extract]; have := SB.out; omega)
  have hX : (a1.extract 0 k ++ m2.junk).size ≤ 2128 := by rw [ByteArray.size_append, ByteArray.size_extract]; have := SB.out; omega
  obtain ⟨X, hXX⟩ : ∃ X, X = a1.extract 0 k ++ m2.junk := ⟨_, rfl⟩
  rw [← hXX] at hadd hX
  have hmn3 := run_min2 #[3, 3] 3 X.size 128
  obtain ⟨j, hj⟩ : ∃ j : Nat, j = min X.size 128 := ⟨_, rfl⟩
  rw [show min (X.size : Int) 128 = (j : Int) by omega] at hmn3
  have e3 : (0 : Int) ≤ (j : Int) := by omega
  have e4 : (j : Int) ≤ (X.size : Int) := by omega
  have hwant : X.extract 0 j = spoilt { tm m2 with junk := cut m2.junk } a1 := by
    rw [wanted, hXX, hkk, hj, hXX, hkk]; rfl
  have HWANT := Lib.hid hwant
  clear hk hkk hmm hj2 hX hXX hj hwant
  go_wp2
  go_quiet (fail)
  go_wp2_with fail
  obtain ⟨W15, hW15⟩ : ∃ W, W = w14.drewN nq := ⟨_, rfl⟩
  have H15 : Hid (St w W15 g (T3 a0 a1 m2).up) := by rw [hW15]; exact Lib.hid (H14.out.below (drewN_below (Below.refl _ _) _))
  rw [← hW15, HWANT.out]
  clear hW15
  refine (st_read H15.out 0 rfl).mono ?_
  rintro e w16 ⟨v16, rfl, he16, h16, k16⟩
  rw [t4a] at he16
  obtain rfl := he16.none rfl
  rw [t4a]
  have H16 := Lib.hid h16
  clear h16 k16 he16 f2 f3 hmn hmx hadd hmn3 e1 e2 e3 e4
  go_wp2_with fail
  refine (st_read H16.out 1 rfl).mono ?_
  rintro e w17 ⟨v17, rfl, he17, h17, k17⟩
  rw [t4b] at he17
  obtain rfl := he17.none rfl
  rw [t4b]
  have H17 := Lib.hid h17
  clear h17 k17 he17
  obtain ⟨T, hT⟩ : ∃ T, T = spoilt { tm m2 with junk := cut m2.junk } a1 := ⟨_, rfl⟩
  rw [← hT]
  clear hT HWANT
  go_wp2_with fail
  refine (st_next H17.out 0).mono ?_
  rintro e w18 ⟨rfl, rfl⟩
  rw [t3n]
  go_wp2_with fail
  refine (st_program H17.out (by show 2 ≤ _; decide) 2 rfl a0).mono ?_
  rintro e w19 ⟨v19, rfl, he19, h19, k19⟩
  rw [t5 m2 SA.out] at he19 h19
  obtain rfl := he19.none rfl
  have H19 := Lib.hid h19
  clear h19 k19 he19
  go_wp2_with fail
  refine (st_program H19.out (by show 3 ≤ _; decide) 1 rfl a1).mono ?_
  rintro e w20 ⟨v20, rfl, he20, h20, k20⟩
  rw [t6 m2 SB.out] at he20 h20
  have H20 := Lib.hid h20
  have E20 := Lib.hid he20
  clear h20 k20 he20
  go_wp2_with fail
  refine (st_code H20.out HG.out E20.out).mono ?_
  rintro e w21 ⟨rfl, h21, k21⟩
  have H21 := Lib.hid h21
  clear h21 k21
  go_wp2_with fail
  refine (st_ops H21.out).mono ?_
  rintro e w22 ⟨rfl, rfl⟩
  rw [t7]
  go_wp2
  go_ret
  exact ⟨rfl, H21.out.bel⟩

set_option maxRecDepth 100000 in
theorem lifted (os : Os) (started : os.Started) (H : Type) (enc : TypeId × Value → H) :
    ReturnsInHanded {} Tryd.checked os 5 .any (fun w args => (Rows.nandTornSpec.pre enc Tryd.prog Tryd.f5 [] false w args ∧ laidMetH Tryd.prog [("errors.errorType", Rows.laid_errors_errorType)] w) ∧ sizedMet enc Tryd.prog Tryd.f5 (OpenSpec.ofChange Rows.nandTornSpec) false w args) (Rows.nandTornSpec.post enc Tryd.prog Tryd.f5 false true false false) := by
  refine returnsInHanded_of_change_and (C := Tryd.checked) (X := (fun w _ => laidMetH Tryd.prog [("errors.errorType", Rows.laid_errors_errorType)] w)) (fun _ _ _ hh h => h.of_heap hh) own started (by kernel_rfl) Tryd.func5
    (ChangeSpec.witness_at (enc := enc) (C := Tryd.checked) (os := os) (X := (fun w _ => laidMetH Tryd.prog [("errors.errorType", Rows.laid_errors_errorType)] w)) false (laidWorld os) #[.string ByteArray.empty, .string ByteArray.empty, .agg #[.int .i64 0, .int .i64 0, .int .i64 0, .string ByteArray.empty]] 8 rfl (by kernel_rfl) (by kernel_rfl) (by kernel_rfl) (by kernel_rfl) (by kernel_rfl) (laidWorld_met os _)) ?_
  intro W base args ds gs before hval0 hW _ hsz0 hL _
  have hval : ∀ (j : Nat) t v, Tryd.f5.params[j]? = some t → args[j]? = some v → Value.okWide Tryd.prog W .any base t v := hval0
  have hW' := hW
  obtain ⟨p, q, hA0, hV, rfl, hfz, hnd⟩ := hW
  have hA : DataW.TrodAll enc Tryd.prog W 0 (fun _ => true) true Tryd.f5.params.toList args.toList ds p := hA0
  have hsz : (DataW.weightsEach Tryd.prog (Tryd.f5.params.toList ++ Rows.nandTornSpec.plain.varTypes Tryd.prog) (ds ++ gs)).all (· ≤ reachBytes) = true := hsz0
  rw [Tryd.params5] at hA hval hsz
  obtain ⟨v0, vs0, d0, ds0, p0, q0, hargs, rfl, rfl, h0, r0⟩ := trodAll_cons hA
  obtain ⟨v1, vs1, d1, ds1, p1, q1, rfl, rfl, rfl, h1, r1⟩ := trodAll_cons r0
  obtain ⟨v2, vs2, d2, ds2, p2, q2, rfl, rfl, rfl, h2, r2⟩ := trodAll_cons r1
  obtain ⟨rfl, rfl, rfl⟩ := trodAll_nil r2
  obtain rfl : args = #[v0, v1, v2] := by cases args; simp_all
  obtain ⟨rfl, rfl⟩ := trodVars_none hV
  obtain ⟨a0, rfl, rfl, rfl, m0⟩ := open_string Tryd.underlying9 (hval 0 9 v0 rfl rfl) h0
  obtain ⟨a1, rfl, rfl, rfl, m1⟩ := open_string Tryd.underlying9 (hval 1 9 v1 rfl rfl) h1
  have k2 := h2
  have lt2 : ∀ x ∈ p2, x.block < W.heap.size := by obtain ⟨m, hm⟩ := k2; exact DataW.trod_lt m _ _ _ hm
  obtain ⟨m2, rfl, j2, wa2, wk2, we2⟩ := OP.open_mishap (hval 2 49 v2 rfl rfl) h2
  have w0 : a0.size ≤ 140737488351232 := by have := sized_string hsz (j := 0) (t := 9) (bytes := a0.data.toList) rfl rfl; simpa [reachBytes] using this
  have w1 : a1.size ≤ 140737488351232 := by have := sized_string hsz (j := 1) (t := 9) (bytes := a1.data.toList) rfl rfl; simpa [reachBytes] using this
  have hg := handle_of_laid hL
  clear hA0 hval0 hsz0
  refine (walk a0 a1 m2 W w0 w1 j2 wa2 wk2 we2 hg).mono fun e W' ⟨he, bel⟩ => ?_
  subst he
  exact ⟨_, rfl, _, _, _, [], _, [], hW', trodAll_mk1 (shut_bool Tryd.underlying4 _), (trodAll_cons_mk (shut_string Tryd.underlying9 m0) (trodAll_cons_mk (shut_string Tryd.underlying9 m1) (trodAll_cons_mk (Below.trod laidOut (by kernel_rfl) (of_decide_eq_true (by kernel_rfl)) k2 bel lt2) trodAll_mk0))), rfl, bel.frame _, fun h => by cases h⟩

theorem over : Rows.NandTornSaid :=
  OpenClaim.holds_of_wide 5 Tryd.f5 rfl rfl rfl rfl rfl rfl rfl ⟨rfl, rfl, rfl, rfl, rfl⟩ rfl rfl rfl rfl rfl (by kernel_rfl) Tryd.func5 (by kernel_rfl)
    (of_decide_eq_true (by kernel_rfl)) (by unfold Func.isWrapper; first | (rw [if_pos (by decide +kernel)]; kernel_rfl) | (rw [if_neg (by decide +kernel)]; exact ⟨rfl, rfl⟩))
    (fun os started H enc _ => lifted os started H enc)

/-- The card: the row, its one listed variable tied to the program's text. -/
theorem proved : Rows.NandTornCardSaid :=
  Claim7.holds_tied_plain_at .later [] [.handle] true _ true
    over (fun _ h => by cases h) (by kernel_rfl) (fun _ h => by cases h) nandTorn_row_tie rfl ⟨rfl, rfl⟩ (by kernel_rfl) rfl
    (fun f fn hf hfn => by
      obtain rfl : f = 5 := Option.some.inj ((show Tryd.prog.funcNamed "scoria/scorialaw04.NandTorn" = some 5 by kernel_rfl).symm.trans hf) |>.symm
      obtain rfl : fn = Tryd.f5 := (Option.some.inj (Tryd.func5.symm.trans hfn)).symm
      exact ⟨by kernel_rfl, fun j t ht => by
        rw [Tryd.params5] at ht
        have hm : t ∈ [9, 9, 49] := by simpa using Array.mem_of_getElem? ht
        have hall : ([9, 9, 49].all fun u => !Tryd.prog.wantsStandIn u) = true := by kernel_rfl
        exact (show Tryd.prog.wantsStandIn t = false by simpa using List.all_eq_true.1 hall t hm)⟩)
    (by kernel_rfl)
#print axioms proved
end Go.Proofs.YtnbfejombealiabDoor.nandTorn
