/- The law NandBad holds: its Go text answers true for every input, and leaves its arguments as they were. No condition beyond the statement's own (errors.errorType holds what start-up lays; the card ties it to the program's text). -/
import Derived.Test.YtnbfejombealiabDoorRows
import Derived.Test.YtnbfejombealiabDoorCards
import Derived.Test.YtnbfejombealiabDoorTie
import Derived.Test.YtnbfejombealiabDoorOpen4
import Derived.Test.YtnbfejombealiabDoorAwake4
import Derived.Test.YtnbfejombealiabDoorNdEq
import Derived.Outline
import Derived.IntWalk
import Derived.Deep.QuietTactic
import Derived.BigQuiet
import Derived.ProofKit
import Derived.OpenShut
import Derived.ShutString
import Derived.ChangeOld
import Derived.ChangeSame
import Derived.ChangeVars
import Derived.Below
import Derived.SizedLaws
import Derived.JoinedOf
import Derived.RowKitTokens
import Derived.LaidLaws
import Derived.LaidHandle
import Derived.LaidMore
import Derived.Stop.Joined
import Derived.SevenTiedAt
namespace Go.Proofs.YtnbfejombealiabDoor.nandBad
open Go.ChangeShapes Go.WideShapes Go.ChangeAt Go.RowKit
open Go.ChangeMaps (open_string shut_string)
open Go.Proofs.YtnbfejombealiabDoor
set_option linter.unusedVariables false
set_option linter.unusedSimpArgs false

theorem own : ownKnob Tryd.prog.godebug = none := by kernel_rfl
theorem laidOut : laidOutB Tryd.prog = true := by kernel_rfl
theorem et : Tryd.prog.globalNamed "errors.errorType" = some 0 := by kernel_rfl
theorem rt : (Tryd.prog.cutTypes.find? (·.1 == "internal/reflectlite.rtype")).map (·.2) = some 100 := by kernel_rfl
theorem oneRow : ((List.range 142).filter fun t => Tryd.prog.rowNamed t [101, 114, 114, 111, 114]) = [25] := by kernel_rfl
theorem tsize : Tryd.prog.types.size = 142 := by kernel_rfl
/-- What the condition gives the walk. -/
theorem handle_of_laid {W : World} (h : laidMetH Tryd.prog [("errors.errorType", Rows.laid_errors_errorType)] W) : ER.ErrorType W := by
  have h' : laidMet Tryd.prog [] W ∧ handlesMet Tryd.prog [("errors.errorType", Rows.laid_errors_errorType)] W := h
  obtain ⟨name, u, ty, e1, e2, e3, e4, e5⟩ := h'.2 _ (List.mem_singleton.2 rfl)
  have en : name = [101, 114, 114, 111, 114] := (Option.some.inj e1).symm
  subst en
  obtain rfl := Option.some.inj (rt.symm.trans e2)
  have hm : ty ∈ (List.range 142).filter fun t => Tryd.prog.rowNamed t [101, 114, 114, 111, 114] := List.mem_filter.2 ⟨List.mem_range.2 (by rw [← tsize]; exact e3), e4⟩
  rw [oneRow] at hm
  obtain rfl := List.mem_singleton.1 hm
  have hh : typeHandle Tryd.prog 25 = .pointer (some ⟨1, 25, none⟩) := by kernel_rfl
  rw [hh] at e5
  have := World.var?_cell et e5 0
  unfold ER.ErrorType
  simpa using this
/-- A world that meets the condition: the settled one, the variable's cell laid. -/
noncomputable def laidWorld (os : Os) : World :=
  let w0 := World.holding Tryd.prog os ⟨#[], #[], []⟩
  { w0 with heap := w0.heap.modify 0 fun
      | .cells _ t frozen => .cells #[.iface 100 (.agg #[.pointer (some ⟨1, 25, none⟩)])] t frozen
      | o => o }
theorem laidWorld_met (os : Os) (args : Array Value) : laidMetH Tryd.prog [("errors.errorType", Rows.laid_errors_errorType)] ((laidWorld os).forCall (fun _ _ => 0) ⟨#[], args, []⟩).memory :=
  laidMetH_of_parts (laidMet_nil _ _) (by kernel_rfl)

open ER MM OP ND

/-- What is so at the end, of the block b. -/
structure Fin (D : Nd) (b nx : Nat) (a : ByteArray) : Prop where
  read : D.read ((8 * b : Nat) : Int) = (a, 0)
  bad : ∀ i : Nat, i < 16 → D.badAt (i : Int) = decide (i = b)
  next : D.nextAt (b : Int) = nx
  prog : D.program ((8 * b + nx : Nat) : Int) a = (D, 41)
  erase : D.erase (b : Int) = (D, 41)
  worn : D.wornAt (b : Int) = 0
  down : D.down = false
  ops : D.ops = 3 ∨ D.ops = 2

def B1 (b : Nat) (a : ByteArray) : Nd := ((fresh 16 8).counted).wrote (8 * b) a
def pl : List Mis := [⟨1, 2, 0, ⟨#[]⟩⟩, ⟨1, 3, 0, ⟨#[]⟩⟩, ⟨2, 3, 0, ⟨#[]⟩⟩]
def B2 (b : Nat) (a : ByteArray) : Nd := (B1 b a).planned pl
def B3 (b c : Nat) (a : ByteArray) : Nd := { ((B2 b a).counted).fill c ByteArray.empty with next := put (B2 b a).next c 0, worn := put (B2 b a).worn c 1 }
def B4 (b c : Nat) (a : ByteArray) : Nd := { (B3 b c a).counted with bad := put (B3 b c a).bad b true }
def P3 (b : Nat) (a t : ByteArray) : Nd := { ((B2 b a).counted).wrote (8 * b + 1) (spoilt (B2 b a).mis t) with bad := put (B2 b a).bad b true }
theorem div8 (b : Nat) : 8 * b / 8 = b := by omega
theorem b1 {b : Nat} {a : ByteArray} (hb : b < 16) (ha : a.size ≤ 128) : (fresh 16 8).program ((8 * b : Nat) : Int) a = (B1 b a, 0) := by
  have := program_eq (d := fresh 16 8) (p := 8 * b) (s := a) rfl (by show _ < 16 * 8; omega) ha rfl (by show 0 = 8 * b % 8; omega)
  rw [this]; rfl
theorem b1_next (b : Nat) (a : ByteArray) : (B1 b a).next = put (fun _ => 0) b 1 := by
  show put (fun _ => 0) (8 * b / 8) _ = _
  rw [div8]; rfl
theorem b2_mis (b : Nat) (a : ByteArray) : (B2 b a).mis = ⟨1, 2, 0, cut ⟨#[]⟩⟩ := by kernel_rfl
theorem b3 {b c : Nat} {a : ByteArray} (hc : c < 16) : (B2 b a).erase (c : Int) = (B3 b c a, 0) := by
  have := erase_eq (d := B2 b a) (b := c) rfl hc rfl
  rw [this, b2_mis]
  rfl
theorem b3_mis (b c : Nat) (a : ByteArray) : (B3 b c a).mis = ⟨2, 3, 0, cut ⟨#[]⟩⟩ := by kernel_rfl
theorem b4 {b c : Nat} {a : ByteArray} (hb : b < 16) : (B3 b c a).erase (b : Int) = (B4 b c a, 41) := by
  have := erase_eq (d := B3 b c a) (b := b) rfl hb rfl
  rw [this, b3_mis]
  rfl
theorem p3 {b : Nat} {a t : ByteArray} (hb : b < 16) (ht : t.size ≤ 128) : (B2 b a).program ((8 * b + 1 : Nat) : Int) t = (P3 b a t, 41) := by
  have e : (8 * b + 1) / 8 = b := by omega
  have := program_eq (d := B2 b a) (p := 8 * b + 1) (s := t) rfl (by show _ < 16 * 8; omega) ht rfl (by
    show (B1 b a).next ((8 * b + 1) / 8) = (8 * b + 1) % 8
    rw [b1_next, e, put_same]; omega)
  rw [this]
  have h2 : brings (B2 b a).mis 2 = 41 := by kernel_rfl
  rw [h2]
  unfold Nd.takes
  rw [h2]
  show (Nd.suffer _ ((8 * b + 1) / 8) 41, (41 : Int)) = _
  rw [e]
  rfl
theorem fin4 {b c : Nat} {a : ByteArray} (hb : b < 16) (hc : c ≠ b) (ha : a.size ≤ 128) : Fin (B4 b c a) b 1 a where
  read := by
    have hn : (B4 b c a).next b = 1 := by
      show put (B1 b a).next c 0 b = 1
      rw [put_other _ _ (Ne.symm hc), b1_next, put_same]
    rw [read_eq (p := 8 * b) rfl (by show _ < 16 * 8; omega) (by show 8 * b % 8 < (B4 b c a).next (8 * b / 8); rw [div8, hn]; omega)]
    have ht : (B4 b c a).txt (8 * b) = a := by
      show (if 8 * b / 8 = c then ByteArray.empty else put _ (8 * b) a (8 * b)) = a
      rw [div8, if_neg (Ne.symm hc), put_same]
    rw [ht]
  bad i hi := by
    unfold Nd.badAt
    rw [has_block (d := B4 b c a) hi, if_pos rfl]
    show put (fun _ => false) b true (i : Int).toNat = _
    rw [show ((i : Int)).toNat = i by omega]
    unfold put
    by_cases h : i = b <;> simp [h]
  next := by
    unfold Nd.nextAt
    rw [has_block (d := B4 b c a) hb, if_pos rfl, show ((b : Int)).toNat = b by omega]
    show ((put (B1 b a).next c 0 b : Nat) : Int) = 1
    rw [put_other _ _ (Ne.symm hc), b1_next, put_same]; rfl
  prog := program_bad rfl (by show _ < 16 * 8; omega) ha (by
    show put (fun _ => false) b true ((8 * b + 1) / 8) = true
    rw [show (8 * b + 1) / 8 = b by omega, put_same])
  erase := erase_is_bad rfl hb (by show put (fun _ => false) b true b = true; rw [put_same])
  worn := by
    unfold Nd.wornAt
    rw [has_block (d := B4 b c a) hb, if_pos rfl, show ((b : Int)).toNat = b by omega]
    show ((put (fun _ => 0) c 1 b : Nat) : Int) = 0
    rw [put_other _ _ (Ne.symm hc)]; rfl
  down := rfl
  ops := .inl rfl
theorem finP {b : Nat} {a t : ByteArray} (hb : b < 16) (ha : a.size ≤ 128) : Fin (P3 b a t) b 2 a where
  read := by
    have hn : (P3 b a t).next b = 2 := by
      show put (B1 b a).next ((8 * b + 1) / 8) ((B1 b a).next ((8 * b + 1) / 8) + 1) b = 2
      rw [show (8 * b + 1) / 8 = b by omega, put_same, b1_next, put_same]
    rw [read_eq (p := 8 * b) rfl (by show _ < 16 * 8; omega) (by show 8 * b % 8 < (P3 b a t).next (8 * b / 8); rw [div8, hn]; omega)]
    have ht : (P3 b a t).txt (8 * b) = a := by
      show put (put _ (8 * b) a) (8 * b + 1) _ (8 * b) = a
      rw [put_other _ _ (by omega), put_same]
    rw [ht]
  bad i hi := by
    unfold Nd.badAt
    rw [has_block (d := P3 b a t) hi, if_pos rfl]
    show put (fun _ => false) b true (i : Int).toNat = _
    rw [show ((i : Int)).toNat = i by omega]
    unfold put
    by_cases h : i = b <;> simp [h]
  next := by
    unfold Nd.nextAt
    rw [has_block (d := P3 b a t) hb, if_pos rfl, show ((b : Int)).toNat = b by omega]
    show ((put (B1 b a).next ((8 * b + 1) / 8) ((B1 b a).next ((8 * b + 1) / 8) + 1) b : Nat) : Int) = 2
    rw [show (8 * b + 1) / 8 = b by omega, put_same, b1_next, put_same]; rfl
  prog := program_bad rfl (by show _ < 16 * 8; omega) ha (by
    show put (fun _ => false) b true ((8 * b + 2) / 8) = true
    rw [show (8 * b + 2) / 8 = b by omega, put_same])
  erase := erase_is_bad rfl hb (by show put (fun _ => false) b true b = true; rw [put_same])
  worn := by
    unfold Nd.wornAt
    rw [has_block (d := P3 b a t) hb, if_pos rfl, show ((b : Int)).toNat = b by omega]
    rfl
  down := rfl
  ops := .inr rfl

set_option maxHeartbeats 2000000 in
set_option maxRecDepth 100000 in
theorem walk_long (n0 : Int) (b0 : Bool) (a1 : ByteArray) (a2 : ByteArray) (w : World) (hg : ER.ErrorType w) (hlong : 128 < a1.size ∨ 128 < a2.size) :
    Calls Tryd.prog 6 #[.agg #[.int .i64 n0, .bool b0], .string a1, .string a2] w fun e w' => e = .returned (.bool true) ∧ Below w.heap.size w w' := by
  obtain ⟨W0, hW0⟩ : ∃ W0, W0 = w.alloc (.cells #[.int .i64 n0, .bool b0] 54) := ⟨_, rfl⟩
  have hb0 : Below w.heap.size w W0 := by rw [hW0]; exact (Below.refl _ _).alloc (Nat.le_refl _) _
  have HA := Lib.hid (fun w' (h : Below w.heap.size w w') => ND.awake_any w' (hg.kept h))
  have HB := Lib.hid hb0
  have HW := Lib.hid hW0
  clear hg hW0 hb0
  by_cases ha : 128 < a1.size
  · have ja : decide ((128 : Int) < (a1.size : Int)) = true := by simp; omega
    clear ha hlong
    go_enter Tryd.func6, Tryd.ntmps6
    go_wp2
    go_quiet (fail)
    go_wp2_with fail
    have hbq : Below w.heap.size w ((w.alloc (.cells #[.int .i64 n0, .bool b0] 54)).drewN nq) := drewN_below ((Below.refl _ _).alloc (Nat.le_refl _) _) _
    refine (HA.out _ hbq).mono ?_
    rintro e w1 ⟨rfl, hb1⟩
    have HB1 := Lib.hid (hbq.trans (hb1.mono hbq.size))
    clear hb1 hbq
    go_wp2
    go_ret
    exact ⟨rfl, HB1.out⟩
  · have ja : decide ((128 : Int) < (a1.size : Int)) = false := by simp; omega
    have jb : decide ((128 : Int) < (a2.size : Int)) = true := by simp; omega
    clear ha hlong
    go_enter Tryd.func6, Tryd.ntmps6
    go_wp2
    go_quiet (fail)
    go_wp2_with fail
    have hbq : Below w.heap.size w ((w.alloc (.cells #[.int .i64 n0, .bool b0] 54)).drewN nq) := drewN_below ((Below.refl _ _).alloc (Nat.le_refl _) _) _
    refine (HA.out _ hbq).mono ?_
    rintro e w1 ⟨rfl, hb1⟩
    have HB1 := Lib.hid (hbq.trans (hb1.mono hbq.size))
    clear hb1 hbq
    go_wp2
    go_ret
    exact ⟨rfl, HB1.out⟩

set_option maxHeartbeats 4000000 in
set_option maxRecDepth 100000 in
theorem walk (n0 : Int) (b0 : Bool) (a1 : ByteArray) (a2 : ByteArray) (w : World) (w0 : (Lit.int .i64 n0).wf = true) (w1 : a1.size ≤ 140737488351232) (w2 : a2.size ≤ 140737488351232) (hg : ER.ErrorType w) :
    Calls Tryd.prog 6 #[.agg #[.int .i64 n0, .bool b0], .string a1, .string a2] w fun e w' => e = .returned (.bool true) ∧ Below w.heap.size w w' := by
  by_cases hlong : 128 < a1.size ∨ 128 < a2.size
  · exact walk_long n0 b0 a1 a2 w hg hlong
  have ja : decide ((128 : Int) < (a1.size : Int)) = false := by simp; omega
  have jb : decide ((128 : Int) < (a2.size : Int)) = false := by simp; omega
  have sa : a1.size ≤ 128 := by omega
  have sb : a2.size ≤ 128 := by omega
  have HG := Lib.hid hg
  have SA := Lib.hid sa
  have SB := Lib.hid sb
  clear hlong sa sb hg w1 w2
  go_enter Tryd.func6, Tryd.ntmps6
  go_wp2
  go_quiet (fail)
  go_wp2_with fail
  have hmod : ∃ b : Nat, (wrap64 (n0.tmod 16 + 16)).tmod 16 = (b : Int) ∧ b < 16 := by
    have h1 : -16 < n0.tmod 16 ∧ n0.tmod 16 < 16 := ⟨by have := Int.lt_tmod_of_pos n0 (show (0 : Int) < 16 by decide); omega, Int.tmod_lt_of_pos n0 (by decide)⟩
    have h2 : wrap64 (n0.tmod 16 + 16) = n0.tmod 16 + 16 := by unfold wrap64; omega
    rw [h2]
    have h3 : 0 ≤ (n0.tmod 16 + 16).tmod 16 := Int.tmod_nonneg _ (by omega)
    have h4 := Int.tmod_lt_of_pos (n0.tmod 16 + 16) (show (0 : Int) < 16 by decide)
    exact ⟨((n0.tmod 16 + 16).tmod 16).toNat, by omega, by omega⟩
  obtain ⟨b, hbe, hb16⟩ := hmod
  rw [hbe]
  obtain ⟨p, hp⟩ : ∃ p, p = 8 * b := ⟨_, rfl⟩
  obtain ⟨c, hc⟩ : ∃ c, c = (b + 1) % 16 := ⟨_, rfl⟩
  have hcb : c ≠ b := by omega
  have hc16 : c < 16 := by omega
  have r8 : IntKind.i64.wrap (8 * (b : Int)) = (p : Int) := (IntWalk.i64_in _ (by omega)).trans (by omega)
  have r1 : IntKind.i64.wrap ((b : Int) + 1) = (b : Int) + 1 := IntWalk.i64_in _ (by omega)
  have r2 : ((b : Int) + 1).tmod 16 = (c : Int) := by rw [hc, Int.tmod_eq_emod_of_nonneg (by omega)]; omega
  have r9 : IntKind.i64.wrap ((p : Int) + 1) = ((p + 1 : Nat) : Int) := (IntWalk.i64_in _ (by omega)).trans (by omega)
  have r10 : IntKind.i64.wrap ((p : Int) + 2) = ((p + 2 : Nat) : Int) := (IntWalk.i64_in _ (by omega)).trans (by omega)
  have wp : (Lit.int .i64 (p : Int)).wf = true := WalkArith.wf_i64 (by omega)
  have wp1 : (Lit.int .i64 ((p + 1 : Nat) : Int)).wf = true := WalkArith.wf_i64 (by omega)
  have wp2 : (Lit.int .i64 ((p + 2 : Nat) : Int)).wf = true := WalkArith.wf_i64 (by omega)
  have wb : (Lit.int .i64 (b : Int)).wf = true := WalkArith.wf_i64 (by omega)
  have wc : (Lit.int .i64 (c : Int)).wf = true := WalkArith.wf_i64 (by omega)
  obtain ⟨q1, hq1⟩ : ∃ q, q = ((p + 1 : Nat) : Int) := ⟨_, rfl⟩
  obtain ⟨q2, hq2⟩ : ∃ q, q = ((p + 2 : Nat) : Int) := ⟨_, rfl⟩
  rw [← hq1] at r9 wp1
  rw [← hq2] at r10 wp2
  have HBE := Lib.hid hbe
  have HB16 := Lib.hid hb16
  have HP := Lib.hid hp
  have HC := Lib.hid hc
  have HCB := Lib.hid hcb
  have HC16 := Lib.hid hc16
  have WP := Lib.hid wp
  have WP1 := Lib.hid wp1
  have WP2 := Lib.hid wp2
  have WB := Lib.hid wb
  have WC := Lib.hid wc
  have HQ1 := Lib.hid hq1
  have HQ2 := Lib.hid hq2
  clear hbe hb16 hp hc hcb hc16 wp wp1 wp2 wb wc hq1 hq2
  have hbq : Below w.heap.size w ((w.alloc (.cells #[.int .i64 n0, .bool b0] 54)).drewN nq) := drewN_below ((Below.refl _ _).alloc (Nat.le_refl _) _) _
  refine (plain_any _).mono ?_
  rintro e w1 ⟨rfl, hb1⟩
  have hb1' := hbq.trans (hb1.mono hbq.size)
  go_wp2_with fail
  refine (st_new 16 8 (by omega) w hb1').mono ?_
  clear hb1 hb1' hbq
  rintro e w2 ⟨g, rfl, h2, _⟩
  have H2 := Lib.hid h2
  clear h2
  go_wp2_with fail
  refine (ND.awake_any w2 (H2.out.et HG.out)).mono ?_
  rintro e w3 ⟨rfl, hb3⟩
  have H3 := Lib.hid (H2.out.below hb3)
  clear hb3
  go_wp2_with fail
  refine (st_program H3.out (by decide) (p : Int) WP.out a1).mono ?_
  rintro e w4 ⟨v4, rfl, he4, h4, k4⟩
  rw [HP.out, b1 HB16.out SA.out] at he4 h4
  obtain rfl := he4.none rfl
  have H4 := Lib.hid h4
  clear he4 h4 k4
  go_wp2_with fail
  refine (st_plan_new H4.out pl _ rfl 3 3 rfl (by decide) (by intro m hm; simp [pl] at hm; rcases hm with rfl | rfl | rfl <;> exact ⟨rfl, rfl, rfl, by decide⟩) _ rfl).mono ?_
  rintro e w5 ⟨rfl, h5, k5⟩
  rw [show (B1 b a1).planned pl = B2 b a1 from rfl] at h5
  have H5 := Lib.hid h5
  clear h5 k5
  cases b0 with
  | true =>
    go_wp2_with fail
    refine (st_erase H5.out (by show 1 ≤ _; decide) (c : Int) WC.out).mono ?_
    rintro e w6 ⟨v6, rfl, he6, h6, k6⟩
    rw [b3 HC16.out] at he6 h6
    obtain rfl := he6.none rfl
    have H6 := Lib.hid h6
    clear he6 h6 k6
    go_wp2_with fail
    refine (st_erase H6.out (by show 2 ≤ _; decide) (b : Int) WB.out).mono ?_
    rintro e w7 ⟨v7, rfl, he7, h7, k7⟩
    rw [b4 HB16.out] at he7 h7
    have H7 := Lib.hid h7
    have E7 := Lib.hid he7
    clear he7 h7 k7
    go_wp2_with fail
    refine (st_code H7.out HG.out E7.out).mono ?_
    rintro e w8 ⟨rfl, h8, k8⟩
    have H8 := Lib.hid h8
    have FN := Lib.hid (fin4 (b := b) (c := c) (a := a1) HB16.out HCB.out SA.out)
    clear h8 k8
    obtain ⟨D, hD⟩ : ∃ D, D = B4 b c a1 := ⟨_, rfl⟩
    rw [← hD] at H8 FN
    clear hD H7 E7
    go_wp2_with fail
    refine (st_read H8.out (p : Int) WP.out).mono ?_
    rintro e w9 ⟨v9, rfl, he9, h9, k9⟩
    rw [HP.out, FN.out.read] at he9
    obtain rfl := he9.none rfl
    rw [HP.out, FN.out.read, ← HP.out]
    have H9 := Lib.hid h9
    clear he9 h9 k9
    go_wp2
    go_loopw [14] (fun i wr => ∃ k : Nat, k ≤ 16 ∧ i = .int .i64 k ∧ w9 = wr) (fun i _ => 16 - (intOf i).toNat)
    case atStart => exact ⟨0, by omega, rfl, rfl⟩
    case round =>
      obtain ⟨k, hk, rfl, rfl⟩ := hrel
      by_cases hlt : k < 16
      · have hw1 : IntKind.i64.wrap ((k : Int) + 1) = (k : Int) + 1 := IntWalk.i64_in _ (by omega)
        have hbad := FN.out.bad k hlt
        have j1 : decide ((k : Int) < 16) = true := by simp; omega
        by_cases hkb : k = b
        · have j2 : ((k : Int) == (b : Int)) = true := by simp [hkb]
          rw [decide_eq_true hkb] at hbad
          have HBAD := Lib.hid hbad
          clear hbad hkb
          go_wp2_with fail
          refine (st_bad H9.out (k : Int)).mono ?_
          rintro e w10 ⟨rfl, rfl⟩
          rw [HBAD.out]
          go_wp2
          go_roundw
          case rel => exact ⟨k + 1, by omega, by go_num, trivial⟩
          case measure => simp [intOf]; omega
        · have j2 : ((k : Int) == (b : Int)) = false := beq_eq_false_iff_ne.2 (by omega)
          rw [decide_eq_false hkb] at hbad
          have HBAD := Lib.hid hbad
          clear hbad hkb
          go_wp2_with fail
          refine (st_bad H9.out (k : Int)).mono ?_
          rintro e w10 ⟨rfl, rfl⟩
          rw [HBAD.out]
          go_wp2
          go_roundw
          case rel => exact ⟨k + 1, by omega, by go_num, trivial⟩
          case measure => simp [intOf]; omega
      · have j1 : decide ((k : Int) < 16) = false := by simp; omega
        go_wp2_with fail
        refine (st_next H9.out (b : Int)).mono ?_
        rintro e w10 ⟨rfl, rfl⟩
        rw [FN.out.next]
        go_wp2_with fail
        refine (st_program H9.out (by rcases FN.out.ops with h | h <;> rw [h] <;> decide) q1 WP1.out a1).mono ?_
        rintro e w11 ⟨v11, rfl, he11, h11, k11⟩
        rw [HQ1.out, HP.out, FN.out.prog] at he11 h11
        have H11 := Lib.hid h11
        have E11 := Lib.hid he11
        clear he11 h11 k11
        go_wp2_with fail
        refine (st_code H11.out HG.out E11.out).mono ?_
        rintro e w12 ⟨rfl, h12, k12⟩
        have H12 := Lib.hid h12
        clear h12 k12
        go_wp2_with fail
        refine (st_erase H12.out (by rcases FN.out.ops with h | h <;> rw [h] <;> decide) (b : Int) WB.out).mono ?_
        rintro e w13 ⟨v13, rfl, he13, h13, k13⟩
        rw [FN.out.erase] at he13 h13
        have H13 := Lib.hid h13
        have E13 := Lib.hid he13
        clear he13 h13 k13
        go_wp2_with fail
        refine (st_code H13.out HG.out E13.out).mono ?_
        rintro e w14 ⟨rfl, h14, k14⟩
        have H14 := Lib.hid h14
        clear h14 k14
        go_wp2_with fail
        refine (st_worn H14.out (b : Int)).mono ?_
        rintro e w15 ⟨rfl, rfl⟩
        rw [FN.out.worn]
        go_wp2_with fail
        refine (st_down H14.out).mono ?_
        rintro e w15 ⟨rfl, rfl⟩
        rw [FN.out.down]
        go_wp2
        go_ret
        exact ⟨rfl, H14.out.bel⟩
  | false =>
    go_wp2_with fail
    refine (st_program H5.out (by show 1 ≤ _; decide) q1 WP1.out a2).mono ?_
    rintro e w6 ⟨v6, rfl, he6, h6, k6⟩
    rw [HQ1.out, HP.out, p3 HB16.out SB.out] at he6 h6
    have H7 := Lib.hid h6
    have E7 := Lib.hid he6
    clear he6 h6 k6
    go_wp2_with fail
    refine (st_code H7.out HG.out E7.out).mono ?_
    rintro e w8 ⟨rfl, h8, k8⟩
    have H8 := Lib.hid h8
    have FN := Lib.hid (finP (b := b) (a := a1) (t := a2) HB16.out SA.out)
    clear h8 k8
    obtain ⟨D, hD⟩ : ∃ D, D = P3 b a1 a2 := ⟨_, rfl⟩
    rw [← hD] at H8 FN
    clear hD H7 E7
    go_wp2_with fail
    refine (st_read H8.out (p : Int) WP.out).mono ?_
    rintro e w9 ⟨v9, rfl, he9, h9, k9⟩
    rw [HP.out, FN.out.read] at he9
    obtain rfl := he9.none rfl
    rw [HP.out, FN.out.read, ← HP.out]
    have H9 := Lib.hid h9
    clear he9 h9 k9
    go_wp2
    go_loopw [14] (fun i wr => ∃ k : Nat, k ≤ 16 ∧ i = .int .i64 k ∧ w9 = wr) (fun i _ => 16 - (intOf i).toNat)
    case atStart => exact ⟨0, by omega, rfl, rfl⟩
    case round =>
      obtain ⟨k, hk, rfl, rfl⟩ := hrel
      by_cases hlt : k < 16
      · have hw1 : IntKind.i64.wrap ((k : Int) + 1) = (k : Int) + 1 := IntWalk.i64_in _ (by omega)
        have hbad := FN.out.bad k hlt
        have j1 : decide ((k : Int) < 16) = true := by simp; omega
        by_cases hkb : k = b
        · have j2 : ((k : Int) == (b : Int)) = true := by simp [hkb]
          rw [decide_eq_true hkb] at hbad
          have HBAD := Lib.hid hbad
          clear hbad hkb
          go_wp2_with fail
          refine (st_bad H9.out (k : Int)).mono ?_
          rintro e w10 ⟨rfl, rfl⟩
          rw [HBAD.out]
          go_wp2
          go_roundw
          case rel => exact ⟨k + 1, by omega, by go_num, trivial⟩
          case measure => simp [intOf]; omega
        · have j2 : ((k : Int) == (b : Int)) = false := beq_eq_false_iff_ne.2 (by omega)
          rw [decide_eq_false hkb] at hbad
          have HBAD := Lib.hid hbad
          clear hbad hkb
          go_wp2_with fail
          refine (st_bad H9.out (k : Int)).mono ?_
          rintro e w10 ⟨rfl, rfl⟩
          rw [HBAD.out]
          go_wp2
          go_roundw
          case rel => exact ⟨k + 1, by omega, by go_num, trivial⟩
          case measure => simp [intOf]; omega
      · have j1 : decide ((k : Int) < 16) = false := by simp; omega
        go_wp2_with fail
        refine (st_next H9.out (b : Int)).mono ?_
        rintro e w10 ⟨rfl, rfl⟩
        rw [FN.out.next]
        go_wp2_with fail
        refine (st_program H9.out (by rcases FN.out.ops with h | h <;> rw [h] <;> decide) q2 WP2.out a1).mono ?_
        rintro e w11 ⟨v11, rfl, he11, h11, k11⟩
        rw [HQ2.out, HP.out, FN.out.prog] at he11 h11
        have H11 := Lib.hid h11
        have E11 := Lib.hid he11
        clear he11 h11 k11
        go_wp2_with fail
        refine (st_code H11.out HG.out E11.out).mono ?_
        rintro e w12 ⟨rfl, h12, k12⟩
        have H12 := Lib.hid h12
        clear h12 k12
        go_wp2_with fail
        refine (st_erase H12.out (by rcases FN.out.ops with h | h <;> rw [h] <;> decide) (b : Int) WB.out).mono ?_
        rintro e w13 ⟨v13, rfl, he13, h13, k13⟩
        rw [FN.out.erase] at he13 h13
        have H13 := Lib.hid h13
        have E13 := Lib.hid he13
        clear he13 h13 k13
        go_wp2_with fail
        refine (st_code H13.out HG.out E13.out).mono ?_
        rintro e w14 ⟨rfl, h14, k14⟩
        have H14 := Lib.hid h14
        clear h14 k14
        go_wp2_with fail
        refine (st_worn H14.out (b : Int)).mono ?_
        rintro e w15 ⟨rfl, rfl⟩
        rw [FN.out.worn]
        go_wp2_with fail
        refine (st_down H14.out).mono ?_
        rintro e w15 ⟨rfl, rfl⟩
        rw [FN.out.down]
        go_wp2
        go_ret
        exact ⟨rfl, H14.out.bel⟩

set_option maxRecDepth 100000 in
theorem lifted (os : Os) (started : os.Started) (H : Type) (enc : TypeId × Value → H) :
    ReturnsInHanded {} Tryd.checked os 6 .any (fun w args => (Rows.nandBadSpec.pre enc Tryd.prog Tryd.f6 [] false w args ∧ laidMetH Tryd.prog [("errors.errorType", Rows.laid_errors_errorType)] w) ∧ sizedMet enc Tryd.prog Tryd.f6 (OpenSpec.ofChange Rows.nandBadSpec) false w args) (Rows.nandBadSpec.post enc Tryd.prog Tryd.f6 false true false false) := by
  refine returnsInHanded_of_change_and (C := Tryd.checked) (X := (fun w _ => laidMetH Tryd.prog [("errors.errorType", Rows.laid_errors_errorType)] w)) (fun _ _ _ hh h => h.of_heap hh) own started (by kernel_rfl) Tryd.func6
    (ChangeSpec.witness_at (enc := enc) (C := Tryd.checked) (os := os) (X := (fun w _ => laidMetH Tryd.prog [("errors.errorType", Rows.laid_errors_errorType)] w)) false (laidWorld os) #[.agg #[.int .i64 0, .bool false], .string ByteArray.empty, .string ByteArray.empty] 8 rfl (by kernel_rfl) (by kernel_rfl) (by kernel_rfl) (by kernel_rfl) (by kernel_rfl) (laidWorld_met os _)) ?_
  intro W base args ds gs before hval0 hW _ hsz0 hL _
  have hval : ∀ (j : Nat) t v, Tryd.f6.params[j]? = some t → args[j]? = some v → Value.okWide Tryd.prog W .any base t v := hval0
  have hW' := hW
  obtain ⟨p, q, hA0, hV, rfl, hfz, hnd⟩ := hW
  have hA : DataW.TrodAll enc Tryd.prog W 0 (fun _ => true) true Tryd.f6.params.toList args.toList ds p := hA0
  have hsz : (DataW.weightsEach Tryd.prog (Tryd.f6.params.toList ++ Rows.nandBadSpec.plain.varTypes Tryd.prog) (ds ++ gs)).all (· ≤ reachBytes) = true := hsz0
  rw [Tryd.params6] at hA hval hsz
  obtain ⟨v0, vs0, d0, ds0, p0, q0, hargs, rfl, rfl, h0, r0⟩ := trodAll_cons hA
  obtain ⟨v1, vs1, d1, ds1, p1, q1, rfl, rfl, rfl, h1, r1⟩ := trodAll_cons r0
  obtain ⟨v2, vs2, d2, ds2, p2, q2, rfl, rfl, rfl, h2, r2⟩ := trodAll_cons r1
  obtain ⟨rfl, rfl, rfl⟩ := trodAll_nil r2
  obtain rfl : args = #[v0, v1, v2] := by cases args; simp_all
  obtain ⟨rfl, rfl⟩ := trodVars_none hV
  have k0 := h0
  have lt0 : ∀ x ∈ p0, x.block < W.heap.size := by obtain ⟨m, hm⟩ := k0; exact DataW.trod_lt m _ _ _ hm
  obtain ⟨n0, b0, rfl, w0⟩ := OP.open_where (hval 0 54 v0 rfl rfl) h0
  obtain ⟨a1, rfl, rfl, rfl, m1⟩ := open_string Tryd.underlying9 (hval 1 9 v1 rfl rfl) h1
  obtain ⟨a2, rfl, rfl, rfl, m2⟩ := open_string Tryd.underlying9 (hval 2 9 v2 rfl rfl) h2
  have w1 : a1.size ≤ 140737488351232 := by have := sized_string hsz (j := 1) (t := 9) (bytes := a1.data.toList) rfl rfl; simpa [reachBytes] using this
  have w2 : a2.size ≤ 140737488351232 := by have := sized_string hsz (j := 2) (t := 9) (bytes := a2.data.toList) rfl rfl; simpa [reachBytes] using this
  have hg := handle_of_laid hL
  clear hA0 hval0 hsz0
  refine (walk n0 b0 a1 a2 W w0 w1 w2 hg).mono fun e W' ⟨he, bel⟩ => ?_
  subst he
  exact ⟨_, rfl, _, _, _, [], _, [], hW', trodAll_mk1 (shut_bool Tryd.underlying4 _), (trodAll_cons_mk (Below.trod laidOut (by kernel_rfl) (of_decide_eq_true (by kernel_rfl)) k0 bel lt0) (trodAll_cons_mk (shut_string Tryd.underlying9 m1) (trodAll_cons_mk (shut_string Tryd.underlying9 m2) trodAll_mk0))), rfl, bel.frame _, fun h => by cases h⟩

theorem over : Rows.NandBadSaid :=
  OpenClaim.holds_of_wide 6 Tryd.f6 rfl rfl rfl rfl rfl rfl rfl ⟨rfl, rfl, rfl, rfl, rfl⟩ rfl rfl rfl rfl rfl (by kernel_rfl) Tryd.func6 (by kernel_rfl)
    (of_decide_eq_true (by kernel_rfl)) (by unfold Func.isWrapper; first | (rw [if_pos (by decide +kernel)]; kernel_rfl) | (rw [if_neg (by decide +kernel)]; exact ⟨rfl, rfl⟩))
    (fun os started H enc _ => lifted os started H enc)

/-- The card: the row, its one listed variable tied to the program's text. -/
theorem proved : Rows.NandBadCardSaid :=
  Claim7.holds_tied_plain_at .later [] [.handle] true _ true
    over (fun _ h => by cases h) (by kernel_rfl) (fun _ h => by cases h) nandBad_row_tie rfl ⟨rfl, rfl⟩ (by kernel_rfl) rfl
    (fun f fn hf hfn => by
      obtain rfl : f = 6 := Option.some.inj ((show Tryd.prog.funcNamed "scoria/scorialaw04.NandBad" = some 6 by kernel_rfl).symm.trans hf) |>.symm
      obtain rfl : fn = Tryd.f6 := (Option.some.inj (Tryd.func6.symm.trans hfn)).symm
      exact ⟨by kernel_rfl, fun j t ht => by
        rw [Tryd.params6] at ht
        have hm : t ∈ [54, 9, 9] := by simpa using Array.mem_of_getElem? ht
        have hall : ([54, 9, 9].all fun u => !Tryd.prog.wantsStandIn u) = true := by kernel_rfl
        exact (show Tryd.prog.wantsStandIn t = false by simpa using List.all_eq_true.1 hall t hm)⟩)
    (by kernel_rfl)
#print axioms proved
end Go.Proofs.YtnbfejombealiabDoor.nandBad
