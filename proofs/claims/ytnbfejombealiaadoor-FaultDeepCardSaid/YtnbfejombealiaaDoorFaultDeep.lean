/- The law FaultDeep holds: its Go text answers true for every input, and leaves its arguments as they were. No condition beyond the statement's own (errors.errorType holds what start-up lays; the card ties it to the program's text). -/
import Derived.Test.YtnbfejombealiaaDoorRows
import Derived.Test.YtnbfejombealiaaDoorCards
import Derived.Test.YtnbfejombealiaaDoorTie
import Derived.Test.YtnbfejombealiaaDoorOpen3
import Derived.Test.YtnbfejombealiaaDoorAwake3
import Derived.Test.YtnbfejombealiaaDoorFHas
import Derived.WalkSpells
import Derived.WalkLawsBesides
import Derived.Outline
import Derived.Deep.RegionHeld3
import Derived.Deep.QuietTactic
import Derived.BigQuiet
import Derived.IntWalk
import Derived.ProofKit
import Derived.OpenShut
import Derived.ShutString
import Derived.ChangeOld
import Derived.ChangeSame
import Derived.ChangeVars
import Derived.Below
import Derived.SizedLaws
import Derived.JoinedOf
import Derived.RowKitTokens
import Derived.LaidLaws
import Derived.LaidHandle
import Derived.LaidMore
import Derived.Stop.Joined
import Derived.SevenTiedAt
namespace Go.Proofs.YtnbfejombealiaaDoor.faultDeep
open Go.ChangeShapes Go.WideShapes Go.ChangeAt Go.RowKit
open Go.ChangeMaps (open_string shut_string)
open Go.Proofs.YtnbfejombealiaaDoor
set_option linter.unusedVariables false
set_option linter.unusedSimpArgs false

theorem own : ownKnob Tryd.prog.godebug = none := by kernel_rfl
theorem laidOut : laidOutB Tryd.prog = true := by kernel_rfl
theorem et : Tryd.prog.globalNamed "errors.errorType" = some 0 := by kernel_rfl
theorem rt : (Tryd.prog.cutTypes.find? (·.1 == "internal/reflectlite.rtype")).map (·.2) = some 84 := by kernel_rfl
theorem oneRow : ((List.range 128).filter fun t => Tryd.prog.rowNamed t [101, 114, 114, 111, 114]) = [26] := by kernel_rfl
theorem tsize : Tryd.prog.types.size = 128 := by kernel_rfl
/-- What the condition gives the walk. -/
theorem handle_of_laid {W : World} (h : laidMetH Tryd.prog [("errors.errorType", Rows.laid_errors_errorType)] W) : ER.ErrorType W := by
  have h' : laidMet Tryd.prog [] W ∧ handlesMet Tryd.prog [("errors.errorType", Rows.laid_errors_errorType)] W := h
  obtain ⟨name, u, ty, e1, e2, e3, e4, e5⟩ := h'.2 _ (List.mem_singleton.2 rfl)
  have en : name = [101, 114, 114, 111, 114] := (Option.some.inj e1).symm
  subst en
  obtain rfl := Option.some.inj (rt.symm.trans e2)
  have hm : ty ∈ (List.range 128).filter fun t => Tryd.prog.rowNamed t [101, 114, 114, 111, 114] := List.mem_filter.2 ⟨List.mem_range.2 (by rw [← tsize]; exact e3), e4⟩
  rw [oneRow] at hm
  obtain rfl := List.mem_singleton.1 hm
  have hh : typeHandle Tryd.prog 26 = .pointer (some ⟨1, 26, none⟩) := by kernel_rfl
  rw [hh] at e5
  have := World.var?_cell et e5 0
  unfold ER.ErrorType
  simpa using this
/-- A world that meets the condition: the settled one, the variable's cell laid. -/
noncomputable def laidWorld (os : Os) : World :=
  let w0 := World.holding Tryd.prog os ⟨#[], #[], []⟩
  { w0 with heap := w0.heap.modify 0 fun
      | .cells _ t frozen => .cells #[.iface 84 (.agg #[.pointer (some ⟨1, 26, none⟩)])] t frozen
      | o => o }
theorem laidWorld_met (os : Os) (args : Array Value) : laidMetH Tryd.prog [("errors.errorType", Rows.laid_errors_errorType)] ((laidWorld os).forCall (fun _ _ => 0) ⟨#[], args, []⟩).memory :=
  laidMetH_of_parts (laidMet_nil _ _) (by kernel_rfl)

open ER MM OP

/-- The error that is made of a number and the first k steps. -/
def deep (S : Nat → ByteArray × Int) (c : Int) : Nat → Er
  | 0 => .num c
  | k + 1 => .fault (S k).1 (S k).2 (deep S c k)
theorem deep_code (S : Nat → ByteArray × Int) (c : Int) (k : Nat) : (deep S c k).code = some c := by
  induction k with
  | zero => rfl
  | succ k ih => exact ih
theorem deep_has (S : Nat → ByteArray × Int) (c : Int) (k : Nat) : (deep S c k).has c = true := by
  induction k with
  | zero => simp [deep, Er.has]
  | succ k ih => exact ih
theorem deep_dep (S : Nat → ByteArray × Int) (c : Int) (k : Nat) : (deep S c k).dep = k := by
  induction k with
  | zero => rfl
  | succ k ih => show _ + 1 = _; rw [ih]
theorem deep_trail (S : Nat → ByteArray × Int) (c : Int) (k : Nat) : (deep S c k).trail.length = k ∧ ∀ j, j < k → (deep S c k).trail[j]? = some (S (k - 1 - j)) := by
  induction k with
  | zero => exact ⟨rfl, fun j h => by omega⟩
  | succ k ih =>
    refine ⟨by show _ + 1 = _; rw [ih.1], fun j hj => ?_⟩
    show ((S k) :: (deep S c k).trail)[j]? = _
    cases j with
    | zero => rfl
    | succ j =>
      have h := ih.2 j (by omega)
      rw [List.getElem?_cons_succ, h]
      congr 2
      omega

/-- The steps that came in, as a function of their places. -/
def Steps (w : World) (a : Option Addr) (len : Nat) (S : Nat → ByteArray × Int) : Prop :=
  len = 0 ∨ ∃ b off, a = some ⟨b, off, none⟩ ∧ b < w.heap.size ∧ ∀ i, i < len → w.cell? ⟨b, off + (i * 2 + 0), none⟩ = some (.string (S i).1) ∧ w.cell? ⟨b, off + (i * 2 + 1), none⟩ = some (.int .i64 (S i).2) ∧ (S i).1.size ≤ maxLen ∧ (Lit.int .i64 (S i).2).wf = true
theorem steps_of {w : World} {a : Option Addr} {len : Nat} (h : OP.Rows w a len 2 StepC) : ∃ S, Steps w a len S := by
  rcases h with h | ⟨b, off, rfl, hb, hc⟩
  · exact ⟨fun _ => (ByteArray.empty, 0), .inl h⟩
  · have hx : ∀ i, ∃ p : ByteArray × Int, i < len → w.cell? ⟨b, off + (i * 2 + 0), none⟩ = some (.string p.1) ∧ w.cell? ⟨b, off + (i * 2 + 1), none⟩ = some (.int .i64 p.2) ∧ p.1.size ≤ maxLen ∧ (Lit.int .i64 p.2).wf = true := by
      intro i
      by_cases hi : i < len
      · obtain ⟨s, n, h0, h1, h2, h3⟩ := hc i hi
        exact ⟨(s, n), fun _ => ⟨h0, h1, h2, h3⟩⟩
      · exact ⟨(ByteArray.empty, 0), fun h => absurd h hi⟩
    exact ⟨fun i => Classical.choose (hx i), .inr ⟨b, off, rfl, hb, fun i hi => Classical.choose_spec (hx i) hi⟩⟩
theorem Steps.kept {w w' : World} {a : Option Addr} {len : Nat} {S : Nat → ByteArray × Int} (h : Steps w a len S) (hb : Below w.heap.size w w') : Steps w' a len S := by
  rcases h with h | ⟨b, off, rfl, hlt, hc⟩
  · exact .inl h
  · refine .inr ⟨b, off, rfl, Nat.lt_of_lt_of_le hlt hb.size, fun i hi => ?_⟩
    rw [hb.cell (p := ⟨b, off + (i * 2 + 0), none⟩) hlt, hb.cell (p := ⟨b, off + (i * 2 + 1), none⟩) hlt]
    exact hc i hi

theorem run_min60 (a : Nat) (ts : Array TypeId) (t : TypeId) (w : World) :
    (Builtin.min_ ts t #[.int .i64 (a : Int), .int .i64 60]).run Tryd.prog w = .ok (.int .i64 ((min a 60 : Nat) : Int)) w := by
  have h : (Builtin.min_ ts t #[.int .i64 (a : Int), .int .i64 60]).run Tryd.prog w = .ok (.int .i64 (if (60 : Int) < (a : Int) then 60 else (a : Int))) w := by
    simp [Builtin.min_, Builtin.min2]
  rw [h]
  congr 2
  omega

set_option maxHeartbeats 4000000 in
set_option maxRecDepth 100000 in
theorem walk (a0 : Int) (a1 : Option Addr) (len1 cap1 : Nat) (w : World) (w0 : (Lit.int .i64 a0).wf = true) (l1 : len1 ≤ maxLen) (w1 : OP.Rows w a1 len1 2 OP.StepC) (hg : ER.ErrorType w) :
    Calls Tryd.prog 8 #[.int .i64 a0, .slice a1 len1 cap1] w fun e w' => e = .returned (.bool true) ∧ Below w.heap.size w w' := by
  obtain ⟨S, hS⟩ := steps_of w1
  obtain ⟨n, hn⟩ : ∃ n, n = min len1 60 := ⟨_, rfl⟩
  have n1 : n ≤ len1 := by omega
  have n6 : n ≤ 60 := by omega
  have hmin := run_min60 len1
  rw [← hn] at hmin
  have HS := Lib.hid hS
  have HG := Lib.hid hg
  have HW0 := Lib.hid w0
  clear hn hS w1 hg w0
  go_enter Tryd.func8, Tryd.ntmps8
  go_wp2
  clear hmin
  go_loopw [5, 7] (fun v i wr => ∃ k : Nat, k ≤ n ∧ i = .int .i64 k ∧ IsErr wr wr.heap.size (deep S a0 k) v ∧ Below w.heap.size w wr) (fun _ i _ => n - (intOf i).toNat)
  case atStart => exact ⟨0, Nat.zero_le _, rfl, ⟨rfl, HW0.out⟩, Below.refl _ _⟩
  case round =>
    obtain ⟨k, hk, rfl, hE, hbel⟩ := hrel
    obtain ⟨tx, vx, rfl⟩ := hE.iface
    have hsz := hbel.size
    have HB := Lib.hid hbel
    have HE := Lib.hid hE
    clear hE hbel
    by_cases hlt : k < n
    · rcases HS.out with h0 | ⟨b, off, rfl, hb, hc⟩
      · omega
      · obtain ⟨c0, c1, hop, hwf⟩ := hc k (by omega)
        have d0 : wr.cell? ⟨b, off + (k * 2 + 0), none⟩ = some (.string (S k).1) := by rw [HB.out.cell (p := ⟨b, off + (k * 2 + 0), none⟩) hb]; exact c0
        have d1 : wr.cell? ⟨b, off + (k * 2 + 1), none⟩ = some (.int .i64 (S k).2) := by rw [HB.out.cell (p := ⟨b, off + (k * 2 + 1), none⟩) hb]; exact c1
        clear hc c0 c1
        obtain ⟨op, hop'⟩ : ∃ op, op = (S k).1 := ⟨_, rfl⟩
        obtain ⟨m, hm⟩ : ∃ m, m = (S k).2 := ⟨_, rfl⟩
        rw [← hop'] at d0 hop
        rw [← hm] at d1 hwf
        have HO := Lib.hid hop'
        have HM := Lib.hid hm
        clear hop' hm
        rw [show off + (k * 2 + 0) = off + k * 2 from by omega] at d0
        rw [show off + (k * 2 + 1) = off + k * 2 + 1 from by omega] at d1
        have k0 : (0 : Int) ≤ (k : Int) := by omega
        have k1 : (k : Int) < (len1 : Int) := by omega
        have hbW : Below wr.heap.size wr (wr.drew.alloc (.cells #[.string op, .int .i64 m, .iface tx vx] 60)) := ((Below.refl _ _).drew).alloc (Nat.le_refl _) _
        have e0 : (wr.drew.alloc (.cells #[.string op, .int .i64 m, .iface tx vx] 60)).cell? ⟨b, off + k * 2, none⟩ = some (.string op) := by rw [hbW.cell (p := ⟨b, off + k * 2, none⟩) (Nat.lt_of_lt_of_le hb hsz)]; exact d0
        have e1 : (wr.drew.alloc (.cells #[.string op, .int .i64 m, .iface tx vx] 60)).cell? ⟨b, off + k * 2 + 1, none⟩ = some (.int .i64 m) := by rw [hbW.cell (p := ⟨b, off + k * 2 + 1, none⟩) (Nat.lt_of_lt_of_le hb hsz)]; exact d1
        have e2 := (HE.out.below hbW).more hbW.size
        have e3 := HB.out.trans (hbW.mono hsz)
        have HF : Hid (IsErr (wr.drew.alloc (.cells #[.string op, .int .i64 m, .iface tx vx] 60)) (wr.drew.alloc (.cells #[.string op, .int .i64 m, .iface tx vx] 60)).heap.size (deep S a0 (k + 1)) (.iface 57 (.pointer (some ⟨wr.heap.size, 0, none⟩)))) := by
          have h := wrapped (w := wr.drew) (op := op) (n := m) (E := deep S a0 k) (v := .iface tx vx) HE.out.drew hwf hop
          show IsErr _ _ (.fault (S k).1 (S k).2 (deep S a0 k)) _
          rw [← HO.out, ← HM.out, World.size_alloc]
          exact h
        have HE2 := Lib.hid e2
        have HE3 := Lib.hid e3
        have HE0 := Lib.hid e0
        have HE1 := Lib.hid e1
        clear hbW e2 e3 e0 e1
        go_wp2
        go_region_held3 (fun w' => w'.cell? ⟨b, off + k * 2, none⟩ = some (.string op) ∧ w'.cell? ⟨b, off + k * 2 + 1, none⟩ = some (.int .i64 m) ∧ IsErr w' w'.heap.size (deep S a0 k) (.iface tx vx) ∧ Below w.heap.size w w') (first | exact ⟨d0, d1, HE.out.drew, HB.out.drew⟩ | exact ⟨HE0.out, HE1.out, HE2.out, HE3.out⟩) ((go_at_call 18; refine (wrap_any op m (deep S a0 k) (.iface tx vx) wr.drew HE.out.drew hwf hop).mono ?_; rintro e w2 ⟨rfl, rfl⟩))
        clear d0 d1
        go_wp2
        go_roundw
        case rel => exact ⟨k + 1, by omega, by go_num, HF.out, HE3.out⟩
        case measure => simp [intOf]; omega
    · obtain rfl : k = n := by omega
      have hd := deep_dep S a0 k
      have HT := Lib.hid (trail_any _ _ wr HE.out (HG.out.kept HB.out) (by rw [hd]; omega))
      have HL := Lib.hid (deep_trail S a0 k)
      clear hd
      go_wp2_with fail
      refine HT.out.mono ?_
      rintro e w1 ⟨v1, rfl, hown, hb1⟩
      obtain ⟨hlen, hat⟩ := HL.out
      rw [hlen] at hown
      obtain ⟨A, c1, rfl⟩ := own_slice hown
      have hsz1 := hb1.size
      have HC := Lib.hid (code_any _ _ w1 ((HE.out.below hb1).more hsz1) ((HG.out.kept HB.out).kept hb1))
      have HB1 := Lib.hid (HB.out.trans (hb1.mono hsz))
      have HE1 := Lib.hid ((HE.out.below hb1).more hsz1)
      have HO := Lib.hid hown
      have HA := Lib.hid hat
      rw [deep_code] at HC
      clear hown hb1 hlen hat HL HT
      go_wp2_with fail
      refine HC.out.mono ?_
      rintro e w2 ⟨rfl, hb2⟩
      have hsz2 := hb2.size
      have HH := Lib.hid (has_any _ _ a0 w2 ((HE1.out.below hb2).more hsz2))
      rw [deep_has] at HH
      have HO2 := Lib.hid (own_kept HO.out hb2)
      have HB2 := Lib.hid (HB1.out.trans (hb2.mono (Nat.le_trans hsz hsz1)))
      clear HO hb2 HC
      go_wp2_with fail
      refine HH.out.mono ?_
      rintro e w3 ⟨rfl, rfl⟩
      clear HH
      go_wp2
      go_loopw [9] (fun i wr => ∃ j : Nat, j ≤ k ∧ i = .int .i64 j ∧ Below w2.heap.size w2 wr) (fun i _ => k - (intOf i).toNat)
      case atStart => exact ⟨0, Nat.zero_le _, rfl, Below.refl _ _⟩
      case round =>
        obtain ⟨j, hj, rfl, hb3⟩ := hrel
        obtain ⟨wx, rfl⟩ : ∃ wx : World, wx = wr := ⟨_, rfl⟩
        have HB3 := Lib.hid hb3
        clear hb3
        by_cases hlt2 : j < k
        · obtain ⟨g, c', hA, hgb, hgl⟩ := own_form HO2.out (by omega)
          have hA' : A = some ⟨g, 0, none⟩ := by injection hA
          subst hA'
          rcases HS.out with h0 | ⟨b, off, rfl, hb, hc⟩
          · omega
          · obtain ⟨c0, c1', _, _⟩ := hc (k - 1 - j) (by omega)
            obtain ⟨t0, t1⟩ := stepCells_get _ _ _ (HA.out j hlt2)
            have s0 := HO2.out.cells (g := g) rfl _ _ t0
            have s1 := HO2.out.cells (g := g) rfl _ _ t1
            rw [Addr.add_lit, Nat.zero_add] at s0 s1
            have hb20 := HB2.out.size
            have d0 : wx.cell? ⟨b, off + (k - 1 - j) * 2, none⟩ = some (.string (S (k - 1 - j)).1) := by rw [HB3.out.cell (p := ⟨b, off + (k - 1 - j) * 2, none⟩) (Nat.lt_of_lt_of_le hb hb20), HB2.out.cell (p := ⟨b, off + (k - 1 - j) * 2, none⟩) hb]; exact c0
            have d1 : wx.cell? ⟨b, off + (k - 1 - j) * 2 + 1, none⟩ = some (.int .i64 (S (k - 1 - j)).2) := by rw [HB3.out.cell (p := ⟨b, off + (k - 1 - j) * 2 + 1, none⟩) (Nat.lt_of_lt_of_le hb hb20), HB2.out.cell (p := ⟨b, off + (k - 1 - j) * 2 + 1, none⟩) hb]; exact c1'
            have d2 : wx.cell? ⟨g, j * 2, none⟩ = some (.string (S (k - 1 - j)).1) := by rw [HB3.out.cell (p := ⟨g, j * 2, none⟩) hgl]; exact s0
            have d3 : wx.cell? ⟨g, j * 2 + 1, none⟩ = some (.int .i64 (S (k - 1 - j)).2) := by rw [HB3.out.cell (p := ⟨g, j * 2 + 1, none⟩) hgl]; exact s1
            obtain ⟨p, hp⟩ : ∃ p, p = S (k - 1 - j) := ⟨_, rfl⟩
            rw [← hp] at d0 d1 d2 d3
            have q0 : IntKind.i64.wrap ((k : Int) - 1) = (k : Int) - 1 := IntWalk.i64_in _ (by omega)
            have q1 : IntKind.i64.wrap ((k : Int) - 1 - (j : Int)) = (k : Int) - 1 - (j : Int) := IntWalk.i64_in _ (by omega)
            have q2 : ((k : Int) - 1 - (j : Int)).toNat = k - 1 - j := by omega
            have q3 : (0 : Int) ≤ (k : Int) - 1 - (j : Int) := by omega
            have q4 : (k : Int) - 1 - (j : Int) < (len1 : Int) := by omega
            have q5 : (0 : Int) ≤ (j : Int) := by omega
            have q6 : (j : Int) < (k : Int) := by omega
            clear hp hc c0 c1' t0 t1 s0 s1
            go_wp2
            go_quiet (fail)
            go_wp2
            clear q0 q1 q2 q3 q4
            exact ⟨⟨j + 1, by omega, by go_num, drewN_below HB3.out _⟩, by simp [intOf]; omega⟩
        · obtain rfl : j = k := by omega
          have HA3 := Lib.hid (awake_any wx (((HG.out.kept HB2.out).kept HB3.out)))
          go_wp2_with fail
          refine HA3.out.mono ?_
          rintro e w4 ⟨rfl, hb4⟩
          have hfin : Below w.heap.size w w4 := HB2.out.trans ((HB3.out.mono HB2.out.size).trans (hb4.mono (Nat.le_trans HB2.out.size HB3.out.size)))
          clear hb4
          go_wp2
          go_ret
          exact ⟨rfl, hfin⟩

set_option maxRecDepth 100000 in
theorem lifted (os : Os) (started : os.Started) (H : Type) (enc : TypeId × Value → H) :
    ReturnsInHanded {} Tryd.checked os 8 .any (fun w args => (Rows.faultDeepSpec.pre enc Tryd.prog Tryd.f8 [] false w args ∧ laidMetH Tryd.prog [("errors.errorType", Rows.laid_errors_errorType)] w) ∧ sizedMet enc Tryd.prog Tryd.f8 (OpenSpec.ofChange Rows.faultDeepSpec) false w args) (Rows.faultDeepSpec.post enc Tryd.prog Tryd.f8 false true false false) := by
  refine returnsInHanded_of_change_and (C := Tryd.checked) (X := (fun w _ => laidMetH Tryd.prog [("errors.errorType", Rows.laid_errors_errorType)] w)) (fun _ _ _ hh h => h.of_heap hh) own started (by kernel_rfl) Tryd.func8
    (ChangeSpec.witness_at (enc := enc) (C := Tryd.checked) (os := os) (X := (fun w _ => laidMetH Tryd.prog [("errors.errorType", Rows.laid_errors_errorType)] w)) false (laidWorld os) #[.int .i64 0, .slice none 0 0] 8 rfl (by kernel_rfl) (by kernel_rfl) (by kernel_rfl) (by kernel_rfl) (by kernel_rfl) (laidWorld_met os _)) ?_
  intro W base args ds gs before hval0 hW _ hsz0 hL _
  have hval : ∀ (j : Nat) t v, Tryd.f8.params[j]? = some t → args[j]? = some v → Value.okWide Tryd.prog W .any base t v := hval0
  have hW' := hW
  obtain ⟨p, q, hA0, hV, rfl, hfz, hnd⟩ := hW
  have hA : DataW.TrodAll enc Tryd.prog W 0 (fun _ => true) true Tryd.f8.params.toList args.toList ds p := hA0
  rw [Tryd.params8] at hA hval
  obtain ⟨v0, vs0, d0, ds0, p0, q0, hargs, rfl, rfl, h0, r0⟩ := trodAll_cons hA
  obtain ⟨v1, vs1, d1, ds1, p1, q1, rfl, rfl, rfl, h1, r1⟩ := trodAll_cons r0
  obtain ⟨rfl, rfl, rfl⟩ := trodAll_nil r1
  obtain rfl : args = #[v0, v1] := by cases args; simp_all
  obtain ⟨rfl, rfl⟩ := trodVars_none hV
  obtain ⟨a0, rfl, rfl, rfl, w0⟩ := open_int Tryd.underlying3 (hval 0 3 v0 rfl rfl) h0
  have k1 := h1
  have lt1 : ∀ x ∈ p1, x.block < W.heap.size := by obtain ⟨m, hm⟩ := k1; exact DataW.trod_lt m _ _ _ hm
  obtain ⟨a1, len1, cap1, rfl, l1, w1⟩ := OP.open_steps (hval 1 37 v1 rfl rfl) h1
  have hg := handle_of_laid hL
  clear hA0 hval0 hsz0
  refine (walk a0 a1 len1 cap1 W w0 l1 w1 hg).mono fun e W' ⟨he, bel⟩ => ?_
  subst he
  exact ⟨_, rfl, _, _, _, [], _, [], hW', trodAll_mk1 (shut_bool Tryd.underlying4 _), (trodAll_cons_mk (shut_int Tryd.underlying3 w0) (trodAll_cons_mk (Below.trod laidOut (by kernel_rfl) (of_decide_eq_true (by kernel_rfl)) k1 bel lt1) trodAll_mk0)), rfl, bel.frame _, fun h => by cases h⟩

theorem over : Rows.FaultDeepSaid :=
  OpenClaim.holds_of_wide 8 Tryd.f8 rfl rfl rfl rfl rfl rfl rfl ⟨rfl, rfl, rfl, rfl, rfl⟩ rfl rfl rfl rfl rfl (by kernel_rfl) Tryd.func8 (by kernel_rfl)
    (of_decide_eq_true (by kernel_rfl)) (by unfold Func.isWrapper; first | (rw [if_pos (by decide +kernel)]; kernel_rfl) | (rw [if_neg (by decide +kernel)]; exact ⟨rfl, rfl⟩))
    (fun os started H enc _ => lifted os started H enc)

/-- The card: the row, its one listed variable tied to the program's text. -/
theorem proved : Rows.FaultDeepCardSaid :=
  Claim7.holds_tied_plain_at .later [] [.handle] true _ true
    over (fun _ h => by cases h) (by kernel_rfl) (fun _ h => by cases h) faultDeep_row_tie rfl ⟨rfl, rfl⟩ (by kernel_rfl) rfl
    (fun f fn hf hfn => by
      obtain rfl : f = 8 := Option.some.inj ((show Tryd.prog.funcNamed "scoria/scorialaw03.FaultDeep" = some 8 by kernel_rfl).symm.trans hf) |>.symm
      obtain rfl : fn = Tryd.f8 := (Option.some.inj (Tryd.func8.symm.trans hfn)).symm
      exact ⟨by kernel_rfl, fun j t ht => by
        rw [Tryd.params8] at ht
        have hm : t ∈ [3, 37] := by simpa using Array.mem_of_getElem? ht
        have hall : ([3, 37].all fun u => !Tryd.prog.wantsStandIn u) = true := by kernel_rfl
        exact (show Tryd.prog.wantsStandIn t = false by simpa using List.all_eq_true.1 hall t hm)⟩)
    (by kernel_rfl)
#print axioms proved
end Go.Proofs.YtnbfejombealiaaDoor.faultDeep
