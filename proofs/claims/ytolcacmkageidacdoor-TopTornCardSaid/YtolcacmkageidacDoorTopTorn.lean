/- The law TopTorn holds: its Go text answers true for every input, and leaves its arguments as they were. No condition beyond the statement's own (errors.errorType holds what start-up lays; the card ties it to the program's text). -/
import Derived.Test.YtolcacmkageidacDoorRows
import Derived.Test.YtolcacmkageidacDoorCards
import Derived.Test.YtolcacmkageidacDoorTie
import Derived.Test.YtolcacmkageidacDoorFine
import Derived.Test.YtolcacmkageidacDoorOpen5
import Derived.Test.YtolcacmkageidacDoorOpen4
import Derived.Outline
import Derived.ProofKit
import Derived.OpenShut
import Derived.ShutString
import Derived.ChangeOld
import Derived.ChangeSame
import Derived.ChangeVars
import Derived.Below
import Derived.SizedLaws
import Derived.JoinedOf
import Derived.RowKitTokens
import Derived.LaidLaws
import Derived.LaidHandle
import Derived.LaidMore
import Derived.Stop.Joined
import Derived.SevenTiedAt
namespace Go.Proofs.YtolcacmkageidacDoor.topTorn
open Go.ChangeShapes Go.WideShapes Go.ChangeAt Go.RowKit
open Go.ChangeMaps (open_string shut_string)
open Go.Proofs.YtolcacmkageidacDoor
set_option linter.unusedVariables false
set_option linter.unusedSimpArgs false

theorem own : ownKnob Tryd.prog.godebug = none := by kernel_rfl
theorem laidOut : laidOutB Tryd.prog = true := by kernel_rfl
theorem et : Tryd.prog.globalNamed "errors.errorType" = some 0 := by kernel_rfl
theorem rt : (Tryd.prog.cutTypes.find? (·.1 == "internal/reflectlite.rtype")).map (·.2) = some 124 := by kernel_rfl
theorem oneRow : ((List.range 174).filter fun t => Tryd.prog.rowNamed t [101, 114, 114, 111, 114]) = [32] := by kernel_rfl
theorem tsize : Tryd.prog.types.size = 174 := by kernel_rfl
/-- What the condition gives the walk. -/
theorem handle_of_laid {W : World} (h : laidMetH Tryd.prog [("errors.errorType", Rows.laid_errors_errorType)] W) : ER.ErrorType W := by
  have h' : laidMet Tryd.prog [] W ∧ handlesMet Tryd.prog [("errors.errorType", Rows.laid_errors_errorType)] W := h
  obtain ⟨name, u, ty, e1, e2, e3, e4, e5⟩ := h'.2 _ (List.mem_singleton.2 rfl)
  have en : name = [101, 114, 114, 111, 114] := (Option.some.inj e1).symm
  subst en
  obtain rfl := Option.some.inj (rt.symm.trans e2)
  have hm : ty ∈ (List.range 174).filter fun t => Tryd.prog.rowNamed t [101, 114, 114, 111, 114] := List.mem_filter.2 ⟨List.mem_range.2 (by rw [← tsize]; exact e3), e4⟩
  rw [oneRow] at hm
  obtain rfl := List.mem_singleton.1 hm
  have hh : typeHandle Tryd.prog 32 = .pointer (some ⟨1, 32, none⟩) := by kernel_rfl
  rw [hh] at e5
  have := World.var?_cell et e5 0
  unfold ER.ErrorType
  simpa using this
/-- A world that meets the condition: the settled one, the variable's cell laid. -/
noncomputable def laidWorld (os : Os) : World :=
  let w0 := World.holding Tryd.prog os ⟨#[], #[], []⟩
  { w0 with heap := w0.heap.modify 0 fun
      | .cells _ t frozen => .cells #[.iface 124 (.agg #[.pointer (some ⟨1, 32, none⟩)])] t frozen
      | o => o }
theorem laidWorld_met (os : Os) (args : Array Value) : laidMetH Tryd.prog [("errors.errorType", Rows.laid_errors_errorType)] ((laidWorld os).forCall (fun _ _ => 0) ⟨#[], args, []⟩).memory :=
  laidMetH_of_parts (laidMet_nil _ _) (by kernel_rfl)

open ER MM ND PG TP

def T1 (a : ByteArray) : Nd := ((fresh 16 8).counted).wrote 0 a
theorem t1 {a : ByteArray} (h : a.size ≤ 128) : (fresh 16 8).program 0 a = (T1 a, 0) := by
  have := program_eq (d := fresh 16 8) (p := 0) rfl (by decide) h rfl rfl
  exact this
def tm (m : Mis) : Mis := ⟨1, 1, m.keep, m.junk⟩
def T2 (a : ByteArray) (m : Mis) : Nd := (T1 a).planned [tm m]
def T3 (a b : ByteArray) (m : Mis) : Nd := (((T2 a m).counted).wrote 1 (spoilt { tm m with junk := cut m.junk } b)).suffer 0 9
theorem t2 {a b : ByteArray} (m : Mis) (h : b.size ≤ 128) : (T2 a m).program 1 b = (T3 a b m, 9) := by
  have := program_eq (d := T2 a m) (p := 1) rfl (by show 1 < 16 * 8; decide) h (by kernel_rfl) (by kernel_rfl)
  exact this
theorem t4a {a b : ByteArray} (m : Mis) : (T3 a b m).up.read 0 = (a, 0) := by kernel_rfl
theorem t4b {a b : ByteArray} (m : Mis) : (T3 a b m).up.read 1 = (spoilt { tm m with junk := cut m.junk } b, 0) := by kernel_rfl

/-- The two pages and the mishap that came in, boxed. -/
def Bx (w : World) (L : Nat) (A B C : Array Value) : Prop := Blk w L 23 A ∧ Blk w (L + 1) 23 B ∧ Blk w (L + 1 + 1) 25 C
theorem Bx.errs {w w' : World} {L : Nat} {A B C : Array Value} (h : Bx w L A B C) (k : Errs w w') : Bx w' L A B C :=
  ⟨k _ _ _ rfl h.1, k _ _ _ rfl h.2.1, k _ _ _ rfl h.2.2⟩
theorem Bx.cs {w : World} {L : Nat} {a0 a1 a2 a3 a4 b0 b1 b2 b3 b4 c0 c1 c2 c3 : Value} (h : Bx w L #[a0, a1, a2, a3, a4] #[b0, b1, b2, b3, b4] #[c0, c1, c2, c3]) :
    (((w.cell? ⟨L, 0, none⟩ = some a0 ∧ w.cell? ⟨L, 1, none⟩ = some a1 ∧ w.cell? ⟨L, 2, none⟩ = some a2 ∧ w.cell? ⟨L, 3, none⟩ = some a3 ∧ w.cell? ⟨L, 4, none⟩ = some a4) ∧ True) ∧
    ((w.cell? ⟨L + 1, 0, none⟩ = some b0 ∧ w.cell? ⟨L + 1, 1, none⟩ = some b1 ∧ w.cell? ⟨L + 1, 2, none⟩ = some b2 ∧ w.cell? ⟨L + 1, 3, none⟩ = some b3 ∧ w.cell? ⟨L + 1, 4, none⟩ = some b4) ∧ True) ∧
    w.cell? ⟨L + 1 + 1, 0, none⟩ = some c0 ∧ w.cell? ⟨L + 1 + 1, 1, none⟩ = some c1 ∧ w.cell? ⟨L + 1 + 1, 2, none⟩ = some c2 ∧ w.cell? ⟨L + 1 + 1, 3, none⟩ = some c3 ∧ w.frozen? ⟨L + 1 + 1, 0, none⟩ = false ∧ w.frozen? ⟨L + 1 + 1, 1, none⟩ = false) :=
  ⟨⟨(cells5 h.1).1, trivial⟩, ⟨(cells5 h.2.1).1, trivial⟩, h.2.2.cell 0, h.2.2.cell 1, h.2.2.cell 2, h.2.2.cell 3, h.2.2.frozen 0, h.2.2.frozen 1⟩
theorem box3_at (w : World) (A B C : Array Value) (w0 : World) (h : w0 = ((w.alloc (.cells A 23)).alloc (.cells B 23)).alloc (.cells C 25)) : Bx w0 w.heap.size A B C ∧ Below w.heap.size w w0 := by
  subst h
  have h2 := Blk.new (w.alloc (.cells A 23)) 23 B
  rw [show (w.alloc (.cells A 23)).heap.size = w.heap.size + 1 from by simp] at h2
  have h3 := Blk.new ((w.alloc (.cells A 23)).alloc (.cells B 23)) 25 C
  rw [show ((w.alloc (.cells A 23)).alloc (.cells B 23)).heap.size = w.heap.size + 1 + 1 from by simp] at h3
  exact ⟨⟨((Blk.new w 23 A).alloc _).alloc _, h2.alloc _, h3⟩, ((below_box w _).alloc (by simp) _).alloc (by simp; omega) _⟩

set_option maxRecDepth 100000 in
set_option maxHeartbeats 2000000 in
theorem torn_e (k s y q k' s' y' q' : Int) (b b' : ByteArray) (ma mk me : Int) (mj : ByteArray) (S U : ByteArray) (n : Int) (w : World) (HA : Hid (∀ w, Calls Tryd.prog 5 #[.agg #[.int .i64 k, .int .i64 s, .int .i64 y, .int .i64 q, .string b]] w fun e w' => e = .returned (.tuple #[.string S, .int .i64 1]) ∧ Below w.heap.size w w')) (HB : Hid (∀ w, Calls Tryd.prog 5 #[.agg #[.int .i64 k', .int .i64 s', .int .i64 y', .int .i64 q', .string b']] w fun e w' => e = .returned (.tuple #[.string U, .int .i64 n]) ∧ Below w.heap.size w w')) :
    Calls Tryd.prog 3 #[.agg #[.int .i64 k, .int .i64 s, .int .i64 y, .int .i64 q, .string b], .agg #[.int .i64 k', .int .i64 s', .int .i64 y', .int .i64 q', .string b'], .agg #[.int .i64 ma, .int .i64 mk, .int .i64 me, .string mj]] w fun e w' => e = .returned (.bool true) ∧ Below w.heap.size w w' := by
  obtain ⟨w0, hw0⟩ : ∃ w0, w0 = ((w.alloc (.cells #[.int .i64 k, .int .i64 s, .int .i64 y, .int .i64 q, .string b] 23)).alloc (.cells #[.int .i64 k', .int .i64 s', .int .i64 y', .int .i64 q', .string b'] 23)).alloc (.cells #[.int .i64 ma, .int .i64 mk, .int .i64 me, .string mj] 25) := ⟨_, rfl⟩
  obtain ⟨hbx, hb0⟩ := box3_at w #[.int .i64 k, .int .i64 s, .int .i64 y, .int .i64 q, .string b] #[.int .i64 k', .int .i64 s', .int .i64 y', .int .i64 q', .string b'] #[.int .i64 ma, .int .i64 mk, .int .i64 me, .string mj] w0 hw0
  have X0 := Lib.hid hbx
  have B0 := Lib.hid hb0
  have HW0 := Lib.hid hw0
  clear hw0 hbx hb0
  go_enter Tryd.func3, Tryd.ntmps3
  go_wp2_with fail
  rw [← HW0.out]
  refine (HA.out _).mono ?_
  rintro e w1 ⟨rfl, hb1⟩
  have X1 := Lib.hid (X0.out.errs (Errs.below hb1))
  have B1 := Lib.hid (B0.out.trans (hb1.mono B0.out.size))
  clear hb1 X0 B0
  obtain ⟨⟨⟨a10, a11, a12, a13, a14⟩, _⟩, ⟨⟨b10, b11, b12, b13, b14⟩, _⟩, c10, c11, c12, c13, z10, z11⟩ := X1.out.cs
  go_wp2_with fail
  refine (HB.out _).mono ?_
  rintro e w2 ⟨rfl, hb2⟩
  have X2 := Lib.hid (X1.out.errs (Errs.below hb2))
  have B2 := Lib.hid (B1.out.trans (hb2.mono B1.out.size))
  clear a10 a11 a12 a13 a14 b10 b11 b12 b13 b14 c10 c11 c12 c13 z10 z11
  clear hb2 X1 B1
  obtain ⟨⟨⟨a20, a21, a22, a23, a24⟩, _⟩, ⟨⟨b20, b21, b22, b23, b24⟩, _⟩, c20, c21, c22, c23, z20, z21⟩ := X2.out.cs
  go_wp2_with fail
  refine (fine_any _).mono ?_
  rintro e w3 ⟨rfl, hb3⟩
  have B3 := Lib.hid (B2.out.trans (hb3.mono B2.out.size))
  clear a20 a21 a22 a23 a24 b20 b21 b22 b23 b24 c20 c21 c22 c23 z20 z21
  clear hb3
  go_wp2
  go_ret
  exact ⟨rfl, B3.out⟩

set_option maxRecDepth 100000 in
set_option maxHeartbeats 2000000 in
theorem torn_f (k s y q k' s' y' q' : Int) (b b' : ByteArray) (ma mk me : Int) (mj : ByteArray) (S U : ByteArray) (w : World) (HA : Hid (∀ w, Calls Tryd.prog 5 #[.agg #[.int .i64 k, .int .i64 s, .int .i64 y, .int .i64 q, .string b]] w fun e w' => e = .returned (.tuple #[.string S, .int .i64 0]) ∧ Below w.heap.size w w')) (HB : Hid (∀ w, Calls Tryd.prog 5 #[.agg #[.int .i64 k', .int .i64 s', .int .i64 y', .int .i64 q', .string b']] w fun e w' => e = .returned (.tuple #[.string U, .int .i64 1]) ∧ Below w.heap.size w w')) :
    Calls Tryd.prog 3 #[.agg #[.int .i64 k, .int .i64 s, .int .i64 y, .int .i64 q, .string b], .agg #[.int .i64 k', .int .i64 s', .int .i64 y', .int .i64 q', .string b'], .agg #[.int .i64 ma, .int .i64 mk, .int .i64 me, .string mj]] w fun e w' => e = .returned (.bool true) ∧ Below w.heap.size w w' := by
  obtain ⟨w0, hw0⟩ : ∃ w0, w0 = ((w.alloc (.cells #[.int .i64 k, .int .i64 s, .int .i64 y, .int .i64 q, .string b] 23)).alloc (.cells #[.int .i64 k', .int .i64 s', .int .i64 y', .int .i64 q', .string b'] 23)).alloc (.cells #[.int .i64 ma, .int .i64 mk, .int .i64 me, .string mj] 25) := ⟨_, rfl⟩
  obtain ⟨hbx, hb0⟩ := box3_at w #[.int .i64 k, .int .i64 s, .int .i64 y, .int .i64 q, .string b] #[.int .i64 k', .int .i64 s', .int .i64 y', .int .i64 q', .string b'] #[.int .i64 ma, .int .i64 mk, .int .i64 me, .string mj] w0 hw0
  have X0 := Lib.hid hbx
  have B0 := Lib.hid hb0
  have HW0 := Lib.hid hw0
  clear hw0 hbx hb0
  go_enter Tryd.func3, Tryd.ntmps3
  go_wp2_with fail
  rw [← HW0.out]
  refine (HA.out _).mono ?_
  rintro e w1 ⟨rfl, hb1⟩
  have X1 := Lib.hid (X0.out.errs (Errs.below hb1))
  have B1 := Lib.hid (B0.out.trans (hb1.mono B0.out.size))
  clear hb1 X0 B0
  obtain ⟨⟨⟨a10, a11, a12, a13, a14⟩, _⟩, ⟨⟨b10, b11, b12, b13, b14⟩, _⟩, c10, c11, c12, c13, z10, z11⟩ := X1.out.cs
  go_wp2_with fail
  refine (HB.out _).mono ?_
  rintro e w2 ⟨rfl, hb2⟩
  have X2 := Lib.hid (X1.out.errs (Errs.below hb2))
  have B2 := Lib.hid (B1.out.trans (hb2.mono B1.out.size))
  clear a10 a11 a12 a13 a14 b10 b11 b12 b13 b14 c10 c11 c12 c13 z10 z11
  clear hb2 X1 B1
  obtain ⟨⟨⟨a20, a21, a22, a23, a24⟩, _⟩, ⟨⟨b20, b21, b22, b23, b24⟩, _⟩, c20, c21, c22, c23, z20, z21⟩ := X2.out.cs
  go_wp2_with fail
  refine (fine_any _).mono ?_
  rintro e w3 ⟨rfl, hb3⟩
  have B3 := Lib.hid (B2.out.trans (hb3.mono B2.out.size))
  clear a20 a21 a22 a23 a24 b20 b21 b22 b23 b24 c20 c21 c22 c23 z20 z21
  clear hb3
  go_wp2
  go_ret
  exact ⟨rfl, B3.out⟩

set_option maxRecDepth 100000 in
set_option maxHeartbeats 2000000 in
theorem torn_j (k s y q k' s' y' q' : Int) (b b' : ByteArray) (ma mk me : Int) (mj : ByteArray) (S U : ByteArray) (w : World) (hj : (500 : Int) < (mj.size : Int)) (HA : Hid (∀ w, Calls Tryd.prog 5 #[.agg #[.int .i64 k, .int .i64 s, .int .i64 y, .int .i64 q, .string b]] w fun e w' => e = .returned (.tuple #[.string S, .int .i64 0]) ∧ Below w.heap.size w w')) (HB : Hid (∀ w, Calls Tryd.prog 5 #[.agg #[.int .i64 k', .int .i64 s', .int .i64 y', .int .i64 q', .string b']] w fun e w' => e = .returned (.tuple #[.string U, .int .i64 0]) ∧ Below w.heap.size w w')) :
    Calls Tryd.prog 3 #[.agg #[.int .i64 k, .int .i64 s, .int .i64 y, .int .i64 q, .string b], .agg #[.int .i64 k', .int .i64 s', .int .i64 y', .int .i64 q', .string b'], .agg #[.int .i64 ma, .int .i64 mk, .int .i64 me, .string mj]] w fun e w' => e = .returned (.bool true) ∧ Below w.heap.size w w' := by
  obtain ⟨w0, hw0⟩ : ∃ w0, w0 = ((w.alloc (.cells #[.int .i64 k, .int .i64 s, .int .i64 y, .int .i64 q, .string b] 23)).alloc (.cells #[.int .i64 k', .int .i64 s', .int .i64 y', .int .i64 q', .string b'] 23)).alloc (.cells #[.int .i64 ma, .int .i64 mk, .int .i64 me, .string mj] 25) := ⟨_, rfl⟩
  obtain ⟨hbx, hb0⟩ := box3_at w #[.int .i64 k, .int .i64 s, .int .i64 y, .int .i64 q, .string b] #[.int .i64 k', .int .i64 s', .int .i64 y', .int .i64 q', .string b'] #[.int .i64 ma, .int .i64 mk, .int .i64 me, .string mj] w0 hw0
  have X0 := Lib.hid hbx
  have B0 := Lib.hid hb0
  have HW0 := Lib.hid hw0
  clear hw0 hbx hb0
  go_enter Tryd.func3, Tryd.ntmps3
  go_wp2_with fail
  rw [← HW0.out]
  refine (HA.out _).mono ?_
  rintro e w1 ⟨rfl, hb1⟩
  have X1 := Lib.hid (X0.out.errs (Errs.below hb1))
  have B1 := Lib.hid (B0.out.trans (hb1.mono B0.out.size))
  clear hb1 X0 B0
  obtain ⟨⟨⟨a10, a11, a12, a13, a14⟩, _⟩, ⟨⟨b10, b11, b12, b13, b14⟩, _⟩, c10, c11, c12, c13, z10, z11⟩ := X1.out.cs
  go_wp2_with fail
  refine (HB.out _).mono ?_
  rintro e w2 ⟨rfl, hb2⟩
  have X2 := Lib.hid (X1.out.errs (Errs.below hb2))
  have B2 := Lib.hid (B1.out.trans (hb2.mono B1.out.size))
  clear a10 a11 a12 a13 a14 b10 b11 b12 b13 b14 c10 c11 c12 c13 z10 z11
  clear hb2 X1 B1
  obtain ⟨⟨⟨a20, a21, a22, a23, a24⟩, _⟩, ⟨⟨b20, b21, b22, b23, b24⟩, _⟩, c20, c21, c22, c23, z20, z21⟩ := X2.out.cs
  go_wp2_with fail
  refine (fine_any _).mono ?_
  rintro e w3 ⟨rfl, hb3⟩
  have B3 := Lib.hid (B2.out.trans (hb3.mono B2.out.size))
  clear a20 a21 a22 a23 a24 b20 b21 b22 b23 b24 c20 c21 c22 c23 z20 z21
  clear hb3
  go_wp2
  go_ret
  exact ⟨rfl, B3.out⟩

set_option maxRecDepth 100000 in
set_option maxHeartbeats 4000000 in
theorem torn_same (k s y q k' s' y' q' : Int) (b b' : ByteArray) (ma mk me : Int) (mj : ByteArray) (S U Y : ByteArray) (w : World) (HG : Hid (ErrorType w)) (hj : ¬ (500 : Int) < (mj.size : Int)) (sa : S.size ≤ 128) (sb : U.size ≤ 128) (wf : (Lit.int .i64 me).wf = true) (jj : mj.size ≤ maxLen) (HA : Hid (∀ w, Calls Tryd.prog 5 #[.agg #[.int .i64 k, .int .i64 s, .int .i64 y, .int .i64 q, .string b]] w fun e w' => e = .returned (.tuple #[.string S, .int .i64 0]) ∧ Below w.heap.size w w')) (HB : Hid (∀ w, Calls Tryd.prog 5 #[.agg #[.int .i64 k', .int .i64 s', .int .i64 y', .int .i64 q', .string b']] w fun e w' => e = .returned (.tuple #[.string U, .int .i64 0]) ∧ Below w.heap.size w w')) (HR0 : Hid (∀ w, Calls Tryd.prog 14 #[.string S] w fun e w' => e = .returned (.tuple #[.agg #[.int .i64 k, .int .i64 s, .int .i64 y, .int .i64 q, .string b], .int .i64 0]) ∧ Below w.heap.size w w')) (HY : Hid (spoilt { tm ⟨ma, mk, me, mj⟩ with junk := cut mj } U = Y)) (he : (Y.toList == U.toList) = true) (HR1 : Hid (∀ w, Calls Tryd.prog 14 #[.string Y] w fun e w' => e = .returned (.tuple #[.agg #[.int .i64 k', .int .i64 s', .int .i64 y', .int .i64 q', .string b'], .int .i64 0]) ∧ Below w.heap.size w w')) :
    Calls Tryd.prog 3 #[.agg #[.int .i64 k, .int .i64 s, .int .i64 y, .int .i64 q, .string b], .agg #[.int .i64 k', .int .i64 s', .int .i64 y', .int .i64 q', .string b'], .agg #[.int .i64 ma, .int .i64 mk, .int .i64 me, .string mj]] w fun e w' => e = .returned (.bool true) ∧ Below w.heap.size w w' := by
  obtain ⟨w0, hw0⟩ : ∃ w0, w0 = ((w.alloc (.cells #[.int .i64 k, .int .i64 s, .int .i64 y, .int .i64 q, .string b] 23)).alloc (.cells #[.int .i64 k', .int .i64 s', .int .i64 y', .int .i64 q', .string b'] 23)).alloc (.cells #[.int .i64 ma, .int .i64 mk, .int .i64 me, .string mj] 25) := ⟨_, rfl⟩
  obtain ⟨hbx, hb0⟩ := box3_at w #[.int .i64 k, .int .i64 s, .int .i64 y, .int .i64 q, .string b] #[.int .i64 k', .int .i64 s', .int .i64 y', .int .i64 q', .string b'] #[.int .i64 ma, .int .i64 mk, .int .i64 me, .string mj] w0 hw0
  have X0 := Lib.hid hbx
  have B0 := Lib.hid hb0
  have HW0 := Lib.hid hw0
  clear hw0 hbx hb0
  go_enter Tryd.func3, Tryd.ntmps3
  go_wp2_with fail
  rw [← HW0.out]
  refine (HA.out _).mono ?_
  rintro e w1 ⟨rfl, hb1⟩
  have X1 := Lib.hid (X0.out.errs (Errs.below hb1))
  have B1 := Lib.hid (B0.out.trans (hb1.mono B0.out.size))
  clear hb1 X0 B0
  obtain ⟨⟨⟨a10, a11, a12, a13, a14⟩, _⟩, ⟨⟨b10, b11, b12, b13, b14⟩, _⟩, c10, c11, c12, c13, z10, z11⟩ := X1.out.cs
  go_wp2_with fail
  refine (HB.out _).mono ?_
  rintro e w2 ⟨rfl, hb2⟩
  have X2 := Lib.hid (X1.out.errs (Errs.below hb2))
  have B2 := Lib.hid (B1.out.trans (hb2.mono B1.out.size))
  clear a10 a11 a12 a13 a14 b10 b11 b12 b13 b14 c10 c11 c12 c13 z10 z11
  clear hb2 X1 B1
  obtain ⟨⟨⟨a20, a21, a22, a23, a24⟩, _⟩, ⟨⟨b20, b21, b22, b23, b24⟩, _⟩, c20, c21, c22, c23, z20, z21⟩ := X2.out.cs
  have HSA := Lib.hid sa
  have HSB := Lib.hid sb
  have HWF := Lib.hid wf
  have HJJ := Lib.hid jj
  clear sa sb wf jj
  go_wp2_with fail
  refine (TP.plain_any _).mono ?_
  rintro e w3 ⟨rfl, hb3⟩
  have X3 := Lib.hid (X2.out.errs (Errs.below hb3))
  have hb3' := B2.out.trans (hb3.mono B2.out.size)
  clear a20 a21 a22 a23 a24 b20 b21 b22 b23 b24 c20 c21 c22 c23 z20 z21
  clear hb3 X2 B2
  go_wp2_with fail
  refine (st_new 16 8 (by omega) w hb3').mono ?_
  rintro e w4 ⟨g, rfl, h4, k4⟩
  have H4 := Lib.hid h4
  have X4 := Lib.hid (X3.out.errs k4)
  clear h4 k4 X3 hb3'
  go_wp2_with fail
  refine (st_program H4.out (by decide) 0 rfl S).mono ?_
  rintro e w5 ⟨v5, rfl, he5, h5, k5⟩
  rw [t1 HSA.out] at he5 h5
  obtain rfl := he5.none rfl
  have H5 := Lib.hid h5
  have X5 := Lib.hid (X4.out.errs k5)
  clear h5 he5 k5 X4
  obtain ⟨L, hL⟩ : ∃ L, L = w.heap.size := ⟨_, rfl⟩
  have HL := Lib.hid hL
  have hk5 : Blk w5 (w.heap.size + 1 + 1) 25 #[.int .i64 ma, .int .i64 mk, .int .i64 me, .string mj] := X5.out.2.2
  have c0 : w5.cell? ⟨w.heap.size + 1 + 1, 0, none⟩ = some (.int .i64 ma) := hk5.cell 0
  have z0 := hk5.frozen 0
  have hk6 := hk5.set_ 0 (.int .i64 1)
  have c1 : (w5.setCell ⟨w.heap.size + 1 + 1, 0, none⟩ (.int .i64 1)).cell? ⟨w.heap.size + 1 + 1, 1, none⟩ = some (.int .i64 mk) := hk6.cell 1
  have z1 := hk6.frozen 1
  have hk7 := hk6.set_ 1 (.int .i64 1)
  have h6 := H5.out.own rfl hk5 (by omega) 0 (.int .i64 1)
  have h7 := h6.own rfl hk6 (by omega) 1 (.int .i64 1)
  have d0 : ((w5.setCell ⟨w.heap.size + 1 + 1, 0, none⟩ (.int .i64 1)).setCell ⟨w.heap.size + 1 + 1, 1, none⟩ (.int .i64 1)).cell? ⟨w.heap.size + 1 + 1, 0, none⟩ = some (.int .i64 1) := hk7.cell 0
  have d1 : ((w5.setCell ⟨w.heap.size + 1 + 1, 0, none⟩ (.int .i64 1)).setCell ⟨w.heap.size + 1 + 1, 1, none⟩ (.int .i64 1)).cell? ⟨w.heap.size + 1 + 1, 1, none⟩ = some (.int .i64 1) := hk7.cell 1
  have d2 : ((w5.setCell ⟨w.heap.size + 1 + 1, 0, none⟩ (.int .i64 1)).setCell ⟨w.heap.size + 1 + 1, 1, none⟩ (.int .i64 1)).cell? ⟨w.heap.size + 1 + 1, 2, none⟩ = some (.int .i64 me) := hk7.cell 2
  have d3 : ((w5.setCell ⟨w.heap.size + 1 + 1, 0, none⟩ (.int .i64 1)).setCell ⟨w.heap.size + 1 + 1, 1, none⟩ (.int .i64 1)).cell? ⟨w.heap.size + 1 + 1, 3, none⟩ = some (.string mj) := hk7.cell 3
  have x7 : Bx ((w5.setCell ⟨w.heap.size + 1 + 1, 0, none⟩ (.int .i64 1)).setCell ⟨w.heap.size + 1 + 1, 1, none⟩ (.int .i64 1)) w.heap.size #[.int .i64 k, .int .i64 s, .int .i64 y, .int .i64 q, .string b] #[.int .i64 k', .int .i64 s', .int .i64 y', .int .i64 q', .string b'] #[.int .i64 1, .int .i64 1, .int .i64 me, .string mj] :=
    ⟨(X5.out.1.far (by simp; omega) _).far (by simp; omega) _, (X5.out.2.1.far (by simp) _).far (by simp) _, hk7⟩
  have H7 := Lib.hid h7
  have X7 := Lib.hid x7
  clear hk5 hk6 hk7 h6 h7 x7 hL
  go_wp2_with fail
  obtain ⟨w7, hw7⟩ : ∃ w7, w7 = (w5.setCell ⟨w.heap.size + 1 + 1, 0, none⟩ (.int .i64 1)).setCell ⟨w.heap.size + 1 + 1, 1, none⟩ (.int .i64 1) := ⟨_, rfl⟩
  have hs7 : w7.heap.size = w5.heap.size := by rw [hw7]; simp [World.setCell]
  rw [← hw7] at H7 X7 ⊢
  clear hw7 c0 z0 c1 z1 d0 d1 d2 d3
  refine (st_plan_new H7.out [tm ⟨ma, mk, me, mj⟩] _ rfl 1 1 rfl (by simp [maxLen]) (by
    intro m hm
    obtain rfl := List.mem_singleton.1 hm
    exact ⟨rfl, rfl, HWF.out, HJJ.out⟩) _ hs7).mono ?_
  rintro e w8 ⟨rfl, h8, k8⟩
  rw [show (T1 S).planned [tm ⟨ma, mk, me, mj⟩] = T2 S ⟨ma, mk, me, mj⟩ from by unfold T2; rfl] at h8
  have H8 := Lib.hid h8
  have X8 := Lib.hid (X7.out.errs k8)
  clear h8 k8 X7 X5
  go_wp2_with fail
  refine (st_program H8.out (by show 1 ≤ _; decide) 1 rfl U).mono ?_
  rintro e w9 ⟨v9, rfl, he9, h9, k9⟩
  rw [t2 ⟨ma, mk, me, mj⟩ HSB.out] at he9 h9
  have H9 := Lib.hid h9
  have E9 := Lib.hid he9
  have X9 := Lib.hid (X8.out.errs k9)
  clear h9 k9 he9 X8
  go_wp2_with fail
  refine (st_code H9.out HG.out E9.out).mono ?_
  rintro e w10 ⟨rfl, h10, k10⟩
  have H10 := Lib.hid h10
  have X10 := Lib.hid (X9.out.errs k10)
  clear h10 k10 X9
  go_wp2_with fail
  refine (st_up H10.out).mono ?_
  rintro e w11 ⟨rfl, h11, k11⟩
  have H11 := Lib.hid h11
  have X11 := Lib.hid (X10.out.errs k11)
  clear h11 k11 X10
  go_wp2_with fail
  refine (st_read H11.out 0 rfl).mono ?_
  rintro e w12 ⟨v12, rfl, he12, h12, k12⟩
  rw [t4a] at he12
  obtain rfl := he12.none rfl
  rw [t4a]
  have H12 := Lib.hid h12
  have X12 := Lib.hid (X11.out.errs k12)
  clear h12 k12 he12 X11
  go_wp2_with fail
  refine (HR0.out _).mono ?_
  rintro e w13 ⟨rfl, hb13⟩
  have hbn : Below w12.heap.size w12 (w13.alloc (.cells #[.int .i64 k, .int .i64 s, .int .i64 y, .int .i64 q, .string b] 23)) := hb13.alloc hb13.size _
  obtain ⟨W13, hW13⟩ : ∃ W13, W13 = w13.alloc (.cells #[.int .i64 k, .int .i64 s, .int .i64 y, .int .i64 q, .string b] 23) := ⟨_, rfl⟩
  rw [← hW13] at hbn
  have hq13 : Blk W13 w13.heap.size 23 #[.int .i64 k, .int .i64 s, .int .i64 y, .int .i64 q, .string b] := by rw [hW13]; exact Blk.new w13 _ _
  have H13 := Lib.hid (H12.out.below hbn)
  have X13 := Lib.hid (X12.out.errs (Errs.below hbn))
  have HW13 := Lib.hid hW13
  obtain ⟨⟨r0, r1, r2, r3, r4⟩, _⟩ := cells5 hq13
  obtain ⟨⟨⟨a130, a131, a132, a133, a134⟩, _⟩, ⟨⟨b130, b131, b132, b133, b134⟩, _⟩, c130, c131, c132, c133, z130, z131⟩ := X13.out.cs
  rw [hW13] at r0 r1 r2 r3 r4 a130 a131 a132 a133 a134
  clear b130 b131 b132 b133 b134 c130 c131 c132 c133 z130 z131 hb13 hbn hq13 X12 hW13
  go_wp2_with fail
  rw [← HW13.out]
  clear r0 r1 r2 r3 r4 a130 a131 a132 a133 a134
  refine (st_read H13.out 1 rfl).mono ?_
  rintro e w14 ⟨v14, rfl, he14, h14, k14⟩
  rw [t4b] at he14
  obtain rfl := he14.none rfl
  rw [t4b, HY.out]
  have H14 := Lib.hid h14
  have X14 := Lib.hid (X13.out.errs k14)
  clear h14 k14 he14 X13
  go_wp2_with fail
  refine (HR1.out _).mono ?_
  rintro e w15 ⟨rfl, hb15⟩
  have hbn : Below w14.heap.size w14 (w15.alloc (.cells #[.int .i64 k', .int .i64 s', .int .i64 y', .int .i64 q', .string b'] 23)) := hb15.alloc hb15.size _
  obtain ⟨W15, hW15⟩ : ∃ W15, W15 = w15.alloc (.cells #[.int .i64 k', .int .i64 s', .int .i64 y', .int .i64 q', .string b'] 23) := ⟨_, rfl⟩
  obtain ⟨L15, hL15⟩ : ∃ L15, L15 = w15.heap.size := ⟨_, rfl⟩
  rw [← hW15] at hbn
  have J15 : Hid (Blk W15 L15 23 #[.int .i64 k', .int .i64 s', .int .i64 y', .int .i64 q', .string b']) := by show Blk _ _ _ _; rw [hW15, hL15]; exact Blk.new w15 _ _
  have H15 := Lib.hid (H14.out.below hbn)
  have X15 := Lib.hid (X14.out.errs (Errs.below hbn))
  have HW15 := Lib.hid hW15
  have HL15 := Lib.hid hL15
  clear hb15 hbn X14 hW15 hL15
  go_wp2_with fail
  rw [← HW15.out]
  refine (fine_any _).mono ?_
  rintro e w16 ⟨rfl, hb16⟩
  have X16 := Lib.hid (X15.out.errs (Errs.below hb16))
  obtain ⟨⟨⟨a160, a161, a162, a163, a164⟩, _⟩, ⟨⟨b160, b161, b162, b163, b164⟩, _⟩, c160, c161, c162, c163, z160, z161⟩ := X16.out.cs
  obtain ⟨⟨r0, r1, r2, r3, r4⟩, _⟩ := cells5 (J15.out.below hb16 J15.out.lt)
  rw [HL15.out] at r0 r1 r2 r3 r4
  have HB := Lib.hid (H15.out.bel.trans (hb16.mono H15.out.bel.size))
  clear hb16 a160 a161 a162 a163 a164 c160 c161 c162 c163 z160 z161
  go_wp2
  go_ret
  exact ⟨rfl, HB.out⟩

set_option maxRecDepth 100000 in
set_option maxHeartbeats 4000000 in
theorem torn_none (k s y q k' s' y' q' : Int) (b b' : ByteArray) (ma mk me : Int) (mj : ByteArray) (S U Y : ByteArray) (n : Int) (w : World) (HG : Hid (ErrorType w)) (hj : ¬ (500 : Int) < (mj.size : Int)) (sa : S.size ≤ 128) (sb : U.size ≤ 128) (wf : (Lit.int .i64 me).wf = true) (jj : mj.size ≤ maxLen) (HA : Hid (∀ w, Calls Tryd.prog 5 #[.agg #[.int .i64 k, .int .i64 s, .int .i64 y, .int .i64 q, .string b]] w fun e w' => e = .returned (.tuple #[.string S, .int .i64 0]) ∧ Below w.heap.size w w')) (HB : Hid (∀ w, Calls Tryd.prog 5 #[.agg #[.int .i64 k', .int .i64 s', .int .i64 y', .int .i64 q', .string b']] w fun e w' => e = .returned (.tuple #[.string U, .int .i64 0]) ∧ Below w.heap.size w w')) (HR0 : Hid (∀ w, Calls Tryd.prog 14 #[.string S] w fun e w' => e = .returned (.tuple #[.agg #[.int .i64 k, .int .i64 s, .int .i64 y, .int .i64 q, .string b], .int .i64 0]) ∧ Below w.heap.size w w')) (HY : Hid (spoilt { tm ⟨ma, mk, me, mj⟩ with junk := cut mj } U = Y)) (he : (Y.toList == U.toList) = false) (hn : ¬ n = 0) (HR1 : Hid (∀ w, Calls Tryd.prog 14 #[.string Y] w fun e w' => e = .returned (.tuple #[.agg #[.int .i64 0, .int .i64 0, .int .i64 0, .int .i64 0, .string ⟨#[]⟩], .int .i64 n]) ∧ Below w.heap.size w w')) (HWQ : Hid (∀ w, Calls Tryd.prog 5 #[.agg #[.int .i64 0, .int .i64 0, .int .i64 0, .int .i64 0, .string ⟨#[]⟩]] w fun e w' => e = .returned (.tuple #[.string ⟨#[]⟩, .int .i64 1]) ∧ Below w.heap.size w w')) :
    Calls Tryd.prog 3 #[.agg #[.int .i64 k, .int .i64 s, .int .i64 y, .int .i64 q, .string b], .agg #[.int .i64 k', .int .i64 s', .int .i64 y', .int .i64 q', .string b'], .agg #[.int .i64 ma, .int .i64 mk, .int .i64 me, .string mj]] w fun e w' => e = .returned (.bool true) ∧ Below w.heap.size w w' := by
  obtain ⟨w0, hw0⟩ : ∃ w0, w0 = ((w.alloc (.cells #[.int .i64 k, .int .i64 s, .int .i64 y, .int .i64 q, .string b] 23)).alloc (.cells #[.int .i64 k', .int .i64 s', .int .i64 y', .int .i64 q', .string b'] 23)).alloc (.cells #[.int .i64 ma, .int .i64 mk, .int .i64 me, .string mj] 25) := ⟨_, rfl⟩
  obtain ⟨hbx, hb0⟩ := box3_at w #[.int .i64 k, .int .i64 s, .int .i64 y, .int .i64 q, .string b] #[.int .i64 k', .int .i64 s', .int .i64 y', .int .i64 q', .string b'] #[.int .i64 ma, .int .i64 mk, .int .i64 me, .string mj] w0 hw0
  have X0 := Lib.hid hbx
  have B0 := Lib.hid hb0
  have HW0 := Lib.hid hw0
  clear hw0 hbx hb0
  go_enter Tryd.func3, Tryd.ntmps3
  go_wp2_with fail
  rw [← HW0.out]
  refine (HA.out _).mono ?_
  rintro e w1 ⟨rfl, hb1⟩
  have X1 := Lib.hid (X0.out.errs (Errs.below hb1))
  have B1 := Lib.hid (B0.out.trans (hb1.mono B0.out.size))
  clear hb1 X0 B0
  obtain ⟨⟨⟨a10, a11, a12, a13, a14⟩, _⟩, ⟨⟨b10, b11, b12, b13, b14⟩, _⟩, c10, c11, c12, c13, z10, z11⟩ := X1.out.cs
  go_wp2_with fail
  refine (HB.out _).mono ?_
  rintro e w2 ⟨rfl, hb2⟩
  have X2 := Lib.hid (X1.out.errs (Errs.below hb2))
  have B2 := Lib.hid (B1.out.trans (hb2.mono B1.out.size))
  clear a10 a11 a12 a13 a14 b10 b11 b12 b13 b14 c10 c11 c12 c13 z10 z11
  clear hb2 X1 B1
  obtain ⟨⟨⟨a20, a21, a22, a23, a24⟩, _⟩, ⟨⟨b20, b21, b22, b23, b24⟩, _⟩, c20, c21, c22, c23, z20, z21⟩ := X2.out.cs
  have HSA := Lib.hid sa
  have HSB := Lib.hid sb
  have HWF := Lib.hid wf
  have HJJ := Lib.hid jj
  clear sa sb wf jj
  go_wp2_with fail
  refine (TP.plain_any _).mono ?_
  rintro e w3 ⟨rfl, hb3⟩
  have X3 := Lib.hid (X2.out.errs (Errs.below hb3))
  have hb3' := B2.out.trans (hb3.mono B2.out.size)
  clear a20 a21 a22 a23 a24 b20 b21 b22 b23 b24 c20 c21 c22 c23 z20 z21
  clear hb3 X2 B2
  go_wp2_with fail
  refine (st_new 16 8 (by omega) w hb3').mono ?_
  rintro e w4 ⟨g, rfl, h4, k4⟩
  have H4 := Lib.hid h4
  have X4 := Lib.hid (X3.out.errs k4)
  clear h4 k4 X3 hb3'
  go_wp2_with fail
  refine (st_program H4.out (by decide) 0 rfl S).mono ?_
  rintro e w5 ⟨v5, rfl, he5, h5, k5⟩
  rw [t1 HSA.out] at he5 h5
  obtain rfl := he5.none rfl
  have H5 := Lib.hid h5
  have X5 := Lib.hid (X4.out.errs k5)
  clear h5 he5 k5 X4
  obtain ⟨L, hL⟩ : ∃ L, L = w.heap.size := ⟨_, rfl⟩
  have HL := Lib.hid hL
  have hk5 : Blk w5 (w.heap.size + 1 + 1) 25 #[.int .i64 ma, .int .i64 mk, .int .i64 me, .string mj] := X5.out.2.2
  have c0 : w5.cell? ⟨w.heap.size + 1 + 1, 0, none⟩ = some (.int .i64 ma) := hk5.cell 0
  have z0 := hk5.frozen 0
  have hk6 := hk5.set_ 0 (.int .i64 1)
  have c1 : (w5.setCell ⟨w.heap.size + 1 + 1, 0, none⟩ (.int .i64 1)).cell? ⟨w.heap.size + 1 + 1, 1, none⟩ = some (.int .i64 mk) := hk6.cell 1
  have z1 := hk6.frozen 1
  have hk7 := hk6.set_ 1 (.int .i64 1)
  have h6 := H5.out.own rfl hk5 (by omega) 0 (.int .i64 1)
  have h7 := h6.own rfl hk6 (by omega) 1 (.int .i64 1)
  have d0 : ((w5.setCell ⟨w.heap.size + 1 + 1, 0, none⟩ (.int .i64 1)).setCell ⟨w.heap.size + 1 + 1, 1, none⟩ (.int .i64 1)).cell? ⟨w.heap.size + 1 + 1, 0, none⟩ = some (.int .i64 1) := hk7.cell 0
  have d1 : ((w5.setCell ⟨w.heap.size + 1 + 1, 0, none⟩ (.int .i64 1)).setCell ⟨w.heap.size + 1 + 1, 1, none⟩ (.int .i64 1)).cell? ⟨w.heap.size + 1 + 1, 1, none⟩ = some (.int .i64 1) := hk7.cell 1
  have d2 : ((w5.setCell ⟨w.heap.size + 1 + 1, 0, none⟩ (.int .i64 1)).setCell ⟨w.heap.size + 1 + 1, 1, none⟩ (.int .i64 1)).cell? ⟨w.heap.size + 1 + 1, 2, none⟩ = some (.int .i64 me) := hk7.cell 2
  have d3 : ((w5.setCell ⟨w.heap.size + 1 + 1, 0, none⟩ (.int .i64 1)).setCell ⟨w.heap.size + 1 + 1, 1, none⟩ (.int .i64 1)).cell? ⟨w.heap.size + 1 + 1, 3, none⟩ = some (.string mj) := hk7.cell 3
  have x7 : Bx ((w5.setCell ⟨w.heap.size + 1 + 1, 0, none⟩ (.int .i64 1)).setCell ⟨w.heap.size + 1 + 1, 1, none⟩ (.int .i64 1)) w.heap.size #[.int .i64 k, .int .i64 s, .int .i64 y, .int .i64 q, .string b] #[.int .i64 k', .int .i64 s', .int .i64 y', .int .i64 q', .string b'] #[.int .i64 1, .int .i64 1, .int .i64 me, .string mj] :=
    ⟨(X5.out.1.far (by simp; omega) _).far (by simp; omega) _, (X5.out.2.1.far (by simp) _).far (by simp) _, hk7⟩
  have H7 := Lib.hid h7
  have X7 := Lib.hid x7
  clear hk5 hk6 hk7 h6 h7 x7 hL
  go_wp2_with fail
  obtain ⟨w7, hw7⟩ : ∃ w7, w7 = (w5.setCell ⟨w.heap.size + 1 + 1, 0, none⟩ (.int .i64 1)).setCell ⟨w.heap.size + 1 + 1, 1, none⟩ (.int .i64 1) := ⟨_, rfl⟩
  have hs7 : w7.heap.size = w5.heap.size := by rw [hw7]; simp [World.setCell]
  rw [← hw7] at H7 X7 ⊢
  clear hw7 c0 z0 c1 z1 d0 d1 d2 d3
  refine (st_plan_new H7.out [tm ⟨ma, mk, me, mj⟩] _ rfl 1 1 rfl (by simp [maxLen]) (by
    intro m hm
    obtain rfl := List.mem_singleton.1 hm
    exact ⟨rfl, rfl, HWF.out, HJJ.out⟩) _ hs7).mono ?_
  rintro e w8 ⟨rfl, h8, k8⟩
  rw [show (T1 S).planned [tm ⟨ma, mk, me, mj⟩] = T2 S ⟨ma, mk, me, mj⟩ from by unfold T2; rfl] at h8
  have H8 := Lib.hid h8
  have X8 := Lib.hid (X7.out.errs k8)
  clear h8 k8 X7 X5
  go_wp2_with fail
  refine (st_program H8.out (by show 1 ≤ _; decide) 1 rfl U).mono ?_
  rintro e w9 ⟨v9, rfl, he9, h9, k9⟩
  rw [t2 ⟨ma, mk, me, mj⟩ HSB.out] at he9 h9
  have H9 := Lib.hid h9
  have E9 := Lib.hid he9
  have X9 := Lib.hid (X8.out.errs k9)
  clear h9 k9 he9 X8
  go_wp2_with fail
  refine (st_code H9.out HG.out E9.out).mono ?_
  rintro e w10 ⟨rfl, h10, k10⟩
  have H10 := Lib.hid h10
  have X10 := Lib.hid (X9.out.errs k10)
  clear h10 k10 X9
  go_wp2_with fail
  refine (st_up H10.out).mono ?_
  rintro e w11 ⟨rfl, h11, k11⟩
  have H11 := Lib.hid h11
  have X11 := Lib.hid (X10.out.errs k11)
  clear h11 k11 X10
  go_wp2_with fail
  refine (st_read H11.out 0 rfl).mono ?_
  rintro e w12 ⟨v12, rfl, he12, h12, k12⟩
  rw [t4a] at he12
  obtain rfl := he12.none rfl
  rw [t4a]
  have H12 := Lib.hid h12
  have X12 := Lib.hid (X11.out.errs k12)
  clear h12 k12 he12 X11
  go_wp2_with fail
  refine (HR0.out _).mono ?_
  rintro e w13 ⟨rfl, hb13⟩
  have hbn : Below w12.heap.size w12 (w13.alloc (.cells #[.int .i64 k, .int .i64 s, .int .i64 y, .int .i64 q, .string b] 23)) := hb13.alloc hb13.size _
  obtain ⟨W13, hW13⟩ : ∃ W13, W13 = w13.alloc (.cells #[.int .i64 k, .int .i64 s, .int .i64 y, .int .i64 q, .string b] 23) := ⟨_, rfl⟩
  rw [← hW13] at hbn
  have hq13 : Blk W13 w13.heap.size 23 #[.int .i64 k, .int .i64 s, .int .i64 y, .int .i64 q, .string b] := by rw [hW13]; exact Blk.new w13 _ _
  have H13 := Lib.hid (H12.out.below hbn)
  have X13 := Lib.hid (X12.out.errs (Errs.below hbn))
  have HW13 := Lib.hid hW13
  obtain ⟨⟨r0, r1, r2, r3, r4⟩, _⟩ := cells5 hq13
  obtain ⟨⟨⟨a130, a131, a132, a133, a134⟩, _⟩, ⟨⟨b130, b131, b132, b133, b134⟩, _⟩, c130, c131, c132, c133, z130, z131⟩ := X13.out.cs
  rw [hW13] at r0 r1 r2 r3 r4 a130 a131 a132 a133 a134
  clear b130 b131 b132 b133 b134 c130 c131 c132 c133 z130 z131 hb13 hbn hq13 X12 hW13
  go_wp2_with fail
  rw [← HW13.out]
  clear r0 r1 r2 r3 r4 a130 a131 a132 a133 a134
  refine (st_read H13.out 1 rfl).mono ?_
  rintro e w14 ⟨v14, rfl, he14, h14, k14⟩
  rw [t4b] at he14
  obtain rfl := he14.none rfl
  rw [t4b, HY.out]
  have H14 := Lib.hid h14
  have X14 := Lib.hid (X13.out.errs k14)
  clear h14 k14 he14 X13
  go_wp2_with fail
  refine (HR1.out _).mono ?_
  rintro e w15 ⟨rfl, hb15⟩
  have hbn : Below w14.heap.size w14 (w15.alloc (.cells #[.int .i64 0, .int .i64 0, .int .i64 0, .int .i64 0, .string ⟨#[]⟩] 23)) := hb15.alloc hb15.size _
  obtain ⟨W15, hW15⟩ : ∃ W15, W15 = w15.alloc (.cells #[.int .i64 0, .int .i64 0, .int .i64 0, .int .i64 0, .string ⟨#[]⟩] 23) := ⟨_, rfl⟩
  obtain ⟨L15, hL15⟩ : ∃ L15, L15 = w15.heap.size := ⟨_, rfl⟩
  rw [← hW15] at hbn
  have J15 : Hid (Blk W15 L15 23 #[.int .i64 0, .int .i64 0, .int .i64 0, .int .i64 0, .string ⟨#[]⟩]) := by show Blk _ _ _ _; rw [hW15, hL15]; exact Blk.new w15 _ _
  have H15 := Lib.hid (H14.out.below hbn)
  have X15 := Lib.hid (X14.out.errs (Errs.below hbn))
  have HW15 := Lib.hid hW15
  have HL15 := Lib.hid hL15
  clear hb15 hbn X14 hW15 hL15
  obtain ⟨⟨r0, r1, r2, r3, r4⟩, _⟩ := cells5 J15.out
  rw [HL15.out, HW15.out] at r0 r1 r2 r3 r4
  go_wp2_with fail
  rw [← HW15.out]
  clear r0 r1 r2 r3 r4
  refine (HWQ.out _).mono ?_
  rintro e w16 ⟨rfl, hb16⟩
  have J16 := Lib.hid (J15.out.below hb16 J15.out.lt)
  have B16 := Lib.hid (H15.out.bel.trans (hb16.mono H15.out.bel.size))
  clear hb16
  go_wp2_with fail
  refine (fine_any _).mono ?_
  rintro e w17 ⟨rfl, hb17⟩
  obtain ⟨⟨r0, r1, r2, r3, r4⟩, _⟩ := cells5 (J16.out.below hb17 J16.out.lt)
  rw [HL15.out] at r0 r1 r2 r3 r4
  have HB := Lib.hid (B16.out.trans (hb17.mono B16.out.size))
  clear hb17
  go_wp2
  go_ret
  exact ⟨rfl, HB.out⟩

set_option maxRecDepth 100000 in
set_option maxHeartbeats 4000000 in
theorem torn_page (k s y q k' s' y' q' : Int) (b b' : ByteArray) (ma mk me : Int) (mj : ByteArray) (S U Y : ByteArray) (q0 q1 q2 q3 : Int) (q4 : ByteArray) (w : World) (HG : Hid (ErrorType w)) (hj : ¬ (500 : Int) < (mj.size : Int)) (sa : S.size ≤ 128) (sb : U.size ≤ 128) (wf : (Lit.int .i64 me).wf = true) (jj : mj.size ≤ maxLen) (HA : Hid (∀ w, Calls Tryd.prog 5 #[.agg #[.int .i64 k, .int .i64 s, .int .i64 y, .int .i64 q, .string b]] w fun e w' => e = .returned (.tuple #[.string S, .int .i64 0]) ∧ Below w.heap.size w w')) (HB : Hid (∀ w, Calls Tryd.prog 5 #[.agg #[.int .i64 k', .int .i64 s', .int .i64 y', .int .i64 q', .string b']] w fun e w' => e = .returned (.tuple #[.string U, .int .i64 0]) ∧ Below w.heap.size w w')) (HR0 : Hid (∀ w, Calls Tryd.prog 14 #[.string S] w fun e w' => e = .returned (.tuple #[.agg #[.int .i64 k, .int .i64 s, .int .i64 y, .int .i64 q, .string b], .int .i64 0]) ∧ Below w.heap.size w w')) (HY : Hid (spoilt { tm ⟨ma, mk, me, mj⟩ with junk := cut mj } U = Y)) (he : (Y.toList == U.toList) = false) (HR1 : Hid (∀ w, Calls Tryd.prog 14 #[.string Y] w fun e w' => e = .returned (.tuple #[.agg #[.int .i64 q0, .int .i64 q1, .int .i64 q2, .int .i64 q3, .string q4], .int .i64 0]) ∧ Below w.heap.size w w')) (HWQ : Hid (∀ w, Calls Tryd.prog 5 #[.agg #[.int .i64 q0, .int .i64 q1, .int .i64 q2, .int .i64 q3, .string q4]] w fun e w' => e = .returned (.tuple #[.string Y, .int .i64 0]) ∧ Below w.heap.size w w')) :
    Calls Tryd.prog 3 #[.agg #[.int .i64 k, .int .i64 s, .int .i64 y, .int .i64 q, .string b], .agg #[.int .i64 k', .int .i64 s', .int .i64 y', .int .i64 q', .string b'], .agg #[.int .i64 ma, .int .i64 mk, .int .i64 me, .string mj]] w fun e w' => e = .returned (.bool true) ∧ Below w.heap.size w w' := by
  obtain ⟨w0, hw0⟩ : ∃ w0, w0 = ((w.alloc (.cells #[.int .i64 k, .int .i64 s, .int .i64 y, .int .i64 q, .string b] 23)).alloc (.cells #[.int .i64 k', .int .i64 s', .int .i64 y', .int .i64 q', .string b'] 23)).alloc (.cells #[.int .i64 ma, .int .i64 mk, .int .i64 me, .string mj] 25) := ⟨_, rfl⟩
  obtain ⟨hbx, hb0⟩ := box3_at w #[.int .i64 k, .int .i64 s, .int .i64 y, .int .i64 q, .string b] #[.int .i64 k', .int .i64 s', .int .i64 y', .int .i64 q', .string b'] #[.int .i64 ma, .int .i64 mk, .int .i64 me, .string mj] w0 hw0
  have X0 := Lib.hid hbx
  have B0 := Lib.hid hb0
  have HW0 := Lib.hid hw0
  clear hw0 hbx hb0
  go_enter Tryd.func3, Tryd.ntmps3
  go_wp2_with fail
  rw [← HW0.out]
  refine (HA.out _).mono ?_
  rintro e w1 ⟨rfl, hb1⟩
  have X1 := Lib.hid (X0.out.errs (Errs.below hb1))
  have B1 := Lib.hid (B0.out.trans (hb1.mono B0.out.size))
  clear hb1 X0 B0
  obtain ⟨⟨⟨a10, a11, a12, a13, a14⟩, _⟩, ⟨⟨b10, b11, b12, b13, b14⟩, _⟩, c10, c11, c12, c13, z10, z11⟩ := X1.out.cs
  go_wp2_with fail
  refine (HB.out _).mono ?_
  rintro e w2 ⟨rfl, hb2⟩
  have X2 := Lib.hid (X1.out.errs (Errs.below hb2))
  have B2 := Lib.hid (B1.out.trans (hb2.mono B1.out.size))
  clear a10 a11 a12 a13 a14 b10 b11 b12 b13 b14 c10 c11 c12 c13 z10 z11
  clear hb2 X1 B1
  obtain ⟨⟨⟨a20, a21, a22, a23, a24⟩, _⟩, ⟨⟨b20, b21, b22, b23, b24⟩, _⟩, c20, c21, c22, c23, z20, z21⟩ := X2.out.cs
  have HSA := Lib.hid sa
  have HSB := Lib.hid sb
  have HWF := Lib.hid wf
  have HJJ := Lib.hid jj
  clear sa sb wf jj
  go_wp2_with fail
  refine (TP.plain_any _).mono ?_
  rintro e w3 ⟨rfl, hb3⟩
  have X3 := Lib.hid (X2.out.errs (Errs.below hb3))
  have hb3' := B2.out.trans (hb3.mono B2.out.size)
  clear a20 a21 a22 a23 a24 b20 b21 b22 b23 b24 c20 c21 c22 c23 z20 z21
  clear hb3 X2 B2
  go_wp2_with fail
  refine (st_new 16 8 (by omega) w hb3').mono ?_
  rintro e w4 ⟨g, rfl, h4, k4⟩
  have H4 := Lib.hid h4
  have X4 := Lib.hid (X3.out.errs k4)
  clear h4 k4 X3 hb3'
  go_wp2_with fail
  refine (st_program H4.out (by decide) 0 rfl S).mono ?_
  rintro e w5 ⟨v5, rfl, he5, h5, k5⟩
  rw [t1 HSA.out] at he5 h5
  obtain rfl := he5.none rfl
  have H5 := Lib.hid h5
  have X5 := Lib.hid (X4.out.errs k5)
  clear h5 he5 k5 X4
  obtain ⟨L, hL⟩ : ∃ L, L = w.heap.size := ⟨_, rfl⟩
  have HL := Lib.hid hL
  have hk5 : Blk w5 (w.heap.size + 1 + 1) 25 #[.int .i64 ma, .int .i64 mk, .int .i64 me, .string mj] := X5.out.2.2
  have c0 : w5.cell? ⟨w.heap.size + 1 + 1, 0, none⟩ = some (.int .i64 ma) := hk5.cell 0
  have z0 := hk5.frozen 0
  have hk6 := hk5.set_ 0 (.int .i64 1)
  have c1 : (w5.setCell ⟨w.heap.size + 1 + 1, 0, none⟩ (.int .i64 1)).cell? ⟨w.heap.size + 1 + 1, 1, none⟩ = some (.int .i64 mk) := hk6.cell 1
  have z1 := hk6.frozen 1
  have hk7 := hk6.set_ 1 (.int .i64 1)
  have h6 := H5.out.own rfl hk5 (by omega) 0 (.int .i64 1)
  have h7 := h6.own rfl hk6 (by omega) 1 (.int .i64 1)
  have d0 : ((w5.setCell ⟨w.heap.size + 1 + 1, 0, none⟩ (.int .i64 1)).setCell ⟨w.heap.size + 1 + 1, 1, none⟩ (.int .i64 1)).cell? ⟨w.heap.size + 1 + 1, 0, none⟩ = some (.int .i64 1) := hk7.cell 0
  have d1 : ((w5.setCell ⟨w.heap.size + 1 + 1, 0, none⟩ (.int .i64 1)).setCell ⟨w.heap.size + 1 + 1, 1, none⟩ (.int .i64 1)).cell? ⟨w.heap.size + 1 + 1, 1, none⟩ = some (.int .i64 1) := hk7.cell 1
  have d2 : ((w5.setCell ⟨w.heap.size + 1 + 1, 0, none⟩ (.int .i64 1)).setCell ⟨w.heap.size + 1 + 1, 1, none⟩ (.int .i64 1)).cell? ⟨w.heap.size + 1 + 1, 2, none⟩ = some (.int .i64 me) := hk7.cell 2
  have d3 : ((w5.setCell ⟨w.heap.size + 1 + 1, 0, none⟩ (.int .i64 1)).setCell ⟨w.heap.size + 1 + 1, 1, none⟩ (.int .i64 1)).cell? ⟨w.heap.size + 1 + 1, 3, none⟩ = some (.string mj) := hk7.cell 3
  have x7 : Bx ((w5.setCell ⟨w.heap.size + 1 + 1, 0, none⟩ (.int .i64 1)).setCell ⟨w.heap.size + 1 + 1, 1, none⟩ (.int .i64 1)) w.heap.size #[.int .i64 k, .int .i64 s, .int .i64 y, .int .i64 q, .string b] #[.int .i64 k', .int .i64 s', .int .i64 y', .int .i64 q', .string b'] #[.int .i64 1, .int .i64 1, .int .i64 me, .string mj] :=
    ⟨(X5.out.1.far (by simp; omega) _).far (by simp; omega) _, (X5.out.2.1.far (by simp) _).far (by simp) _, hk7⟩
  have H7 := Lib.hid h7
  have X7 := Lib.hid x7
  clear hk5 hk6 hk7 h6 h7 x7 hL
  go_wp2_with fail
  obtain ⟨w7, hw7⟩ : ∃ w7, w7 = (w5.setCell ⟨w.heap.size + 1 + 1, 0, none⟩ (.int .i64 1)).setCell ⟨w.heap.size + 1 + 1, 1, none⟩ (.int .i64 1) := ⟨_, rfl⟩
  have hs7 : w7.heap.size = w5.heap.size := by rw [hw7]; simp [World.setCell]
  rw [← hw7] at H7 X7 ⊢
  clear hw7 c0 z0 c1 z1 d0 d1 d2 d3
  refine (st_plan_new H7.out [tm ⟨ma, mk, me, mj⟩] _ rfl 1 1 rfl (by simp [maxLen]) (by
    intro m hm
    obtain rfl := List.mem_singleton.1 hm
    exact ⟨rfl, rfl, HWF.out, HJJ.out⟩) _ hs7).mono ?_
  rintro e w8 ⟨rfl, h8, k8⟩
  rw [show (T1 S).planned [tm ⟨ma, mk, me, mj⟩] = T2 S ⟨ma, mk, me, mj⟩ from by unfold T2; rfl] at h8
  have H8 := Lib.hid h8
  have X8 := Lib.hid (X7.out.errs k8)
  clear h8 k8 X7 X5
  go_wp2_with fail
  refine (st_program H8.out (by show 1 ≤ _; decide) 1 rfl U).mono ?_
  rintro e w9 ⟨v9, rfl, he9, h9, k9⟩
  rw [t2 ⟨ma, mk, me, mj⟩ HSB.out] at he9 h9
  have H9 := Lib.hid h9
  have E9 := Lib.hid he9
  have X9 := Lib.hid (X8.out.errs k9)
  clear h9 k9 he9 X8
  go_wp2_with fail
  refine (st_code H9.out HG.out E9.out).mono ?_
  rintro e w10 ⟨rfl, h10, k10⟩
  have H10 := Lib.hid h10
  have X10 := Lib.hid (X9.out.errs k10)
  clear h10 k10 X9
  go_wp2_with fail
  refine (st_up H10.out).mono ?_
  rintro e w11 ⟨rfl, h11, k11⟩
  have H11 := Lib.hid h11
  have X11 := Lib.hid (X10.out.errs k11)
  clear h11 k11 X10
  go_wp2_with fail
  refine (st_read H11.out 0 rfl).mono ?_
  rintro e w12 ⟨v12, rfl, he12, h12, k12⟩
  rw [t4a] at he12
  obtain rfl := he12.none rfl
  rw [t4a]
  have H12 := Lib.hid h12
  have X12 := Lib.hid (X11.out.errs k12)
  clear h12 k12 he12 X11
  go_wp2_with fail
  refine (HR0.out _).mono ?_
  rintro e w13 ⟨rfl, hb13⟩
  have hbn : Below w12.heap.size w12 (w13.alloc (.cells #[.int .i64 k, .int .i64 s, .int .i64 y, .int .i64 q, .string b] 23)) := hb13.alloc hb13.size _
  obtain ⟨W13, hW13⟩ : ∃ W13, W13 = w13.alloc (.cells #[.int .i64 k, .int .i64 s, .int .i64 y, .int .i64 q, .string b] 23) := ⟨_, rfl⟩
  rw [← hW13] at hbn
  have hq13 : Blk W13 w13.heap.size 23 #[.int .i64 k, .int .i64 s, .int .i64 y, .int .i64 q, .string b] := by rw [hW13]; exact Blk.new w13 _ _
  have H13 := Lib.hid (H12.out.below hbn)
  have X13 := Lib.hid (X12.out.errs (Errs.below hbn))
  have HW13 := Lib.hid hW13
  obtain ⟨⟨r0, r1, r2, r3, r4⟩, _⟩ := cells5 hq13
  obtain ⟨⟨⟨a130, a131, a132, a133, a134⟩, _⟩, ⟨⟨b130, b131, b132, b133, b134⟩, _⟩, c130, c131, c132, c133, z130, z131⟩ := X13.out.cs
  rw [hW13] at r0 r1 r2 r3 r4 a130 a131 a132 a133 a134
  clear b130 b131 b132 b133 b134 c130 c131 c132 c133 z130 z131 hb13 hbn hq13 X12 hW13
  go_wp2_with fail
  rw [← HW13.out]
  clear r0 r1 r2 r3 r4 a130 a131 a132 a133 a134
  refine (st_read H13.out 1 rfl).mono ?_
  rintro e w14 ⟨v14, rfl, he14, h14, k14⟩
  rw [t4b] at he14
  obtain rfl := he14.none rfl
  rw [t4b, HY.out]
  have H14 := Lib.hid h14
  have X14 := Lib.hid (X13.out.errs k14)
  clear h14 k14 he14 X13
  go_wp2_with fail
  refine (HR1.out _).mono ?_
  rintro e w15 ⟨rfl, hb15⟩
  have hbn : Below w14.heap.size w14 (w15.alloc (.cells #[.int .i64 q0, .int .i64 q1, .int .i64 q2, .int .i64 q3, .string q4] 23)) := hb15.alloc hb15.size _
  obtain ⟨W15, hW15⟩ : ∃ W15, W15 = w15.alloc (.cells #[.int .i64 q0, .int .i64 q1, .int .i64 q2, .int .i64 q3, .string q4] 23) := ⟨_, rfl⟩
  obtain ⟨L15, hL15⟩ : ∃ L15, L15 = w15.heap.size := ⟨_, rfl⟩
  rw [← hW15] at hbn
  have J15 : Hid (Blk W15 L15 23 #[.int .i64 q0, .int .i64 q1, .int .i64 q2, .int .i64 q3, .string q4]) := by show Blk _ _ _ _; rw [hW15, hL15]; exact Blk.new w15 _ _
  have H15 := Lib.hid (H14.out.below hbn)
  have X15 := Lib.hid (X14.out.errs (Errs.below hbn))
  have HW15 := Lib.hid hW15
  have HL15 := Lib.hid hL15
  clear hb15 hbn X14 hW15 hL15
  obtain ⟨⟨r0, r1, r2, r3, r4⟩, _⟩ := cells5 J15.out
  rw [HL15.out, HW15.out] at r0 r1 r2 r3 r4
  go_wp2_with fail
  rw [← HW15.out]
  clear r0 r1 r2 r3 r4
  refine (HWQ.out _).mono ?_
  rintro e w16 ⟨rfl, hb16⟩
  have J16 := Lib.hid (J15.out.below hb16 J15.out.lt)
  have B16 := Lib.hid (H15.out.bel.trans (hb16.mono H15.out.bel.size))
  clear hb16
  go_wp2_with fail
  refine (fine_any _).mono ?_
  rintro e w17 ⟨rfl, hb17⟩
  obtain ⟨⟨r0, r1, r2, r3, r4⟩, _⟩ := cells5 (J16.out.below hb17 J16.out.lt)
  rw [HL15.out] at r0 r1 r2 r3 r4
  have HB := Lib.hid (B16.out.trans (hb17.mono B16.out.size))
  clear hb17
  go_wp2
  go_ret
  exact ⟨rfl, HB.out⟩

theorem zero_may : ¬ May Pg.zero := by unfold May Pg.zero; decide
theorem zero_write : Hid (∀ w, Calls Tryd.prog 5 #[.agg #[.int .i64 0, .int .i64 0, .int .i64 0, .int .i64 0, .string ⟨#[]⟩]] w fun e w' => e = .returned (.tuple #[.string ⟨#[]⟩, .int .i64 1]) ∧ Below w.heap.size w w') := write_no Pg.zero zero_may

theorem walk (x0 : PG.Pg) (x1 : PG.Pg) (m2 : ND.Mis) (w : World) (w0 : OP.PgWf x0) (w1 : OP.PgWf x1) (j2 : m2.junk.size ≤ maxLen) (wa2 : (Lit.int .i64 m2.at_).wf = true) (wk2 : (Lit.int .i64 m2.kind).wf = true) (we2 : (Lit.int .i64 m2.keep).wf = true) (hg : ER.ErrorType w) :
    Calls Tryd.prog 3 #[.agg #[.int .i64 x0.kind, .int .i64 x0.space, .int .i64 x0.key, .int .i64 x0.seq, .string x0.body], .agg #[.int .i64 x1.kind, .int .i64 x1.space, .int .i64 x1.key, .int .i64 x1.seq, .string x1.body], .agg #[.int .i64 m2.at_, .int .i64 m2.kind, .int .i64 m2.keep, .string m2.junk]] w fun e w' => e = .returned (.bool true) ∧ Below w.heap.size w w' := by
  obtain ⟨k, s, y, q, b⟩ := x0
  obtain ⟨k', s', y', q', b'⟩ := x1
  obtain ⟨ma, mk, me, mj⟩ := m2
  by_cases ha : May ⟨k, s, y, q, b⟩
  · have HA := Lib.hid (write_yes _ ha)
    by_cases hb : May ⟨k', s', y', q', b'⟩
    · have HB := Lib.hid (write_yes _ hb)
      by_cases hj : (500 : Int) < (mj.size : Int)
      · exact torn_j _ _ _ _ _ _ _ _ _ _ ma mk me mj _ _ w hj HA HB
      · have hsa := bytes_size ha
        have hsb := bytes_size hb
        have HR0 := Lib.hid (read_any (ans_bytes ha) (by omega))
        obtain ⟨Y, hY⟩ : ∃ Y, Y = spoilt { tm ⟨ma, mk, me, mj⟩ with junk := cut mj } (FM.str (PG.bytes ⟨k', s', y', q', b'⟩)) := ⟨_, rfl⟩
        have hYs : Y.size ≤ 128 := by rw [hY]; exact spoilt_size _ _
        by_cases he : Y = FM.str (PG.bytes ⟨k', s', y', q', b'⟩)
        · have hr := read_any (ans_bytes hb) (by omega)
          rw [← he] at hr
          exact torn_same _ _ _ _ _ _ _ _ _ _ ma mk me mj _ _ Y w (Lib.hid hg) hj hsa hsb we2 j2 HA HB HR0 (Lib.hid hY.symm) (by rw [he]; simp) (Lib.hid hr)
        · have hne : (Y.toList == (FM.str (PG.bytes ⟨k', s', y', q', b'⟩)).toList) = false := by
            rw [beq_eq_false_iff_ne, ByteArray.toList_eq, ByteArray.toList_eq]
            intro hc
            apply he
            rw [← PG.str_data Y, hc, PG.str_data]
          obtain ⟨⟨q0, q1, q2, q3, q4⟩, n, hans⟩ := ans_some Y
          by_cases hn : n = 0
          · subst hn
            obtain ⟨hq, hqs⟩ := ans_page hans
            have hw := write_yes _ hq
            rw [hqs] at hw
            exact torn_page _ _ _ _ _ _ _ _ _ _ ma mk me mj _ _ Y q0 q1 q2 q3 q4 w (Lib.hid hg) hj hsa hsb we2 j2 HA HB HR0 (Lib.hid hY.symm) hne (Lib.hid (read_any hans (by omega))) (Lib.hid hw)
          · have hz := ans_zero hans hn
            have hr := read_any hans (by omega)
            rw [hz] at hr
            exact torn_none _ _ _ _ _ _ _ _ _ _ ma mk me mj _ _ Y n w (Lib.hid hg) hj hsa hsb we2 j2 HA HB HR0 (Lib.hid hY.symm) hne hn (Lib.hid hr) zero_write
    · exact torn_f _ _ _ _ _ _ _ _ _ _ ma mk me mj _ _ w HA (Lib.hid (write_no _ hb))
  · by_cases hb : May ⟨k', s', y', q', b'⟩
    · exact torn_e _ _ _ _ _ _ _ _ _ _ ma mk me mj _ _ _ w (Lib.hid (write_no _ ha)) (Lib.hid (write_yes _ hb))
    · exact torn_e _ _ _ _ _ _ _ _ _ _ ma mk me mj _ _ _ w (Lib.hid (write_no _ ha)) (Lib.hid (write_no _ hb))

set_option maxRecDepth 100000 in
theorem lifted (os : Os) (started : os.Started) (H : Type) (enc : TypeId × Value → H) :
    ReturnsInHanded {} Tryd.checked os 3 .any (fun w args => (Rows.topTornSpec.pre enc Tryd.prog Tryd.f3 [] false w args ∧ laidMetH Tryd.prog [("errors.errorType", Rows.laid_errors_errorType)] w) ∧ sizedMet enc Tryd.prog Tryd.f3 (OpenSpec.ofChange Rows.topTornSpec) false w args) (Rows.topTornSpec.post enc Tryd.prog Tryd.f3 false true false false) := by
  refine returnsInHanded_of_change_and (C := Tryd.checked) (X := (fun w _ => laidMetH Tryd.prog [("errors.errorType", Rows.laid_errors_errorType)] w)) (fun _ _ _ hh h => h.of_heap hh) own started (by kernel_rfl) Tryd.func3
    (ChangeSpec.witness_at (enc := enc) (C := Tryd.checked) (os := os) (X := (fun w _ => laidMetH Tryd.prog [("errors.errorType", Rows.laid_errors_errorType)] w)) false (laidWorld os) #[.agg #[.int .i64 0, .int .i64 0, .int .i64 0, .int .i64 0, .string ByteArray.empty], .agg #[.int .i64 0, .int .i64 0, .int .i64 0, .int .i64 0, .string ByteArray.empty], .agg #[.int .i64 0, .int .i64 0, .int .i64 0, .string ByteArray.empty]] 8 rfl (by kernel_rfl) (by kernel_rfl) (by kernel_rfl) (by kernel_rfl) (by kernel_rfl) (laidWorld_met os _)) ?_
  intro W base args ds gs before hval0 hW _ hsz0 hL _
  have hval : ∀ (j : Nat) t v, Tryd.f3.params[j]? = some t → args[j]? = some v → Value.okWide Tryd.prog W .any base t v := hval0
  have hW' := hW
  obtain ⟨p, q, hA0, hV, rfl, hfz, hnd⟩ := hW
  have hA : DataW.TrodAll enc Tryd.prog W 0 (fun _ => true) true Tryd.f3.params.toList args.toList ds p := hA0
  rw [Tryd.params3] at hA hval
  obtain ⟨v0, vs0, d0, ds0, p0, q0, hargs, rfl, rfl, h0, r0⟩ := trodAll_cons hA
  obtain ⟨v1, vs1, d1, ds1, p1, q1, rfl, rfl, rfl, h1, r1⟩ := trodAll_cons r0
  obtain ⟨v2, vs2, d2, ds2, p2, q2, rfl, rfl, rfl, h2, r2⟩ := trodAll_cons r1
  obtain ⟨rfl, rfl, rfl⟩ := trodAll_nil r2
  obtain rfl : args = #[v0, v1, v2] := by cases args; simp_all
  obtain ⟨rfl, rfl⟩ := trodVars_none hV
  have k0 := h0
  have lt0 : ∀ x ∈ p0, x.block < W.heap.size := by obtain ⟨m, hm⟩ := k0; exact DataW.trod_lt m _ _ _ hm
  obtain ⟨x0, rfl, w0⟩ := OP.open_page (hval 0 23 v0 rfl rfl) h0
  have k1 := h1
  have lt1 : ∀ x ∈ p1, x.block < W.heap.size := by obtain ⟨m, hm⟩ := k1; exact DataW.trod_lt m _ _ _ hm
  obtain ⟨x1, rfl, w1⟩ := OP.open_page (hval 1 23 v1 rfl rfl) h1
  have k2 := h2
  have lt2 : ∀ x ∈ p2, x.block < W.heap.size := by obtain ⟨m, hm⟩ := k2; exact DataW.trod_lt m _ _ _ hm
  obtain ⟨m2, rfl, j2, wa2, wk2, we2⟩ := OP.open_mishap (hval 2 25 v2 rfl rfl) h2
  have hg := handle_of_laid hL
  clear hA0 hval0 hsz0
  refine (walk x0 x1 m2 W w0 w1 j2 wa2 wk2 we2 hg).mono fun e W' ⟨he, bel⟩ => ?_
  subst he
  exact ⟨_, rfl, _, _, _, [], _, [], hW', trodAll_mk1 (shut_bool Tryd.underlying4 _), (trodAll_cons_mk (Below.trod laidOut (by kernel_rfl) (of_decide_eq_true (by kernel_rfl)) k0 bel lt0) (trodAll_cons_mk (Below.trod laidOut (by kernel_rfl) (of_decide_eq_true (by kernel_rfl)) k1 bel lt1) (trodAll_cons_mk (Below.trod laidOut (by kernel_rfl) (of_decide_eq_true (by kernel_rfl)) k2 bel lt2) trodAll_mk0))), rfl, bel.frame _, fun h => by cases h⟩

theorem over : Rows.TopTornSaid :=
  OpenClaim.holds_of_wide 3 Tryd.f3 rfl rfl rfl rfl rfl rfl rfl ⟨rfl, rfl, rfl, rfl, rfl⟩ rfl rfl rfl rfl rfl (by kernel_rfl) Tryd.func3 (by kernel_rfl)
    (of_decide_eq_true (by kernel_rfl)) (by unfold Func.isWrapper; first | (rw [if_pos (by decide +kernel)]; kernel_rfl) | (rw [if_neg (by decide +kernel)]; exact ⟨rfl, rfl⟩))
    (fun os started H enc _ => lifted os started H enc)

/-- The card: the row, its one listed variable tied to the program's text. -/
theorem proved : Rows.TopTornCardSaid :=
  Claim7.holds_tied_plain_at .later [] [.handle] true _ true
    over (fun _ h => by cases h) (by kernel_rfl) (fun _ h => by cases h) topTorn_row_tie rfl ⟨rfl, rfl⟩ (by kernel_rfl) rfl
    (fun f fn hf hfn => by
      obtain rfl : f = 3 := Option.some.inj ((show Tryd.prog.funcNamed "scoria/scoriatop.TopTorn" = some 3 by kernel_rfl).symm.trans hf) |>.symm
      obtain rfl : fn = Tryd.f3 := (Option.some.inj (Tryd.func3.symm.trans hfn)).symm
      exact ⟨by kernel_rfl, fun j t ht => by
        rw [Tryd.params3] at ht
        have hm : t ∈ [23, 23, 25] := by simpa using Array.mem_of_getElem? ht
        have hall : ([23, 23, 25].all fun u => !Tryd.prog.wantsStandIn u) = true := by kernel_rfl
        exact (show Tryd.prog.wantsStandIn t = false by simpa using List.all_eq_true.1 hall t hm)⟩)
    (by kernel_rfl)
#print axioms proved
end Go.Proofs.YtolcacmkageidacDoor.topTorn
