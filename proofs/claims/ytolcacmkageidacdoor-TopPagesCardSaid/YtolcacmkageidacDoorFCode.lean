/- What fault.Wrap and fault.Code answer, whatever tree the error is. -/
import Derived.Test.YtolcacmkageidacDoorAsNum
import Derived.Defers
import Derived.Recover
namespace Go.Proofs.YtolcacmkageidacDoor
namespace ER
open Go.RowKit Go.Extern.Stop Go.Stop Go.Extern
set_option linter.unusedVariables false
set_option linter.unusedSimpArgs false

/-- What errors.errorType holds. -/
def ErrorType (w : World) : Prop := w.cell? ⟨0, 0, none⟩ = some (.iface 124 (.agg #[.pointer (some ⟨1, 32, none⟩)]))
theorem ErrorType.lt {w : World} (h : ErrorType w) : 0 < w.heap.size := World.block_lt_of_cell? w _ h
theorem ErrorType.below {w w' : World} (h : ErrorType w) {B : Nat} (hb : Below B w w') (hB : 0 < B) : ErrorType w' := (hb.cell (p := ⟨0, 0, none⟩) hB).trans h
theorem ErrorType.kept {w w' : World} (h : ErrorType w) (hb : Below w.heap.size w w') : ErrorType w' := h.below hb h.lt

/-- The deferred call of fault.Code where nothing panicked. -/
theorem code_deferred (p : Addr) (w : World) :
    CallsD Tryd.prog 26 #[.pointer (some p)] .returning w fun e u' w' => e = .returned (.tuple #[]) ∧ u' = .returning ∧ w' = w := by
  refine callsD_of_wpS Tryd.func26 rfl fun c₀ cs hu => ?_
  apply wpS_seq
  apply wpS_region
  simp [wpOpsS, go_sem, recoverD, hu, Tryd.ntmps26, Exit.thenS]
  refine wpS_cond (t := false) (by simp [Act.eval, Array.replicate]) ?_
  simp only [Bool.false_eq_true, if_false]
  refine wpS_of_wp (wp_skip ?_)
  cases c₀
  simp_all [bodyPostS, results, Tryd.results26]

theorem code_nil (w : World) : Calls Tryd.prog 11 #[.nilIface] w fun e w' => e = .returned (.int .i64 0) ∧ Below w.heap.size w w' := by
  go_enter_defers Tryd.func11, Tryd.ntmps11
  go_wp2
  simp [bodyPostD, Leaves, settle, results, Tryd.results11, go_sem]
  exact (Below.refl _ _).alloc (Nat.le_refl _) _

set_option maxRecDepth 100000 in
theorem code_any (E : Er) (v : Value) (w : World) (hE : IsErr w w.heap.size E v) (hg : ErrorType w) :
    Calls Tryd.prog 11 #[v] w fun e w' => e = .returned (.int .i64 (E.code.getD 8)) ∧ Below w.heap.size w w' := by
  obtain ⟨tx, vx, rfl⟩ := hE.iface
  have hmf : ∀ (fn : Fn) (first cap : Array Value) (w : World), (Instr.makeFunc fn first cap).run Tryd.prog w = .ok (.func fn first cap) w := fun _ _ _ _ => rfl
  have hb0 : Below w.heap.size w (w.alloc (.cells #[.int .i64 0] 26)) := (Below.refl _ _).alloc (Nat.le_refl _) _
  have HA := Lib.hid (As_num E (.iface tx vx) ⟨w.heap.size, 0, none⟩ (.int .i64 0) (w.alloc (.cells #[.int .i64 0] 26)) w.heap.size (hE.below hb0) (Nat.le_refl _) (hg.kept hb0) (by simp) (by simp))
  have HB0 := Lib.hid hb0
  clear hE hg hb0
  cases hc : E.code with
  | none =>
    rw [hc] at HA
    clear hc
    go_enter_defers Tryd.func11, Tryd.ntmps11
    go_wp2_with fail
    refine HA.out.mono ?_
    rintro e w1 hend
    obtain ⟨rfl, hb1⟩ := hend.1 rfl
    clear hend
    have hcell : w1.cell? ⟨w.heap.size, 0, none⟩ = some (.int .i64 0) := by rw [hb1.cell (by simp)]; simp
    have hfz : w1.frozen? ⟨w.heap.size, 0, none⟩ = false := by rw [hb1.frozen (by simp)]; simp
    have hb : Below w.heap.size w w1 := HB0.out.trans (hb1.mono (by simp))
    have HB := Lib.hid hb
    clear hb1 hb
    go_wp2
    refine leaves_cons (f := 26) (args := #[.pointer (some ⟨w.heap.size, 0, none⟩)]) (by simp) (by simp [go_sem]) ?_
    refine (code_deferred ⟨w.heap.size, 0, none⟩ _).mono ?_
    rintro e u' w'' ⟨rfl, rfl, rfl⟩
    have hc2 := World.cell?_setCell_same w1 ⟨w.heap.size, 0, none⟩ (.int .i64 8) hcell
    simp [Leaves, settle, results, Tryd.results11, go_sem, hc2]
    exact HB.out.setCell (Nat.le_refl _) _
  | some c => 
    rw [hc] at HA
    clear hc
    go_enter_defers Tryd.func11, Tryd.ntmps11
    go_wp2_with fail
    refine HA.out.mono ?_
    rintro e w1 hend
    obtain ⟨rfl, w2, hb2, rfl⟩ := hend.2 _ rfl
    clear hend
    have hsz := hb2.size
    have hcell : (w2.setCell ⟨w.heap.size, 0, none⟩ (.int .i64 c)).cell? ⟨w.heap.size, 0, none⟩ = some (.int .i64 c) := World.cell?_setCell_same _ _ _ (u := .int .i64 0) (by rw [hb2.cell (by simp)]; simp)
    have hfz : (w2.setCell ⟨w.heap.size, 0, none⟩ (.int .i64 c)).frozen? ⟨w.heap.size, 0, none⟩ = false := by rw [World.frozen?_setCell, hb2.frozen (by simp)]; simp
    have hb : Below w.heap.size w (w2.setCell ⟨w.heap.size, 0, none⟩ (.int .i64 c)) := (HB0.out.trans (hb2.mono (by simp))).setCell (Nat.le_refl _) _
    have HB := Lib.hid hb
    clear hb2 hb
    go_wp2
    refine leaves_cons (f := 26) (args := #[.pointer (some ⟨w.heap.size, 0, none⟩)]) (by simp) (by simp [go_sem]) ?_
    refine (code_deferred ⟨w.heap.size, 0, none⟩ _).mono ?_
    rintro e u' w'' ⟨rfl, rfl, rfl⟩
    have hc2 := World.cell?_setCell_same _ ⟨w.heap.size, 0, none⟩ (.int .i64 c) hcell
    simp [Leaves, settle, results, Tryd.results11, go_sem, hc2]
    exact HB.out.setCell (Nat.le_refl _) _

theorem wrap_nil (op : ByteArray) (n : Int) (w : World) : Calls Tryd.prog 22 #[.string op, .int .i64 n, .nilIface] w fun e w' => e = .returned .nilIface ∧ w = w' := by
  go_enter Tryd.func22, Tryd.ntmps22
  go_wp2
  go_ret
  exact ⟨rfl, rfl⟩
theorem wrap_run (op : ByteArray) (n : Int) (t : TypeId) (x : Value) (w : World) : Calls Tryd.prog 22 #[.string op, .int .i64 n, .iface t x] w fun e w' => e = .returned (.iface 87 (.pointer (some ⟨w.heap.size, 0, none⟩))) ∧ w.alloc (.cells #[.string op, .int .i64 n, .iface t x] 91) = w' := by
  go_enter Tryd.func22, Tryd.ntmps22
  go_wp2
  go_ret
  exact ⟨rfl, rfl⟩
theorem wrapped {w : World} {op : ByteArray} {n : Int} {E : Er} {v : Value} (hE : IsErr w w.heap.size E v) (hn : (Lit.int .i64 n).wf = true) (ho : op.size ≤ maxLen) :
    IsErr (w.alloc (.cells #[.string op, .int .i64 n, v] 91)) (w.heap.size + 1) (.fault op n E) (.iface 87 (.pointer (some ⟨w.heap.size, 0, none⟩))) :=
  ⟨w.heap.size, v, rfl, Nat.lt_succ_self _, heap_alloc_new w _, hn, ho, (hE.below ((Below.refl _ _).alloc (Nat.le_refl _) _)).more (Nat.le_succ _)⟩
/-- fault.Wrap of an error. -/
theorem wrap_any (op : ByteArray) (n : Int) (E : Er) (v : Value) (w : World) (hE : IsErr w w.heap.size E v) (hn : (Lit.int .i64 n).wf = true) (ho : op.size ≤ maxLen) :
    Calls Tryd.prog 22 #[.string op, .int .i64 n, v] w fun e w' => e = .returned (.iface 87 (.pointer (some ⟨w.heap.size, 0, none⟩))) ∧ w.alloc (.cells #[.string op, .int .i64 n, v] 91) = w' := by
  obtain ⟨t, x, rfl⟩ := hE.iface
  exact wrap_run op n t x w
end ER
end Go.Proofs.YtolcacmkageidacDoor
