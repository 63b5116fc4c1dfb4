/- What fault.Has answers, whatever tree the error is. -/
import Derived.Test.YtnbfejombealiaaDoorIsNum
import Derived.Defers
import Derived.Recover
namespace Go.Proofs.YtnbfejombealiaaDoor
namespace ER
open Go.RowKit Go.Extern.Stop Go.Stop Go.Extern
set_option linter.unusedVariables false
set_option linter.unusedSimpArgs false

theorem has_deferred (w : World) :
    CallsD Tryd.prog 23 #[] .returning w fun e u' w' => e = .returned (.tuple #[]) ∧ u' = .returning ∧ w' = w := by
  refine callsD_of_wpS Tryd.func23 rfl fun c₀ cs hu => ?_
  apply wpS_region
  simp [wpOpsS, go_sem, recoverD, hu, Tryd.ntmps23, Exit.thenS]
  cases c₀
  simp_all [bodyPostS, results, Tryd.results23]

theorem has_nil (x : Int) (w : World) : Calls Tryd.prog 14 #[.nilIface, .int .i64 x] w fun e w' => e = .returned (.bool (x == 0)) ∧ w = w' := by
  go_enter_defers Tryd.func14, Tryd.ntmps14
  go_wp2
  simp [bodyPostD, Leaves, settle, results, Tryd.results14, go_sem]

set_option maxRecDepth 100000 in
theorem has_any (E : Er) (v : Value) (x : Int) (w : World) (hE : IsErr w w.heap.size E v) :
    Calls Tryd.prog 14 #[v, .int .i64 x] w fun e w' => e = .returned (.bool (E.has x)) ∧ w = w' := by
  obtain ⟨tx, vx, rfl⟩ := hE.iface
  have HA := Lib.hid (Is_num E (.iface tx vx) x w w.heap.size hE)
  clear hE
  obtain ⟨b, hb⟩ : ∃ b, b = E.has x := ⟨_, rfl⟩
  rw [← hb] at HA ⊢
  clear hb
  go_enter_defers Tryd.func14, Tryd.ntmps14
  go_wp2_with fail
  refine HA.out.mono ?_
  rintro e w1 ⟨rfl, rfl⟩
  go_wp2
  refine leaves_cons (f := 23) (args := #[]) (by simp) (by simp [go_sem]) ?_
  refine (has_deferred _).mono ?_
  rintro e u' w'' ⟨rfl, rfl, rfl⟩
  simp [Leaves, settle, results, Tryd.results14, go_sem]
end ER
end Go.Proofs.YtnbfejombealiaaDoor
