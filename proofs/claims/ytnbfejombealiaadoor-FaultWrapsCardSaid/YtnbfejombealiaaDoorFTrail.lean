/- What fault.Trail answers, whatever tree the error is, of at most 100,000 nodes from the top to the deepest one. -/
import Derived.Test.YtnbfejombealiaaDoorAsFault
import Derived.Test.YtnbfejombealiaaDoorFCode
import Derived.Test.YtnbfejombealiaaDoorMem
import Derived.WalkSpells
namespace Go.Proofs.YtnbfejombealiaaDoor
namespace ER
open Go.RowKit Go.Extern.Stop Go.Stop Go.Extern
open MM
set_option linter.unusedVariables false
set_option linter.unusedSimpArgs false

theorem trail_deferred (w : World) :
    CallsD Tryd.prog 25 #[] .returning w fun e u' w' => e = .returned (.tuple #[]) ∧ u' = .returning ∧ w' = w := by
  refine callsD_of_wpS Tryd.func25 rfl fun c₀ cs hu => ?_
  apply wpS_region
  simp [wpOpsS, go_sem, recoverD, hu, Tryd.ntmps25, Exit.thenS]
  cases c₀
  simp_all [bodyPostS, results, Tryd.results25]

def stepCells (l : List (ByteArray × Int)) : List Value := l.flatMap fun p => [.string p.1, .int .i64 p.2]
theorem stepCells_snoc (l : List (ByteArray × Int)) (op : ByteArray) (n : Int) : stepCells l ++ [.string op, .int .i64 n] = stepCells (l ++ [(op, n)]) := by
  simp [stepCells, List.flatMap_append]

theorem stepCells_get : ∀ (l : List (ByteArray × Int)) (j : Nat) (p : ByteArray × Int), l[j]? = some p → (stepCells l)[j * 2]? = some (.string p.1) ∧ (stepCells l)[j * 2 + 1]? = some (.int .i64 p.2) := by
  intro l
  induction l with
  | nil => intro j p h; simp at h
  | cons a l ih =>
    intro j p h
    have e : stepCells (a :: l) = .string a.1 :: .int .i64 a.2 :: stepCells l := by simp [stepCells]
    cases j with
    | zero => simp at h; subst h; rw [e]; exact ⟨rfl, rfl⟩
    | succ j =>
      rw [List.getElem?_cons_succ] at h
      have := ih j p h
      rw [e, show (j + 1) * 2 = j * 2 + 1 + 1 from by omega]
      simpa using this

theorem info_step : (Tryd.prog.info? 42).map (fun i => (i.zero, i.size, i.bytes)) = some (some (.agg #[.string ⟨#[]⟩, .int .i64 0]), 2, 24) := by kernel_rfl

set_option maxRecDepth 100000 in
set_option maxHeartbeats 4000000 in
theorem trail_any (E : Er) (v : Value) (w : World) (hE : IsErr w w.heap.size E v) (hg : ErrorType w) (hdep : E.dep ≤ 100000) :
    Calls Tryd.prog 16 #[v] w fun e w' => ∃ v', e = .returned v' ∧ w'.ownsRow w.heap.size 42 2 v' E.trail.length (stepCells E.trail) ∧ Below w.heap.size w w' := by
  obtain ⟨i0, hi, hz0, hz1, hz2⟩ := info_parts info_step
  have HDEP := Lib.hid hdep
  have HG := Lib.hid hg
  clear hdep hg
  go_enter_defers Tryd.func16, Tryd.ntmps16
  go_wp2
  go_loopg [0, 2] E.dep (fun g v' sv wr => ∃ (E' : Er) (done : List (ByteArray × Int)), g = E'.dep ∧ IsErr wr w.heap.size E' v' ∧ Hid (E.trail = done ++ E'.trail) ∧ done.length + E'.dep ≤ 100000 ∧
    (∃ p, wr.cell? ⟨w.heap.size, 0, none⟩ = some (.pointer p)) ∧ wr.frozen? ⟨w.heap.size, 0, none⟩ = false ∧ wr.ownsRow (w.heap.size + 1) 42 2 sv done.length (stepCells done) ∧ Below w.heap.size w wr ∧ w.heap.size < wr.heap.size)
  case atStart => exact ⟨E, [], rfl, hE.below ((Below.refl _ _).alloc (Nat.le_refl _) _), rfl, by simpa using HDEP.out, ⟨Option.none, by simp⟩, by simp, World.ownsRow_nil _ _ _ _, (Below.refl _ _).alloc (Nat.le_refl _) _, by simp⟩
  case round =>
    obtain ⟨E', done, rfl, hE', HT, hlen, ⟨p, hp⟩, hfp, hown, hbel, hsz⟩ := hrel
    obtain ⟨tx, vx, rfl⟩ := hE'.iface
    have HA := Lib.hid (As_fault E' (.iface tx vx) ⟨w.heap.size, 0, none⟩ (.pointer p) wr w.heap.size hE' (Nat.le_refl _) (HG.out.kept hbel) hp hfp)
    cases hc : E'.first with
    | none =>
      have hfin : E.trail = done := by rw [HT.out, trail_first, hc]; simp
      have HF := Lib.hid hfin
      have HC := Lib.hid hc
      clear hc hfin
      go_wp2_with fail
      refine HA.out.mono ?_
      rintro e w1 hend
      obtain ⟨rfl, hb1⟩ := hend.no_ HC.out
      clear hend
      go_wp2
      refine leaves_cons (f := 25) (args := #[]) (by simp) (by simp [go_sem]) ?_
      refine (trail_deferred _).mono ?_
      rintro e u' w'' ⟨rfl, rfl, rfl⟩
      refine ⟨_, results_tmp rfl _ _ _, u2, rfl, ?_, hbel.trans (hb1.mono (by omega))⟩
      rw [HF.out]
      exact own_base (own_kept hown hb1) (Nat.le_succ _)
    | some z =>
      obtain ⟨op, m, E1⟩ := z
      have htr : E'.trail = (op, m) :: E1.trail := by rw [trail_first, hc]
      have hdp := first_dep E' hc
      have HC := Lib.hid hc
      have HTR : Hid (E.trail = (done ++ [(op, m)]) ++ E1.trail) := by show _ = _; rw [HT.out, htr]; simp
      clear hc htr
      go_wp2_with fail
      refine HA.out.mono ?_
      rintro e w1 hend
      obtain ⟨b, x, hbB, hcells, hwm, hop, he, rfl, w2, hb2, rfl⟩ := hend.yes_ HC.out
      clear hend
      obtain ⟨tx1, vx1, rfl⟩ := he.iface
      obtain ⟨W1, hW1⟩ : ∃ W1, W1 = w2.setCell ⟨w.heap.size, 0, none⟩ (.pointer (some ⟨b, 0, none⟩)) := ⟨_, rfl⟩
      have hs2 := hb2.size
      have hbw : Below w.heap.size wr W1 := by rw [hW1]; exact Below.setCell (p := ⟨w.heap.size, 0, none⟩) (hb2.mono (B' := w.heap.size) (Nat.le_of_lt hsz)) (Nat.le_refl _) _
      have hbl : Below w.heap.size w W1 := hbel.trans hbw
      have hsW : wr.heap.size ≤ W1.heap.size := hbw.size
      have hf1 : W1.cell? ⟨w.heap.size, 0, none⟩ = some (.pointer (some ⟨b, 0, none⟩)) := by rw [hW1]; exact World.cell?_setCell_same _ _ _ (u := .pointer p) (by rw [hb2.cell (p := ⟨w.heap.size, 0, none⟩) hsz]; exact hp)
      have hfz1 : W1.frozen? ⟨w.heap.size, 0, none⟩ = false := by rw [hW1, World.frozen?_setCell, hb2.frozen (p := ⟨w.heap.size, 0, none⟩) hsz]; exact hfp
      have hcW : W1.heap[b]? = some (.cells #[.string op, .int .i64 m, .iface tx1 vx1] 60 (0, 0)) := by rw [hbw.block b hbB]; exact hcells
      have c0 : W1.cell? ⟨b, 0, none⟩ = some (.string op) := by rw [cell_of_row _ _ _ _ _ _ hcW]; rfl
      have c1 : W1.cell? ⟨b, 1, none⟩ = some (.int .i64 m) := by rw [cell_of_row _ _ _ _ _ _ hcW]; rfl
      have c2 : W1.cell? ⟨b, 2, none⟩ = some (.iface tx1 vx1) := by rw [cell_of_row _ _ _ _ _ _ hcW]; rfl
      have hown1 : W1.ownsRow (w.heap.size + 1) 42 2 u2 done.length (stepCells done) := by rw [hW1]; exact ownsRow_setCell_below (own_kept hown hb2) (Nat.lt_succ_self _) _
      have HE : Hid (IsErr W1 w.heap.size E1 (.iface tx1 vx1)) := he.below hbw
      rw [← hW1]
      have HO := Lib.hid hown1
      have HBL := Lib.hid hbl
      clear hW1 hb2 hbw hbl hcW he hcells hown1 hown hbel hp hfp
      go_wp2_with (at_builtin; refine wpList_append_own _ rfl _ _ 37 rfl (w.heap.size + 1) 42 i0 (.agg #[.string ⟨#[]⟩, .int .i64 0]) 2 24 Tryd.underlying37 hi hz0 hz1 hz2 rfl (by decide) _ _ _ rfl (HO.out.alloc _) ⟨W1.heap.size, 0, none⟩ 1 1 [.string op, .int .i64 m] rfl rfl ?c1 ?c2 ?c3 ?c4 ?c5 ?_)
      case c1 => exact new_cells _ _ _
      case c2 => intro u hu; simp at hu; rcases hu with rfl | rfl <;> rfl
      case c3 => unfold maxLen; omega
      case c4 => omega
      case c5 => simp; omega
      intro v' w3 hown' hgrow _
      have hb3 : Below (w.heap.size + 1) W1 w3 := ((Below.refl _ _).alloc (by omega) _).grown hgrow (by simp; omega) (fun j hj => (HO.out.lt j hj).1)
      have hf3 : w3.cell? ⟨w.heap.size, 0, none⟩ = some (.pointer (some ⟨b, 0, none⟩)) := by rw [hb3.cell (p := ⟨w.heap.size, 0, none⟩) (Nat.lt_succ_self _)]; exact hf1
      have hfz3 : w3.frozen? ⟨w.heap.size, 0, none⟩ = false := by rw [hb3.frozen (p := ⟨w.heap.size, 0, none⟩) (Nat.lt_succ_self _)]; exact hfz1
      have c3 : w3.cell? ⟨b, 2, none⟩ = some (.iface tx1 vx1) := by rw [hb3.cell (p := ⟨b, 2, none⟩) (by show b < _; omega)]; exact c2
      have hs3 := hb3.size
      have HFIN : Hid (IsErr w3 w.heap.size E1 (.iface tx1 vx1) ∧ w3.ownsRow (w.heap.size + 1) 42 2 v' (done ++ [(op, m)]).length (stepCells (done ++ [(op, m)])) ∧ Below w.heap.size w w3) :=
        ⟨HE.out.below (hb3.mono (Nat.le_succ _)), by rw [← stepCells_snoc]; simpa using hown', HBL.out.trans (hb3.mono (Nat.le_succ _))⟩
      clear hb3 hgrow hown' hf1 hfz1 c0 c1 c2
      go_wp2
      go_roundg E1.dep
      case measure => exact hdp
      case rel => exact ⟨E1, done ++ [(op, m)], rfl, HFIN.out.1, HTR.out, by simp; omega, ⟨_, hf3⟩, hfz3, HFIN.out.2.1, HFIN.out.2.2, by omega⟩
theorem trail_nil (w : World) : Calls Tryd.prog 16 #[.nilIface] w fun e w' => e = .returned (.slice none 0 0) ∧ Below w.heap.size w w' := by
  go_enter_defers Tryd.func16, Tryd.ntmps16
  go_wp2
  refine wp_loop_rounds 1 ?_
  rw [rounds_succ]
  go_wp2_with fail
  refine (As_nil _ _).mono ?_
  rintro e w1 ⟨rfl, rfl⟩
  go_wp2
  refine leaves_cons (f := 25) (args := #[]) (by simp) (by simp [go_sem]) ?_
  refine (trail_deferred _).mono ?_
  rintro e u' w'' ⟨rfl, rfl, rfl⟩
  exact ⟨_, results_tmp rfl _ _ _, rfl, (Below.refl _ _).alloc (Nat.le_refl _) _⟩
end ER
end Go.Proofs.YtnbfejombealiaaDoor
