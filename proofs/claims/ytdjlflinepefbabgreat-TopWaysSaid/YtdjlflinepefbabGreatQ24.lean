/- What package ext's stretch, Joined, follows answer. No condition but those that each theorem names. -/
import Derived.Test.YtdjlflinepefbabGreatQ05
import Derived.Test.YtdjlflinepefbabGreatQ10
import Derived.Outline

namespace Go.Proofs.YtdjlflinepefbabGreat
open Go.RowKit
namespace EX
open MM
set_option linter.unusedVariables false
set_option linter.unusedSimpArgs false

section
variable {w : World} {g : Nat} {t : TypeId}
theorem stored4 {a0 a1 a2 a3 : Value} (h : Blk w g t #[a0, a1, a2, a3]) (x0 x1 x2 x3 : Value) :
    Blk ((((w.setCell ⟨g, 0, none⟩ x0).setCell ⟨g, 1, none⟩ x1).setCell ⟨g, 2, none⟩ x2).setCell ⟨g, 3, none⟩ x3) g t #[x0, x1, x2, x3] :=
  (((h.set_ 0 x0).set_ 1 x1).set_ 2 x2).set_ 3 x3
theorem stored4_below {B : Nat} {w0 : World} (hb : Below B w0 w) (hg : B ≤ g) (x0 x1 x2 x3 : Value) :
    Below B w0 ((((w.setCell ⟨g, 0, none⟩ x0).setCell ⟨g, 1, none⟩ x1).setCell ⟨g, 2, none⟩ x2).setCell ⟨g, 3, none⟩ x3) :=
  (((hb.setCell hg _).setCell hg _).setCell hg _).setCell hg _
/-- The cells and marks of a block of four. -/
theorem cells4 {a0 a1 a2 a3 : Value} (h : Blk w g t #[a0, a1, a2, a3]) :
    (w.cell? ⟨g, 0, none⟩ = some a0 ∧ w.cell? ⟨g, 1, none⟩ = some a1 ∧ w.cell? ⟨g, 2, none⟩ = some a2 ∧ w.cell? ⟨g, 3, none⟩ = some a3) ∧
    w.frozen? ⟨g, 0, none⟩ = false ∧ w.frozen? ⟨g, 1, none⟩ = false ∧ w.frozen? ⟨g, 2, none⟩ = false ∧ w.frozen? ⟨g, 3, none⟩ = false :=
  ⟨⟨h.cell 0, h.cell 1, h.cell 2, h.cell 3⟩, h.frozen 0, h.frozen 1, h.frozen 2, h.frozen 3⟩
end
/-- An extent's four values. -/
abbrev c4 (f n k t : Int) : Array Value := #[.int .i64 f, .int .i64 n, .int .i64 k, .int .i64 t]
theorem box_two (w : World) (a b : Array Value) (T U : TypeId) (w0 : World) (h : w0 = (w.alloc (.cells a T)).alloc (.cells b U)) : Blk w0 w.heap.size T a ∧ Blk w0 (w.heap.size + 1) U b ∧ Below w.heap.size w w0 := by
  refine ⟨by rw [h]; exact (Blk.new w _ _).alloc _, ?_, by rw [h]; exact (below_box w _).alloc (by simp) _⟩
  have := Blk.new (w.alloc (.cells a T)) U b
  rw [show (w.alloc (.cells a T)).heap.size = w.heap.size + 1 from by simp] at this
  rw [h]; exact this

set_option maxHeartbeats 2000000 in
theorem stretch_any (f n k t a m : Int) (h0 : 0 ≤ f) (h1 : f ≤ 16777216) (h2 : 0 ≤ a) (h3 : a ≤ 16777216) (h4 : 0 ≤ t) (h5 : t ≤ 2048) (w : World) : Calls Tryz.prog 101 #[.agg #[.int .i64 f, .int .i64 n, .int .i64 k, .int .i64 t], .int .i64 a, .int .i64 m] w fun e w' => e = .returned (.agg #[.int .i64 a, .int .i64 m, .int .i64 k, .int .i64 (page ⟨f, n, k, t⟩ a)]) ∧ Below w.heap.size w w' := by
  have HP := Lib.hid (page_any f n k t a h0 h1 h2 h3 h4 h5)
  obtain ⟨q, hq⟩ : ∃ q, q = page ⟨f, n, k, t⟩ a := ⟨_, rfl⟩
  rw [← hq] at HP ⊢
  obtain ⟨W, hW⟩ : ∃ W, W = (w.alloc (.cells #[.int .i64 f, .int .i64 n, .int .i64 k, .int .i64 t] 41)).alloc (.cells #[.int .i64 0, .int .i64 0, .int .i64 0, .int .i64 0] 41) := ⟨_, rfl⟩
  obtain ⟨k1, k2, hb⟩ := box_two w _ _ _ _ W hW
  have PX : Hid (Blk W.drew w.heap.size 41 #[.int .i64 f, .int .i64 n, .int .i64 k, .int .i64 t]) := Lib.hid k1
  have PZ : Hid (Blk W.drew (w.heap.size + 1) 41 #[.int .i64 0, .int .i64 0, .int .i64 0, .int .i64 0]) := Lib.hid k2
  have PB : Hid (Below w.heap.size w W.drew) := Lib.hid hb.drew
  obtain ⟨⟨a0, a1, a2, a3⟩, _⟩ := cells4 k1
  obtain ⟨⟨z0, z1, z2, z3⟩, y0, y1, y2, y3⟩ := cells4 k2
  have HW := Lib.hid hW
  clear hW k1 k2 hb hq h0 h1 h2 h3 h4 h5
  go_enter Tryz.func101, Tryz.ntmps101
  go_wp2
  rw [← HW.out]
  go_region_with ((go_at_call 76; refine (HP.out _).mono ?_; rintro e w7 ⟨rfl, hb7⟩; obtain ⟨⟨b0, b1, b2, b3⟩, _⟩ := cells4 (PX.out.below hb7 PX.out.lt); have pz7 := PZ.out.below hb7 PZ.out.lt; obtain ⟨⟨y0, y1, y2, y3⟩, f0, f1, f2, f3⟩ := cells4 pz7; have HZ7 := Lib.hid pz7; have HB7 := Lib.hid (PB.out.trans (hb7.mono PB.out.size))))
  all_goals go_wp2
  all_goals exact ret_cell rfl _ _ _ _ _ _ _ rfl rfl (stored4 HZ7.out _ _ _ _) Tryz.underlying41 rfl (by kernel_rfl) ⟨rfl, stored4_below HB7.out (Nat.le_succ _) _ _ _ _⟩
/-- What Joined has boxed: two extents, and the place of what it hands back. -/
structure Jn (H : Nat) (f n k t g m l u : Int) (w w' : World) : Prop where
  a : Blk w' H 41 (c4 f n k t)
  b : Blk w' (H + 1) 41 (c4 g m l u)
  z : Blk w' (H + 1 + 1) 41 (c4 0 0 0 0)
  bel : Below H w w'
theorem Jn.below {H : Nat} {f n k t g m l u : Int} {w w1 w2 : World} (h : Jn H f n k t g m l u w w1) (hb : Below w1.heap.size w1 w2) : Jn H f n k t g m l u w w2 :=
  ⟨h.a.below hb h.a.lt, h.b.below hb h.b.lt, h.z.below hb h.z.lt, h.bel.trans (hb.mono (Nat.le_of_lt h.a.lt))⟩
theorem box_three (w : World) (a b c : Array Value) (T U V : TypeId) (w0 : World) (h : w0 = ((w.alloc (.cells a T)).alloc (.cells b U)).alloc (.cells c V)) : Blk w0 w.heap.size T a ∧ Blk w0 (w.heap.size + 1) U b ∧ Blk w0 (w.heap.size + 1 + 1) V c ∧ Below w.heap.size w w0 := by
  obtain ⟨h1, h2, h3⟩ := box_two w a b T U _ rfl
  refine ⟨by rw [h]; exact h1.alloc _, by rw [h]; exact h2.alloc _, ?_, by rw [h]; exact h3.alloc (by simp; omega) _⟩
  have := Blk.new ((w.alloc (.cells a T)).alloc (.cells b U)) V c
  rw [show ((w.alloc (.cells a T)).alloc (.cells b U)).heap.size = w.heap.size + 1 + 1 from by simp] at this
  rw [h]; exact this

theorem Jn.cells {H : Nat} {f n k t g m l u : Int} {w : World} (x : Wd (Jn H f n k t g m l u w)) :
    ((x.w.cell? ⟨H, 0, none⟩ = some (.int .i64 f) ∧ x.w.cell? ⟨H, 1, none⟩ = some (.int .i64 n) ∧ x.w.cell? ⟨H, 2, none⟩ = some (.int .i64 k) ∧ x.w.cell? ⟨H, 3, none⟩ = some (.int .i64 t)) ∧
    (x.w.cell? ⟨H + 1, 0, none⟩ = some (.int .i64 g) ∧ x.w.cell? ⟨H + 1, 1, none⟩ = some (.int .i64 m) ∧ x.w.cell? ⟨H + 1, 2, none⟩ = some (.int .i64 l) ∧ x.w.cell? ⟨H + 1, 3, none⟩ = some (.int .i64 u))) :=
  ⟨(cells4 x.ok.a).1, (cells4 x.ok.b).1⟩

set_option maxHeartbeats 4000000 in
theorem joined_a (f n k t g m l u : Int) (HA : (Hid (∀ w, Calls Tryz.prog 49 #[.agg #[.int .i64 f, .int .i64 n, .int .i64 k, .int .i64 t]] w fun e w' => e = .returned (.bool false) ∧ Below w.heap.size w w'))) (w : World) :
    Calls Tryz.prog 102 #[.agg #[.int .i64 f, .int .i64 n, .int .i64 k, .int .i64 t], .agg #[.int .i64 g, .int .i64 m, .int .i64 l, .int .i64 u]] w fun e w' => e = .returned (.tuple #[.agg #[.int .i64 0, .int .i64 0, .int .i64 0, .int .i64 0], .bool false]) ∧ Below w.heap.size w w' := by
  obtain ⟨W, hW⟩ : ∃ W, W = ((w.alloc (.cells #[.int .i64 f, .int .i64 n, .int .i64 k, .int .i64 t] 41)).alloc (.cells #[.int .i64 g, .int .i64 m, .int .i64 l, .int .i64 u] 41)).alloc (.cells #[.int .i64 0, .int .i64 0, .int .i64 0, .int .i64 0] 41) := ⟨_, rfl⟩
  obtain ⟨k1, k2, k3, hb⟩ := box_three w _ _ _ _ _ _ W hW
  have hI : Jn w.heap.size f n k t g m l u w W.drew := ⟨k1, k2, k3, hb.drew⟩
  have hc := fun x => Jn.cells (H := w.heap.size) (f := f) (n := n) (k := k) (t := t) (g := g) (m := m) (l := l) (u := u) (w := w) x
  have c0 := fun x => (hc x).1.1
  have c1 := fun x => (hc x).1.2.1
  have c2 := fun x => (hc x).1.2.2.1
  have c3 := fun x => (hc x).1.2.2.2
  have d0 := fun x => (hc x).2.1
  have d1 := fun x => (hc x).2.2.1
  have d2 := fun x => (hc x).2.2.2.1
  have d3 := fun x => (hc x).2.2.2.2
  have HI := Lib.hid hI
  have hNE : Nonempty (Wd (Jn w.heap.size f n k t g m l u w)) := ⟨⟨_, hI⟩⟩
  have HW := Lib.hid hW
  clear hW k1 k2 k3 hb hc hI
  go_enter Tryz.func102, Tryz.ntmps102
  go_wp2
  rw [← HW.out]
  refine wp_region_inv (Jn w.heap.size f n k t g m l u w) (by kernel_rfl) (by kernel_rfl) HI.out ?_
  repeat (go_big_quiet_step (first
    | (go_at_call 49; with_reducible refine inv_call _ (fun _ _ => Jn.below) (HA.out _))))
  refine wpQuiet_nil ?_
  intro _ hw'
  obtain ⟨⟨w9, h9⟩, hw''⟩ := hw'
  subst hw''
  obtain ⟨⟨z0, z1, z2, z3⟩, y0, y1, y2, y3⟩ := cells4 h9.z
  have H9 := Lib.hid h9
  clear h9 c0 c1 c2 c3 d0 d1 d2 d3 HI HW
  go_wp2
  exact ret_cell_tmp rfl _ _ _ _ _ _ _ _ rfl rfl rfl (stored4 H9.out.z _ _ _ _) Tryz.underlying41 rfl (by kernel_rfl) ⟨rfl, stored4_below H9.out.bel (by omega) _ _ _ _⟩
set_option maxHeartbeats 4000000 in
theorem joined_b (f n k t g m l u : Int) (HA : (Hid (∀ w, Calls Tryz.prog 49 #[.agg #[.int .i64 f, .int .i64 n, .int .i64 k, .int .i64 t]] w fun e w' => e = .returned (.bool true) ∧ Below w.heap.size w w'))) (HB : (Hid (∀ w, Calls Tryz.prog 49 #[.agg #[.int .i64 g, .int .i64 m, .int .i64 l, .int .i64 u]] w fun e w' => e = .returned (.bool false) ∧ Below w.heap.size w w'))) (w : World) :
    Calls Tryz.prog 102 #[.agg #[.int .i64 f, .int .i64 n, .int .i64 k, .int .i64 t], .agg #[.int .i64 g, .int .i64 m, .int .i64 l, .int .i64 u]] w fun e w' => e = .returned (.tuple #[.agg #[.int .i64 0, .int .i64 0, .int .i64 0, .int .i64 0], .bool false]) ∧ Below w.heap.size w w' := by
  obtain ⟨W, hW⟩ : ∃ W, W = ((w.alloc (.cells #[.int .i64 f, .int .i64 n, .int .i64 k, .int .i64 t] 41)).alloc (.cells #[.int .i64 g, .int .i64 m, .int .i64 l, .int .i64 u] 41)).alloc (.cells #[.int .i64 0, .int .i64 0, .int .i64 0, .int .i64 0] 41) := ⟨_, rfl⟩
  obtain ⟨k1, k2, k3, hb⟩ := box_three w _ _ _ _ _ _ W hW
  have hI : Jn w.heap.size f n k t g m l u w W.drew := ⟨k1, k2, k3, hb.drew⟩
  have hc := fun x => Jn.cells (H := w.heap.size) (f := f) (n := n) (k := k) (t := t) (g := g) (m := m) (l := l) (u := u) (w := w) x
  have c0 := fun x => (hc x).1.1
  have c1 := fun x => (hc x).1.2.1
  have c2 := fun x => (hc x).1.2.2.1
  have c3 := fun x => (hc x).1.2.2.2
  have d0 := fun x => (hc x).2.1
  have d1 := fun x => (hc x).2.2.1
  have d2 := fun x => (hc x).2.2.2.1
  have d3 := fun x => (hc x).2.2.2.2
  have HI := Lib.hid hI
  have hNE : Nonempty (Wd (Jn w.heap.size f n k t g m l u w)) := ⟨⟨_, hI⟩⟩
  have HW := Lib.hid hW
  clear hW k1 k2 k3 hb hc hI
  go_enter Tryz.func102, Tryz.ntmps102
  go_wp2
  rw [← HW.out]
  refine wp_region_inv (Jn w.heap.size f n k t g m l u w) (by kernel_rfl) (by kernel_rfl) HI.out ?_
  repeat (go_big_quiet_step (first
    | (go_at_call 49; with_reducible refine inv_call _ (fun _ _ => Jn.below) (HA.out _))
    | (go_at_call 49; with_reducible refine inv_call _ (fun _ _ => Jn.below) (HB.out _))))
  refine wpQuiet_nil ?_
  intro _ hw'
  obtain ⟨⟨w9, h9⟩, hw''⟩ := hw'
  subst hw''
  obtain ⟨⟨z0, z1, z2, z3⟩, y0, y1, y2, y3⟩ := cells4 h9.z
  have H9 := Lib.hid h9
  clear h9 c0 c1 c2 c3 d0 d1 d2 d3 HI HW
  go_wp2
  exact ret_cell_tmp rfl _ _ _ _ _ _ _ _ rfl rfl rfl (stored4 H9.out.z _ _ _ _) Tryz.underlying41 rfl (by kernel_rfl) ⟨rfl, stored4_below H9.out.bel (by omega) _ _ _ _⟩
set_option maxHeartbeats 4000000 in
theorem joined_f1 (f n k t g m l u : Int) (E p : Int) (HA : (Hid (∀ w, Calls Tryz.prog 49 #[.agg #[.int .i64 f, .int .i64 n, .int .i64 k, .int .i64 t]] w fun e w' => e = .returned (.bool true) ∧ Below w.heap.size w w'))) (HB : (Hid (∀ w, Calls Tryz.prog 49 #[.agg #[.int .i64 g, .int .i64 m, .int .i64 l, .int .i64 u]] w fun e w' => e = .returned (.bool true) ∧ Below w.heap.size w w'))) (HE : Hid (∀ w, Calls Tryz.prog 72 #[.agg #[.int .i64 f, .int .i64 n, .int .i64 k, .int .i64 t]] w fun e w' => e = .returned (.int .i64 E) ∧ Below w.heap.size w w')) (HS : Hid (∀ w, Calls Tryz.prog 101 #[.agg #[.int .i64 f, .int .i64 n, .int .i64 k, .int .i64 t], .int .i64 E, .int .i64 m] w fun e w' => e = .returned (.agg #[.int .i64 E, .int .i64 m, .int .i64 k, .int .i64 p]) ∧ Below w.heap.size w w')) (hne : ¬ g = E) (w : World) :
    Calls Tryz.prog 102 #[.agg #[.int .i64 f, .int .i64 n, .int .i64 k, .int .i64 t], .agg #[.int .i64 g, .int .i64 m, .int .i64 l, .int .i64 u]] w fun e w' => e = .returned (.tuple #[.agg #[.int .i64 0, .int .i64 0, .int .i64 0, .int .i64 0], .bool false]) ∧ Below w.heap.size w w' := by
  obtain ⟨W, hW⟩ : ∃ W, W = ((w.alloc (.cells #[.int .i64 f, .int .i64 n, .int .i64 k, .int .i64 t] 41)).alloc (.cells #[.int .i64 g, .int .i64 m, .int .i64 l, .int .i64 u] 41)).alloc (.cells #[.int .i64 0, .int .i64 0, .int .i64 0, .int .i64 0] 41) := ⟨_, rfl⟩
  obtain ⟨k1, k2, k3, hb⟩ := box_three w _ _ _ _ _ _ W hW
  have hI : Jn w.heap.size f n k t g m l u w W.drew := ⟨k1, k2, k3, hb.drew⟩
  have hc := fun x => Jn.cells (H := w.heap.size) (f := f) (n := n) (k := k) (t := t) (g := g) (m := m) (l := l) (u := u) (w := w) x
  have c0 := fun x => (hc x).1.1
  have c1 := fun x => (hc x).1.2.1
  have c2 := fun x => (hc x).1.2.2.1
  have c3 := fun x => (hc x).1.2.2.2
  have d0 := fun x => (hc x).2.1
  have d1 := fun x => (hc x).2.2.1
  have d2 := fun x => (hc x).2.2.2.1
  have d3 := fun x => (hc x).2.2.2.2
  have HI := Lib.hid hI
  have hNE : Nonempty (Wd (Jn w.heap.size f n k t g m l u w)) := ⟨⟨_, hI⟩⟩
  have HW := Lib.hid hW
  clear hW k1 k2 k3 hb hc hI
  go_enter Tryz.func102, Tryz.ntmps102
  go_wp2
  rw [← HW.out]
  refine wp_region_inv (Jn w.heap.size f n k t g m l u w) (by kernel_rfl) (by kernel_rfl) HI.out ?_
  repeat (go_big_quiet_step (first
    | (go_at_call 49; with_reducible refine inv_call _ (fun _ _ => Jn.below) (HA.out _))
    | (go_at_call 49; with_reducible refine inv_call _ (fun _ _ => Jn.below) (HB.out _))
    | (go_at_call 72; with_reducible refine inv_call _ (fun _ _ => Jn.below) (HE.out _))
    | (go_at_call 101; with_reducible refine inv_call _ (fun _ _ => Jn.below) (HS.out _))))
  refine wpQuiet_nil ?_
  intro _ hw'
  obtain ⟨⟨w9, h9⟩, hw''⟩ := hw'
  subst hw''
  obtain ⟨⟨z0, z1, z2, z3⟩, y0, y1, y2, y3⟩ := cells4 h9.z
  have H9 := Lib.hid h9
  clear h9 c0 c1 c2 c3 d0 d1 d2 d3 HI HW
  go_wp2
  exact ret_cell_tmp rfl _ _ _ _ _ _ _ _ rfl rfl rfl (stored4 H9.out.z _ _ _ _) Tryz.underlying41 rfl (by kernel_rfl) ⟨rfl, stored4_below H9.out.bel (by omega) _ _ _ _⟩
set_option maxHeartbeats 4000000 in
theorem joined_f2 (f n k t g m l u : Int) (E p : Int) (HA : (Hid (∀ w, Calls Tryz.prog 49 #[.agg #[.int .i64 f, .int .i64 n, .int .i64 k, .int .i64 t]] w fun e w' => e = .returned (.bool true) ∧ Below w.heap.size w w'))) (HB : (Hid (∀ w, Calls Tryz.prog 49 #[.agg #[.int .i64 E, .int .i64 m, .int .i64 l, .int .i64 u]] w fun e w' => e = .returned (.bool true) ∧ Below w.heap.size w w'))) (HE : Hid (∀ w, Calls Tryz.prog 72 #[.agg #[.int .i64 f, .int .i64 n, .int .i64 k, .int .i64 t]] w fun e w' => e = .returned (.int .i64 E) ∧ Below w.heap.size w w')) (HS : Hid (∀ w, Calls Tryz.prog 101 #[.agg #[.int .i64 f, .int .i64 n, .int .i64 k, .int .i64 t], .int .i64 E, .int .i64 m] w fun e w' => e = .returned (.agg #[.int .i64 E, .int .i64 m, .int .i64 k, .int .i64 p]) ∧ Below w.heap.size w w')) (hne : ¬ l = k) (w : World) :
    Calls Tryz.prog 102 #[.agg #[.int .i64 f, .int .i64 n, .int .i64 k, .int .i64 t], .agg #[.int .i64 E, .int .i64 m, .int .i64 l, .int .i64 u]] w fun e w' => e = .returned (.tuple #[.agg #[.int .i64 0, .int .i64 0, .int .i64 0, .int .i64 0], .bool false]) ∧ Below w.heap.size w w' := by
  obtain ⟨W, hW⟩ : ∃ W, W = ((w.alloc (.cells #[.int .i64 f, .int .i64 n, .int .i64 k, .int .i64 t] 41)).alloc (.cells #[.int .i64 E, .int .i64 m, .int .i64 l, .int .i64 u] 41)).alloc (.cells #[.int .i64 0, .int .i64 0, .int .i64 0, .int .i64 0] 41) := ⟨_, rfl⟩
  obtain ⟨k1, k2, k3, hb⟩ := box_three w _ _ _ _ _ _ W hW
  have hI : Jn w.heap.size f n k t E m l u w W.drew := ⟨k1, k2, k3, hb.drew⟩
  have hc := fun x => Jn.cells (H := w.heap.size) (f := f) (n := n) (k := k) (t := t) (g := E) (m := m) (l := l) (u := u) (w := w) x
  have c0 := fun x => (hc x).1.1
  have c1 := fun x => (hc x).1.2.1
  have c2 := fun x => (hc x).1.2.2.1
  have c3 := fun x => (hc x).1.2.2.2
  have d0 := fun x => (hc x).2.1
  have d1 := fun x => (hc x).2.2.1
  have d2 := fun x => (hc x).2.2.2.1
  have d3 := fun x => (hc x).2.2.2.2
  have HI := Lib.hid hI
  have hNE : Nonempty (Wd (Jn w.heap.size f n k t E m l u w)) := ⟨⟨_, hI⟩⟩
  have HW := Lib.hid hW
  clear hW k1 k2 k3 hb hc hI
  go_enter Tryz.func102, Tryz.ntmps102
  go_wp2
  rw [← HW.out]
  refine wp_region_inv (Jn w.heap.size f n k t E m l u w) (by kernel_rfl) (by kernel_rfl) HI.out ?_
  repeat (go_big_quiet_step (first
    | (go_at_call 49; with_reducible refine inv_call _ (fun _ _ => Jn.below) (HA.out _))
    | (go_at_call 49; with_reducible refine inv_call _ (fun _ _ => Jn.below) (HB.out _))
    | (go_at_call 72; with_reducible refine inv_call _ (fun _ _ => Jn.below) (HE.out _))
    | (go_at_call 101; with_reducible refine inv_call _ (fun _ _ => Jn.below) (HS.out _))))
  refine wpQuiet_nil ?_
  intro _ hw'
  obtain ⟨⟨w9, h9⟩, hw''⟩ := hw'
  subst hw''
  obtain ⟨⟨z0, z1, z2, z3⟩, y0, y1, y2, y3⟩ := cells4 h9.z
  have H9 := Lib.hid h9
  clear h9 c0 c1 c2 c3 d0 d1 d2 d3 HI HW
  go_wp2
  exact ret_cell_tmp rfl _ _ _ _ _ _ _ _ rfl rfl rfl (stored4 H9.out.z _ _ _ _) Tryz.underlying41 rfl (by kernel_rfl) ⟨rfl, stored4_below H9.out.bel (by omega) _ _ _ _⟩
set_option maxHeartbeats 4000000 in
theorem joined_f3 (f n k t g m l u : Int) (E p : Int) (HA : (Hid (∀ w, Calls Tryz.prog 49 #[.agg #[.int .i64 f, .int .i64 n, .int .i64 k, .int .i64 t]] w fun e w' => e = .returned (.bool true) ∧ Below w.heap.size w w'))) (HB : (Hid (∀ w, Calls Tryz.prog 49 #[.agg #[.int .i64 E, .int .i64 m, .int .i64 k, .int .i64 u]] w fun e w' => e = .returned (.bool true) ∧ Below w.heap.size w w'))) (HE : Hid (∀ w, Calls Tryz.prog 72 #[.agg #[.int .i64 f, .int .i64 n, .int .i64 k, .int .i64 t]] w fun e w' => e = .returned (.int .i64 E) ∧ Below w.heap.size w w')) (HS : Hid (∀ w, Calls Tryz.prog 101 #[.agg #[.int .i64 f, .int .i64 n, .int .i64 k, .int .i64 t], .int .i64 E, .int .i64 m] w fun e w' => e = .returned (.agg #[.int .i64 E, .int .i64 m, .int .i64 k, .int .i64 p]) ∧ Below w.heap.size w w')) (hne : ¬ u = p) (w : World) :
    Calls Tryz.prog 102 #[.agg #[.int .i64 f, .int .i64 n, .int .i64 k, .int .i64 t], .agg #[.int .i64 E, .int .i64 m, .int .i64 k, .int .i64 u]] w fun e w' => e = .returned (.tuple #[.agg #[.int .i64 0, .int .i64 0, .int .i64 0, .int .i64 0], .bool false]) ∧ Below w.heap.size w w' := by
  obtain ⟨W, hW⟩ : ∃ W, W = ((w.alloc (.cells #[.int .i64 f, .int .i64 n, .int .i64 k, .int .i64 t] 41)).alloc (.cells #[.int .i64 E, .int .i64 m, .int .i64 k, .int .i64 u] 41)).alloc (.cells #[.int .i64 0, .int .i64 0, .int .i64 0, .int .i64 0] 41) := ⟨_, rfl⟩
  obtain ⟨k1, k2, k3, hb⟩ := box_three w _ _ _ _ _ _ W hW
  have hI : Jn w.heap.size f n k t E m k u w W.drew := ⟨k1, k2, k3, hb.drew⟩
  have hc := fun x => Jn.cells (H := w.heap.size) (f := f) (n := n) (k := k) (t := t) (g := E) (m := m) (l := k) (u := u) (w := w) x
  have c0 := fun x => (hc x).1.1
  have c1 := fun x => (hc x).1.2.1
  have c2 := fun x => (hc x).1.2.2.1
  have c3 := fun x => (hc x).1.2.2.2
  have d0 := fun x => (hc x).2.1
  have d1 := fun x => (hc x).2.2.1
  have d2 := fun x => (hc x).2.2.2.1
  have d3 := fun x => (hc x).2.2.2.2
  have HI := Lib.hid hI
  have hNE : Nonempty (Wd (Jn w.heap.size f n k t E m k u w)) := ⟨⟨_, hI⟩⟩
  have HW := Lib.hid hW
  clear hW k1 k2 k3 hb hc hI
  go_enter Tryz.func102, Tryz.ntmps102
  go_wp2
  rw [← HW.out]
  refine wp_region_inv (Jn w.heap.size f n k t E m k u w) (by kernel_rfl) (by kernel_rfl) HI.out ?_
  repeat (go_big_quiet_step (first
    | (go_at_call 49; with_reducible refine inv_call _ (fun _ _ => Jn.below) (HA.out _))
    | (go_at_call 49; with_reducible refine inv_call _ (fun _ _ => Jn.below) (HB.out _))
    | (go_at_call 72; with_reducible refine inv_call _ (fun _ _ => Jn.below) (HE.out _))
    | (go_at_call 101; with_reducible refine inv_call _ (fun _ _ => Jn.below) (HS.out _))))
  refine wpQuiet_nil ?_
  intro _ hw'
  obtain ⟨⟨w9, h9⟩, hw''⟩ := hw'
  subst hw''
  obtain ⟨⟨z0, z1, z2, z3⟩, y0, y1, y2, y3⟩ := cells4 h9.z
  have H9 := Lib.hid h9
  clear h9 c0 c1 c2 c3 d0 d1 d2 d3 HI HW
  go_wp2
  exact ret_cell_tmp rfl _ _ _ _ _ _ _ _ rfl rfl rfl (stored4 H9.out.z _ _ _ _) Tryz.underlying41 rfl (by kernel_rfl) ⟨rfl, stored4_below H9.out.bel (by omega) _ _ _ _⟩
set_option maxHeartbeats 4000000 in
theorem joined_yes (f n k t g m l u : Int) (E p : Int) (hm : m ≤ 16777216) (hn : 0 ≤ n) (hm0 : 0 ≤ m) (hn1 : n ≤ 16777216) (HA : (Hid (∀ w, Calls Tryz.prog 49 #[.agg #[.int .i64 f, .int .i64 n, .int .i64 k, .int .i64 t]] w fun e w' => e = .returned (.bool true) ∧ Below w.heap.size w w'))) (HB : (Hid (∀ w, Calls Tryz.prog 49 #[.agg #[.int .i64 E, .int .i64 m, .int .i64 k, .int .i64 p]] w fun e w' => e = .returned (.bool true) ∧ Below w.heap.size w w'))) (HE : Hid (∀ w, Calls Tryz.prog 72 #[.agg #[.int .i64 f, .int .i64 n, .int .i64 k, .int .i64 t]] w fun e w' => e = .returned (.int .i64 E) ∧ Below w.heap.size w w')) (HS : Hid (∀ w, Calls Tryz.prog 101 #[.agg #[.int .i64 f, .int .i64 n, .int .i64 k, .int .i64 t], .int .i64 E, .int .i64 m] w fun e w' => e = .returned (.agg #[.int .i64 E, .int .i64 m, .int .i64 k, .int .i64 p]) ∧ Below w.heap.size w w')) (HJ : Hid (∀ w, Calls Tryz.prog 101 #[.agg #[.int .i64 f, .int .i64 n, .int .i64 k, .int .i64 t], .int .i64 f, .int .i64 (n + m)] w fun e w' => e = .returned (.agg #[.int .i64 f, .int .i64 (n + m), .int .i64 k, .int .i64 t]) ∧ Below w.heap.size w w')) (w : World) :
    Calls Tryz.prog 102 #[.agg #[.int .i64 f, .int .i64 n, .int .i64 k, .int .i64 t], .agg #[.int .i64 E, .int .i64 m, .int .i64 k, .int .i64 p]] w fun e w' => e = .returned (.tuple #[.agg #[.int .i64 f, .int .i64 (n + m), .int .i64 k, .int .i64 t], .bool true]) ∧ Below w.heap.size w w' := by
  obtain ⟨W, hW⟩ : ∃ W, W = ((w.alloc (.cells #[.int .i64 f, .int .i64 n, .int .i64 k, .int .i64 t] 41)).alloc (.cells #[.int .i64 E, .int .i64 m, .int .i64 k, .int .i64 p] 41)).alloc (.cells #[.int .i64 0, .int .i64 0, .int .i64 0, .int .i64 0] 41) := ⟨_, rfl⟩
  obtain ⟨k1, k2, k3, hb⟩ := box_three w _ _ _ _ _ _ W hW
  have hI : Jn w.heap.size f n k t E m k p w W.drew := ⟨k1, k2, k3, hb.drew⟩
  have hc := fun x => Jn.cells (H := w.heap.size) (f := f) (n := n) (k := k) (t := t) (g := E) (m := m) (l := k) (u := p) (w := w) x
  have c0 := fun x => (hc x).1.1
  have c1 := fun x => (hc x).1.2.1
  have c2 := fun x => (hc x).1.2.2.1
  have c3 := fun x => (hc x).1.2.2.2
  have d0 := fun x => (hc x).2.1
  have d1 := fun x => (hc x).2.2.1
  have d2 := fun x => (hc x).2.2.2.1
  have d3 := fun x => (hc x).2.2.2.2
  have HI := Lib.hid hI
  have hNE : Nonempty (Wd (Jn w.heap.size f n k t E m k p w)) := ⟨⟨_, hI⟩⟩
  have HW := Lib.hid hW
  clear hW k1 k2 k3 hb hc hI
  go_enter Tryz.func102, Tryz.ntmps102
  go_wp2
  rw [← HW.out]
  refine wp_region_inv (Jn w.heap.size f n k t E m k p w) (by kernel_rfl) (by kernel_rfl) HI.out ?_
  repeat (go_big_quiet_step (first
    | (go_at_call 49; with_reducible refine inv_call _ (fun _ _ => Jn.below) (HA.out _))
    | (go_at_call 49; with_reducible refine inv_call _ (fun _ _ => Jn.below) (HB.out _))
    | (go_at_call 72; with_reducible refine inv_call _ (fun _ _ => Jn.below) (HE.out _))
    | (go_at_call 101; with_reducible refine inv_call _ (fun _ _ => Jn.below) (HS.out _))))
  refine wpQuiet_nil ?_
  intro _ hw'
  obtain ⟨⟨w9, h9⟩, hw''⟩ := hw'
  subst hw''
  obtain ⟨⟨a0, a1, a2, a3⟩, _⟩ := cells4 h9.a
  obtain ⟨⟨b0, b1, b2, b3⟩, _⟩ := cells4 h9.b
  have H9 := Lib.hid h9
  clear h9 c0 c1 c2 c3 d0 d1 d2 d3 HI HW
  go_wp2_with fail
  refine (HJ.out _).mono ?_
  rintro e w10 ⟨rfl, hb10⟩
  have h10 := H9.out.below hb10
  obtain ⟨⟨z0, z1, z2, z3⟩, y0, y1, y2, y3⟩ := cells4 h10.z
  have H10 := Lib.hid h10
  clear h10 hb10
  go_wp2
  exact ret_cell_tmp rfl _ _ _ _ _ _ _ _ rfl rfl rfl (stored4 H10.out.z _ _ _ _) Tryz.underlying41 rfl (by kernel_rfl) ⟨rfl, stored4_below H10.out.bel (by omega) _ _ _ _⟩
end EX
end Go.Proofs.YtdjlflinepefbabGreat
