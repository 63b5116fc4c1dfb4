/- What scoriaref07.Joined answers. No condition but those that each theorem names. -/
import Derived.Test.YtomncnelkkmalaaExR2
namespace Go.Proofs.Ytomncnelkkmalaa
open Go.RowKit
namespace EX
open MM
set_option linter.unusedVariables false
set_option linter.unusedSimpArgs false

/-- What Joined has boxed. -/
structure Jr (H : Nat) (f n k t g m l u : Int) (w w' : World) : Prop where
  a : Blk w' H 29 (c4 f n k t)
  b : Blk w' (H + 1) 29 (c4 g m l u)
  z : Blk w' (H + 1 + 1) 29 (c4 0 0 0 0)
  bel : Below H w w'
theorem Jr.below {H : Nat} {f n k t g m l u : Int} {w w1 w2 : World} (h : Jr H f n k t g m l u w w1) (hb : Below w1.heap.size w1 w2) : Jr H f n k t g m l u w w2 :=
  ⟨h.a.below hb h.a.lt, h.b.below hb h.b.lt, h.z.below hb h.z.lt, h.bel.trans (hb.mono (Nat.le_of_lt h.a.lt))⟩
set_option maxHeartbeats 2000000 in
theorem rjoined_a (f n k t g m l u : Int) (HA : Hid (∀ w, Calls Try.prog 14 #[.agg #[.int .i64 f, .int .i64 n, .int .i64 k, .int .i64 t]] w fun e w' => e = .returned (.bool false) ∧ Below w.heap.size w w')) (w : World) :
    Calls Try.prog 12 #[.agg #[.int .i64 f, .int .i64 n, .int .i64 k, .int .i64 t], .agg #[.int .i64 g, .int .i64 m, .int .i64 l, .int .i64 u]] w fun e w' => e = .returned (.tuple #[.agg #[.int .i64 0, .int .i64 0, .int .i64 0, .int .i64 0], .bool false]) ∧ Below w.heap.size w w' := by
  obtain ⟨W, hW⟩ : ∃ W, W = ((w.alloc (.cells #[.int .i64 f, .int .i64 n, .int .i64 k, .int .i64 t] 29)).alloc (.cells #[.int .i64 g, .int .i64 m, .int .i64 l, .int .i64 u] 29)).alloc (.cells #[.int .i64 0, .int .i64 0, .int .i64 0, .int .i64 0] 29) := ⟨_, rfl⟩
  obtain ⟨k1, k2, k3, hb⟩ := box_three w _ _ _ _ _ _ W hW
  have hP : Hid (Jr w.heap.size f n k t g m l u w W) := Lib.hid ⟨k1, k2, k3, hb⟩
  obtain ⟨⟨a0, a1, a2, a3⟩, _⟩ := cells4 hP.out.a
  obtain ⟨⟨b0, b1, b2, b3⟩, _⟩ := cells4 hP.out.b
  obtain ⟨⟨z0, z1, z2, z3⟩, y0, y1, y2, y3⟩ := cells4 hP.out.z
  have HW := Lib.hid hW
  clear hW k1 k2 k3 hb
  go_enter Try.func12, Try.ntmps12
  go_wp2_with fail
  rw [← HW.out]
  refine (HA.out _).mono ?_
  rintro r w2 ⟨rfl, hb2⟩
  have hP2 := hP.out.below hb2
  clear hb2 a0 a1 a2 a3 b0 b1 b2 b3 z0 z1 z2 z3 y0 y1 y2 y3 hP
  obtain ⟨⟨a0, a1, a2, a3⟩, _⟩ := cells4 hP2.a
  obtain ⟨⟨b0, b1, b2, b3⟩, _⟩ := cells4 hP2.b
  obtain ⟨⟨z0, z1, z2, z3⟩, y0, y1, y2, y3⟩ := cells4 hP2.z
  have hP := Lib.hid hP2
  clear hP2
  go_wp2
  exact ret_cell_tmp rfl _ _ _ _ _ _ _ _ rfl rfl rfl (stored4 hP.out.z _ _ _ _) Try.underlying29 rfl (by kernel_rfl) ⟨rfl, stored4_below hP.out.bel (by omega) _ _ _ _⟩
set_option maxHeartbeats 2000000 in
theorem rjoined_b (f n k t g m l u : Int) (HA : Hid (∀ w, Calls Try.prog 14 #[.agg #[.int .i64 f, .int .i64 n, .int .i64 k, .int .i64 t]] w fun e w' => e = .returned (.bool true) ∧ Below w.heap.size w w')) (HB : Hid (∀ w, Calls Try.prog 14 #[.agg #[.int .i64 g, .int .i64 m, .int .i64 l, .int .i64 u]] w fun e w' => e = .returned (.bool false) ∧ Below w.heap.size w w')) (w : World) :
    Calls Try.prog 12 #[.agg #[.int .i64 f, .int .i64 n, .int .i64 k, .int .i64 t], .agg #[.int .i64 g, .int .i64 m, .int .i64 l, .int .i64 u]] w fun e w' => e = .returned (.tuple #[.agg #[.int .i64 0, .int .i64 0, .int .i64 0, .int .i64 0], .bool false]) ∧ Below w.heap.size w w' := by
  obtain ⟨W, hW⟩ : ∃ W, W = ((w.alloc (.cells #[.int .i64 f, .int .i64 n, .int .i64 k, .int .i64 t] 29)).alloc (.cells #[.int .i64 g, .int .i64 m, .int .i64 l, .int .i64 u] 29)).alloc (.cells #[.int .i64 0, .int .i64 0, .int .i64 0, .int .i64 0] 29) := ⟨_, rfl⟩
  obtain ⟨k1, k2, k3, hb⟩ := box_three w _ _ _ _ _ _ W hW
  have hP : Hid (Jr w.heap.size f n k t g m l u w W) := Lib.hid ⟨k1, k2, k3, hb⟩
  obtain ⟨⟨a0, a1, a2, a3⟩, _⟩ := cells4 hP.out.a
  obtain ⟨⟨b0, b1, b2, b3⟩, _⟩ := cells4 hP.out.b
  obtain ⟨⟨z0, z1, z2, z3⟩, y0, y1, y2, y3⟩ := cells4 hP.out.z
  have HW := Lib.hid hW
  clear hW k1 k2 k3 hb
  go_enter Try.func12, Try.ntmps12
  go_wp2_with fail
  rw [← HW.out]
  refine (HA.out _).mono ?_
  rintro r w2 ⟨rfl, hb2⟩
  have hP2 := hP.out.below hb2
  clear hb2 a0 a1 a2 a3 b0 b1 b2 b3 z0 z1 z2 z3 y0 y1 y2 y3 hP
  obtain ⟨⟨a0, a1, a2, a3⟩, _⟩ := cells4 hP2.a
  obtain ⟨⟨b0, b1, b2, b3⟩, _⟩ := cells4 hP2.b
  obtain ⟨⟨z0, z1, z2, z3⟩, y0, y1, y2, y3⟩ := cells4 hP2.z
  have hP := Lib.hid hP2
  clear hP2
  go_wp2_with fail
  refine (HB.out _).mono ?_
  rintro r w2 ⟨rfl, hb2⟩
  have hP2 := hP.out.below hb2
  clear hb2 a0 a1 a2 a3 b0 b1 b2 b3 z0 z1 z2 z3 y0 y1 y2 y3 hP
  obtain ⟨⟨a0, a1, a2, a3⟩, _⟩ := cells4 hP2.a
  obtain ⟨⟨b0, b1, b2, b3⟩, _⟩ := cells4 hP2.b
  obtain ⟨⟨z0, z1, z2, z3⟩, y0, y1, y2, y3⟩ := cells4 hP2.z
  have hP := Lib.hid hP2
  clear hP2
  go_wp2
  exact ret_cell_tmp rfl _ _ _ _ _ _ _ _ rfl rfl rfl (stored4 hP.out.z _ _ _ _) Try.underlying29 rfl (by kernel_rfl) ⟨rfl, stored4_below hP.out.bel (by omega) _ _ _ _⟩
set_option maxHeartbeats 2000000 in
theorem rjoined_t (f n k t g m l u : Int) (HA : Hid (∀ w, Calls Try.prog 14 #[.agg #[.int .i64 f, .int .i64 n, .int .i64 k, .int .i64 t]] w fun e w' => e = .returned (.bool true) ∧ Below w.heap.size w w')) (HB : Hid (∀ w, Calls Try.prog 14 #[.agg #[.int .i64 g, .int .i64 m, .int .i64 l, .int .i64 u]] w fun e w' => e = .returned (.bool true) ∧ Below w.heap.size w w')) (HT : Hid (∀ w, Calls Try.prog 29 #[.agg #[.int .i64 f, .int .i64 n, .int .i64 k, .int .i64 t], .agg #[.int .i64 g, .int .i64 m, .int .i64 l, .int .i64 u]] w fun e w' => e = .returned (.bool false) ∧ Below w.heap.size w w')) (w : World) :
    Calls Try.prog 12 #[.agg #[.int .i64 f, .int .i64 n, .int .i64 k, .int .i64 t], .agg #[.int .i64 g, .int .i64 m, .int .i64 l, .int .i64 u]] w fun e w' => e = .returned (.tuple #[.agg #[.int .i64 0, .int .i64 0, .int .i64 0, .int .i64 0], .bool false]) ∧ Below w.heap.size w w' := by
  obtain ⟨W, hW⟩ : ∃ W, W = ((w.alloc (.cells #[.int .i64 f, .int .i64 n, .int .i64 k, .int .i64 t] 29)).alloc (.cells #[.int .i64 g, .int .i64 m, .int .i64 l, .int .i64 u] 29)).alloc (.cells #[.int .i64 0, .int .i64 0, .int .i64 0, .int .i64 0] 29) := ⟨_, rfl⟩
  obtain ⟨k1, k2, k3, hb⟩ := box_three w _ _ _ _ _ _ W hW
  have hP : Hid (Jr w.heap.size f n k t g m l u w W) := Lib.hid ⟨k1, k2, k3, hb⟩
  obtain ⟨⟨a0, a1, a2, a3⟩, _⟩ := cells4 hP.out.a
  obtain ⟨⟨b0, b1, b2, b3⟩, _⟩ := cells4 hP.out.b
  obtain ⟨⟨z0, z1, z2, z3⟩, y0, y1, y2, y3⟩ := cells4 hP.out.z
  have HW := Lib.hid hW
  clear hW k1 k2 k3 hb
  go_enter Try.func12, Try.ntmps12
  go_wp2_with fail
  rw [← HW.out]
  refine (HA.out _).mono ?_
  rintro r w2 ⟨rfl, hb2⟩
  have hP2 := hP.out.below hb2
  clear hb2 a0 a1 a2 a3 b0 b1 b2 b3 z0 z1 z2 z3 y0 y1 y2 y3 hP
  obtain ⟨⟨a0, a1, a2, a3⟩, _⟩ := cells4 hP2.a
  obtain ⟨⟨b0, b1, b2, b3⟩, _⟩ := cells4 hP2.b
  obtain ⟨⟨z0, z1, z2, z3⟩, y0, y1, y2, y3⟩ := cells4 hP2.z
  have hP := Lib.hid hP2
  clear hP2
  go_wp2_with fail
  refine (HB.out _).mono ?_
  rintro r w2 ⟨rfl, hb2⟩
  have hP2 := hP.out.below hb2
  clear hb2 a0 a1 a2 a3 b0 b1 b2 b3 z0 z1 z2 z3 y0 y1 y2 y3 hP
  obtain ⟨⟨a0, a1, a2, a3⟩, _⟩ := cells4 hP2.a
  obtain ⟨⟨b0, b1, b2, b3⟩, _⟩ := cells4 hP2.b
  obtain ⟨⟨z0, z1, z2, z3⟩, y0, y1, y2, y3⟩ := cells4 hP2.z
  have hP := Lib.hid hP2
  clear hP2
  go_wp2_with fail
  refine (HT.out _).mono ?_
  rintro r w2 ⟨rfl, hb2⟩
  have hP2 := hP.out.below hb2
  clear hb2 a0 a1 a2 a3 b0 b1 b2 b3 z0 z1 z2 z3 y0 y1 y2 y3 hP
  obtain ⟨⟨a0, a1, a2, a3⟩, _⟩ := cells4 hP2.a
  obtain ⟨⟨b0, b1, b2, b3⟩, _⟩ := cells4 hP2.b
  obtain ⟨⟨z0, z1, z2, z3⟩, y0, y1, y2, y3⟩ := cells4 hP2.z
  have hP := Lib.hid hP2
  clear hP2
  go_wp2
  exact ret_cell_tmp rfl _ _ _ _ _ _ _ _ rfl rfl rfl (stored4 hP.out.z _ _ _ _) Try.underlying29 rfl (by kernel_rfl) ⟨rfl, stored4_below hP.out.bel (by omega) _ _ _ _⟩
set_option maxHeartbeats 2000000 in
theorem rjoined_y (f n k t g m l u : Int) (h0 : 0 ≤ n) (h1 : n ≤ 16777216) (h2 : 0 ≤ m) (h3 : m ≤ 16777216) (HA : Hid (∀ w, Calls Try.prog 14 #[.agg #[.int .i64 f, .int .i64 n, .int .i64 k, .int .i64 t]] w fun e w' => e = .returned (.bool true) ∧ Below w.heap.size w w')) (HB : Hid (∀ w, Calls Try.prog 14 #[.agg #[.int .i64 g, .int .i64 m, .int .i64 l, .int .i64 u]] w fun e w' => e = .returned (.bool true) ∧ Below w.heap.size w w')) (HT : Hid (∀ w, Calls Try.prog 29 #[.agg #[.int .i64 f, .int .i64 n, .int .i64 k, .int .i64 t], .agg #[.int .i64 g, .int .i64 m, .int .i64 l, .int .i64 u]] w fun e w' => e = .returned (.bool true) ∧ Below w.heap.size w w')) (w : World) :
    Calls Try.prog 12 #[.agg #[.int .i64 f, .int .i64 n, .int .i64 k, .int .i64 t], .agg #[.int .i64 g, .int .i64 m, .int .i64 l, .int .i64 u]] w fun e w' => e = .returned (.tuple #[.agg #[.int .i64 f, .int .i64 (n + m), .int .i64 k, .int .i64 t], .bool true]) ∧ Below w.heap.size w w' := by
  obtain ⟨W, hW⟩ : ∃ W, W = ((w.alloc (.cells #[.int .i64 f, .int .i64 n, .int .i64 k, .int .i64 t] 29)).alloc (.cells #[.int .i64 g, .int .i64 m, .int .i64 l, .int .i64 u] 29)).alloc (.cells #[.int .i64 0, .int .i64 0, .int .i64 0, .int .i64 0] 29) := ⟨_, rfl⟩
  obtain ⟨k1, k2, k3, hb⟩ := box_three w _ _ _ _ _ _ W hW
  have hP : Hid (Jr w.heap.size f n k t g m l u w W) := Lib.hid ⟨k1, k2, k3, hb⟩
  obtain ⟨⟨a0, a1, a2, a3⟩, _⟩ := cells4 hP.out.a
  obtain ⟨⟨b0, b1, b2, b3⟩, _⟩ := cells4 hP.out.b
  obtain ⟨⟨z0, z1, z2, z3⟩, y0, y1, y2, y3⟩ := cells4 hP.out.z
  have HW := Lib.hid hW
  clear hW k1 k2 k3 hb
  go_enter Try.func12, Try.ntmps12
  go_wp2_with fail
  rw [← HW.out]
  refine (HA.out _).mono ?_
  rintro r w2 ⟨rfl, hb2⟩
  have hP2 := hP.out.below hb2
  clear hb2 a0 a1 a2 a3 b0 b1 b2 b3 z0 z1 z2 z3 y0 y1 y2 y3 hP
  obtain ⟨⟨a0, a1, a2, a3⟩, _⟩ := cells4 hP2.a
  obtain ⟨⟨b0, b1, b2, b3⟩, _⟩ := cells4 hP2.b
  obtain ⟨⟨z0, z1, z2, z3⟩, y0, y1, y2, y3⟩ := cells4 hP2.z
  have hP := Lib.hid hP2
  clear hP2
  go_wp2_with fail
  refine (HB.out _).mono ?_
  rintro r w2 ⟨rfl, hb2⟩
  have hP2 := hP.out.below hb2
  clear hb2 a0 a1 a2 a3 b0 b1 b2 b3 z0 z1 z2 z3 y0 y1 y2 y3 hP
  obtain ⟨⟨a0, a1, a2, a3⟩, _⟩ := cells4 hP2.a
  obtain ⟨⟨b0, b1, b2, b3⟩, _⟩ := cells4 hP2.b
  obtain ⟨⟨z0, z1, z2, z3⟩, y0, y1, y2, y3⟩ := cells4 hP2.z
  have hP := Lib.hid hP2
  clear hP2
  go_wp2_with fail
  refine (HT.out _).mono ?_
  rintro r w2 ⟨rfl, hb2⟩
  have hP2 := hP.out.below hb2
  clear hb2 a0 a1 a2 a3 b0 b1 b2 b3 z0 z1 z2 z3 y0 y1 y2 y3 hP
  obtain ⟨⟨a0, a1, a2, a3⟩, _⟩ := cells4 hP2.a
  obtain ⟨⟨b0, b1, b2, b3⟩, _⟩ := cells4 hP2.b
  obtain ⟨⟨z0, z1, z2, z3⟩, y0, y1, y2, y3⟩ := cells4 hP2.z
  have hP := Lib.hid hP2
  clear hP2
  go_wp2
  exact ret_cell_tmp rfl _ _ _ _ _ _ _ _ rfl rfl rfl (stored4 hP.out.z _ _ _ _) Try.underlying29 rfl (by kernel_rfl) ⟨rfl, stored4_below hP.out.bel (by omega) _ _ _ _⟩
theorem rjoined_no (a b : Ext) (h : ¬ (One a ∧ One b ∧ Tog a b)) (w : World) :
    Calls Try.prog 12 #[.agg #[.int .i64 a.from_, .int .i64 a.n, .int .i64 a.kind, .int .i64 a.at_], .agg #[.int .i64 b.from_, .int .i64 b.n, .int .i64 b.kind, .int .i64 b.at_]] w fun e w' => e = .returned (.tuple #[.agg #[.int .i64 0, .int .i64 0, .int .i64 0, .int .i64 0], .bool false]) ∧ Below w.heap.size w w' := by
  by_cases h1 : One a
  · have HA := Lib.hid (rone_any a)
    rw [decide_eq_true h1] at HA
    by_cases h2 : One b
    · have HB := Lib.hid (rone_any b)
      rw [decide_eq_true h2] at HB
      have HT := Lib.hid (rtog_any a b h1 h2)
      rw [decide_eq_false (fun h3 => h ⟨h1, h2, h3⟩)] at HT
      exact rjoined_t _ _ _ _ _ _ _ _ HA HB HT w
    · have HB := Lib.hid (rone_any b)
      rw [decide_eq_false h2] at HB
      exact rjoined_b _ _ _ _ _ _ _ _ HA HB w
  · have HA := Lib.hid (rone_any a)
    rw [decide_eq_false h1] at HA
    exact rjoined_a _ _ _ _ _ _ _ _ HA w
theorem rjoined_ok (a b : Ext) (h1 : One a) (h2 : One b) (h3 : Tog a b) (w : World) :
    Calls Try.prog 12 #[.agg #[.int .i64 a.from_, .int .i64 a.n, .int .i64 a.kind, .int .i64 a.at_], .agg #[.int .i64 b.from_, .int .i64 b.n, .int .i64 b.kind, .int .i64 b.at_]] w fun e w' => e = .returned (.tuple #[.agg #[.int .i64 a.from_, .int .i64 (a.n + b.n), .int .i64 a.kind, .int .i64 a.at_], .bool true]) ∧ Below w.heap.size w w' := by
  have HA := Lib.hid (rone_any a)
  rw [decide_eq_true h1] at HA
  have HB := Lib.hid (rone_any b)
  rw [decide_eq_true h2] at HB
  have HT := Lib.hid (rtog_any a b h1 h2)
  rw [decide_eq_true h3] at HT
  have := h1.pos; have := h1.high; have := h1.low; have := h2.pos; have := h2.high; have := h2.low
  unfold fin at *
  exact rjoined_y _ _ _ _ _ _ _ _ (by omega) (by omega) (by omega) (by omega) HA HB HT w
end EX
end Go.Proofs.Ytomncnelkkmalaa
