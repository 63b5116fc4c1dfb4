/- What scoriaref07's Range, One, together, Joined and Check answer. No condition but those that each theorem names. -/
import Derived.Test.YtmndbdkodijlbaaExD
namespace Go.Proofs.Ytmndbdkodijlbaa
open Go.RowKit
namespace EX
open MM
set_option linter.unusedVariables false
set_option linter.unusedSimpArgs false

theorem rrange_yes (f n : Int) (h : Rng f n 16777216) (w : World) : Calls Try.prog 71 #[.int .i64 f, .int .i64 n] w fun e w' => e = .returned (.bool true) ∧ w = w' := by
  obtain ⟨h0, h1, h2⟩ := h
  have h3 : f ≤ 16777216 := by omega
  go_enter Try.func71, Try.ntmps71
  go_wp2
  go_ret
  exact ⟨rfl, rfl⟩
theorem rrange_no (f n : Int) (h : ¬ Rng f n 16777216) (w : World) : Calls Try.prog 71 #[.int .i64 f, .int .i64 n] w fun e w' => e = .returned (.bool false) ∧ w = w' := by
  by_cases h0 : 0 ≤ f
  · by_cases h1 : f ≤ 16777216
    · by_cases h2 : 0 ≤ n
      · have h3 : ¬ n ≤ 16777216 - f := fun k => h ⟨h0, h2, k⟩
        have h4 : decide (n ≤ 16777216 - f) = false := decide_eq_false h3
        clear h
        go_enter Try.func71, Try.ntmps71
        go_wp2
        go_ret
        exact ⟨rfl, rfl⟩
      · have h4 : decide (0 ≤ n) = false := decide_eq_false h2
        clear h
        go_enter Try.func71, Try.ntmps71
        go_wp2
        go_ret
        exact ⟨rfl, rfl⟩
    · have h4 : decide (f ≤ 16777216) = false := decide_eq_false h1
      clear h
      go_enter Try.func71, Try.ntmps71
      go_wp2
      go_ret
      exact ⟨rfl, rfl⟩
  · have h4 : decide (0 ≤ f) = false := decide_eq_false h0
    clear h
    go_enter Try.func71, Try.ntmps71
    go_wp2
    go_ret
    exact ⟨rfl, rfl⟩
set_option maxHeartbeats 1000000 in
theorem rone_r (f n k t : Int) (hr : ¬ Rng f n 16777216) (w : World) : Calls Try.prog 60 #[.agg #[.int .i64 f, .int .i64 n, .int .i64 k, .int .i64 t]] w fun e w' => e = .returned (.bool false) ∧ Below w.heap.size w w' := by
  have HW := Lib.hid (rrange_no f n hr)
  clear hr
  go_enter Try.func60, Try.ntmps60
  go_wp2_with fail
  refine (HW.out _).mono ?_
  rintro e w1 ⟨rfl, rfl⟩
  go_wp2
  go_ret
  exact ⟨rfl, below_box _ _⟩
set_option maxHeartbeats 1000000 in
theorem rone_0 (f n k t : Int) (hr : Rng f n 16777216) (hn : n = 0) (w : World) : Calls Try.prog 60 #[.agg #[.int .i64 f, .int .i64 n, .int .i64 k, .int .i64 t]] w fun e w' => e = .returned (.bool false) ∧ Below w.heap.size w w' := by
  have HW := Lib.hid (rrange_yes f n hr)
  subst hn
  clear hr
  go_enter Try.func60, Try.ntmps60
  go_wp2_with fail
  refine (HW.out _).mono ?_
  rintro e w1 ⟨rfl, rfl⟩
  go_wp2
  go_ret
  exact ⟨rfl, below_box _ _⟩
set_option maxHeartbeats 1000000 in
theorem rone_1y (f n k t : Int) (hr : Rng f n 16777216) (hn : ¬ n = 0) (hk : k = 1) (ht : t = 0) (w : World) : Calls Try.prog 60 #[.agg #[.int .i64 f, .int .i64 n, .int .i64 k, .int .i64 t]] w fun e w' => e = .returned (.bool true) ∧ Below w.heap.size w w' := by
  have HW := Lib.hid (rrange_yes f n hr)
  have hn0 : (n == 0) = false := by simpa using hn
  clear hr hn
  subst hk ht
  go_enter Try.func60, Try.ntmps60
  go_wp2_with fail
  refine (HW.out _).mono ?_
  rintro e w1 ⟨rfl, rfl⟩
  go_wp2
  go_ret
  exact ⟨rfl, below_box _ _⟩
set_option maxHeartbeats 1000000 in
theorem rone_1n (f n k t : Int) (hr : Rng f n 16777216) (hn : ¬ n = 0) (hk : k = 1) (ht : ¬ t = 0) (w : World) : Calls Try.prog 60 #[.agg #[.int .i64 f, .int .i64 n, .int .i64 k, .int .i64 t]] w fun e w' => e = .returned (.bool false) ∧ Below w.heap.size w w' := by
  have HW := Lib.hid (rrange_yes f n hr)
  have hn0 : (n == 0) = false := by simpa using hn
  clear hr hn
  subst hk
  have ht0 : (t == 0) = false := by simpa using ht
  clear ht
  go_enter Try.func60, Try.ntmps60
  go_wp2_with fail
  refine (HW.out _).mono ?_
  rintro e w1 ⟨rfl, rfl⟩
  go_wp2
  go_ret
  exact ⟨rfl, below_box _ _⟩
set_option maxHeartbeats 1000000 in
theorem rone_k (f n k t : Int) (hr : Rng f n 16777216) (hn : ¬ n = 0) (hk : ¬ k = 1) (hk2 : ¬ k = 2) (w : World) : Calls Try.prog 60 #[.agg #[.int .i64 f, .int .i64 n, .int .i64 k, .int .i64 t]] w fun e w' => e = .returned (.bool false) ∧ Below w.heap.size w w' := by
  have HW := Lib.hid (rrange_yes f n hr)
  have hn0 : (n == 0) = false := by simpa using hn
  clear hr hn
  have k1 : (k == 1) = false := by simpa using hk
  have k2 : (k == 2) = false := by simpa using hk2
  clear hk hk2
  go_enter Try.func60, Try.ntmps60
  go_wp2_with fail
  refine (HW.out _).mono ?_
  rintro e w1 ⟨rfl, rfl⟩
  go_wp2
  go_ret
  exact ⟨rfl, below_box _ _⟩
set_option maxHeartbeats 1000000 in
theorem rone_2a (f n k t : Int) (hr : Rng f n 16777216) (hn : ¬ n = 0) (hk : k = 2) (ht : ¬ 0 ≤ t) (w : World) : Calls Try.prog 60 #[.agg #[.int .i64 f, .int .i64 n, .int .i64 k, .int .i64 t]] w fun e w' => e = .returned (.bool false) ∧ Below w.heap.size w w' := by
  have HW := Lib.hid (rrange_yes f n hr)
  have hn0 : (n == 0) = false := by simpa using hn
  clear hr hn
  subst hk
  have k3 : decide (0 ≤ t) = false := decide_eq_false ht
  go_enter Try.func60, Try.ntmps60
  go_wp2_with fail
  refine (HW.out _).mono ?_
  rintro e w1 ⟨rfl, rfl⟩
  go_wp2
  go_ret
  exact ⟨rfl, below_box _ _⟩
set_option maxHeartbeats 1000000 in
theorem rone_2b (f n k t : Int) (hr : Rng f n 16777216) (hn : ¬ n = 0) (hk : k = 2) (ht : 0 ≤ t) (ht2 : ¬ t ≤ 2048) (w : World) : Calls Try.prog 60 #[.agg #[.int .i64 f, .int .i64 n, .int .i64 k, .int .i64 t]] w fun e w' => e = .returned (.bool false) ∧ Below w.heap.size w w' := by
  have HW := Lib.hid (rrange_yes f n hr)
  have hn0 : (n == 0) = false := by simpa using hn
  clear hr hn
  subst hk
  have k3 : decide (t ≤ 2048) = false := decide_eq_false ht2
  go_enter Try.func60, Try.ntmps60
  go_wp2_with fail
  refine (HW.out _).mono ?_
  rintro e w1 ⟨rfl, rfl⟩
  go_wp2
  go_ret
  exact ⟨rfl, below_box _ _⟩
set_option maxHeartbeats 1000000 in
theorem rone_2c (f n k t : Int) (hr : Rng f n 16777216) (hn : ¬ n = 0) (hk : k = 2) (ht : 0 ≤ t) (ht2 : t ≤ 2048) (ht3 : ¬ n ≤ 2048 - t) (w : World) : Calls Try.prog 60 #[.agg #[.int .i64 f, .int .i64 n, .int .i64 k, .int .i64 t]] w fun e w' => e = .returned (.bool false) ∧ Below w.heap.size w w' := by
  have HW := Lib.hid (rrange_yes f n hr)
  have hn0 : (n == 0) = false := by simpa using hn
  clear hr hn
  subst hk
  have k3 : decide (n ≤ 2048 - t) = false := decide_eq_false ht3
  go_enter Try.func60, Try.ntmps60
  go_wp2_with fail
  refine (HW.out _).mono ?_
  rintro e w1 ⟨rfl, rfl⟩
  go_wp2
  go_ret
  exact ⟨rfl, below_box _ _⟩
set_option maxHeartbeats 1000000 in
theorem rone_2y (f n k t : Int) (hr : Rng f n 16777216) (hn : ¬ n = 0) (hk : k = 2) (ht : 0 ≤ t) (ht2 : t ≤ 2048) (ht3 : n ≤ 2048 - t) (w : World) : Calls Try.prog 60 #[.agg #[.int .i64 f, .int .i64 n, .int .i64 k, .int .i64 t]] w fun e w' => e = .returned (.bool true) ∧ Below w.heap.size w w' := by
  have HW := Lib.hid (rrange_yes f n hr)
  have hn0 : (n == 0) = false := by simpa using hn
  clear hr hn
  subst hk
  go_enter Try.func60, Try.ntmps60
  go_wp2_with fail
  refine (HW.out _).mono ?_
  rintro e w1 ⟨rfl, rfl⟩
  go_wp2
  go_ret
  exact ⟨rfl, below_box _ _⟩
theorem rone_any (e : Ext) (w : World) : Calls Try.prog 60 #[.agg #[.int .i64 e.from_, .int .i64 e.n, .int .i64 e.kind, .int .i64 e.at_]] w fun r w' => r = .returned (.bool (decide (One e))) ∧ Below w.heap.size w w' := by
  obtain ⟨f, n, k, t⟩ := e
  by_cases hr : Rng f n 16777216
  · have hr2 := hr
    unfold Rng at hr2
    by_cases hn : n = 0
    · rw [decide_eq_false (fun h : One ⟨f, n, k, t⟩ => by have := h.pos; simp only at this; omega)]
      exact rone_0 f n k t hr hn w
    · by_cases hk : k = 1
      · by_cases ht : t = 0
        · rw [decide_eq_true (show One ⟨f, n, k, t⟩ from ⟨⟨by simp only; omega, hr2.1, hr2.2.2⟩, .inl ⟨hk, ht⟩⟩)]
          exact rone_1y f n k t hr hn hk ht w
        · rw [decide_eq_false (fun h : One ⟨f, n, k, t⟩ => by have := h.2; simp only at this; omega)]
          exact rone_1n f n k t hr hn hk ht w
      · by_cases hk2 : k = 2
        · by_cases ht : 0 ≤ t
          · by_cases ht2 : t ≤ 2048
            · by_cases ht3 : n ≤ 2048 - t
              · rw [decide_eq_true (show One ⟨f, n, k, t⟩ from ⟨⟨by simp only; omega, hr2.1, hr2.2.2⟩, .inr ⟨hk2, ht, ht3⟩⟩)]
                exact rone_2y f n k t hr hn hk2 ht ht2 ht3 w
              · rw [decide_eq_false (fun h : One ⟨f, n, k, t⟩ => by have := h.2; simp only at this; omega)]
                exact rone_2c f n k t hr hn hk2 ht ht2 ht3 w
            · rw [decide_eq_false (fun h : One ⟨f, n, k, t⟩ => by have := h.2; have := h.1; simp only at *; omega)]
              exact rone_2b f n k t hr hn hk2 ht ht2 w
          · rw [decide_eq_false (fun h : One ⟨f, n, k, t⟩ => by have := h.2; simp only at this; omega)]
            exact rone_2a f n k t hr hn hk2 ht w
        · rw [decide_eq_false (fun h : One ⟨f, n, k, t⟩ => by have := h.2; simp only at this; omega)]
          exact rone_k f n k t hr hn hk hk2 w
  · rw [decide_eq_false (fun h : One ⟨f, n, k, t⟩ => hr ⟨h.1.2.1, by have := h.1.1; simp only at this; omega, h.1.2.2⟩)]
    exact rone_r f n k t hr w

set_option maxHeartbeats 1000000 in
theorem rtog_f (f n k t g m l u : Int) (h1 : 0 ≤ f) (h2 : f ≤ 16777216) (h3 : 0 ≤ n) (h4 : n ≤ 16777216) (hg : ¬ g = f + n) (w : World) : Calls Try.prog 61 #[.agg #[.int .i64 f, .int .i64 n, .int .i64 k, .int .i64 t], .agg #[.int .i64 g, .int .i64 m, .int .i64 l, .int .i64 u]] w fun e w' => e = .returned (.bool false) ∧ Below w.heap.size w w' := by
  have e9 : IntKind.i64.wrap (f + n) = f + n := IntWalk.i64_in _ (by omega)
  have b1 : (g != f + n) = true := by simpa using hg
  clear hg
  have HB : Hid (∀ a b : Obj, Below w.heap.size w ((w.alloc a).alloc b)) := Lib.hid fun a b => (below_box w a).alloc (by simp) b
  go_enter Try.func61, Try.ntmps61
  go_wp2
  go_ret
  exact ⟨rfl, HB.out _ _⟩
set_option maxHeartbeats 1000000 in
theorem rtog_k (f n k t g m l u : Int) (h1 : 0 ≤ f) (h2 : f ≤ 16777216) (h3 : 0 ≤ n) (h4 : n ≤ 16777216) (hk : ¬ k = l) (w : World) : Calls Try.prog 61 #[.agg #[.int .i64 f, .int .i64 n, .int .i64 k, .int .i64 t], .agg #[.int .i64 (f + n), .int .i64 m, .int .i64 l, .int .i64 u]] w fun e w' => e = .returned (.bool false) ∧ Below w.heap.size w w' := by
  have e9 : IntKind.i64.wrap (f + n) = f + n := IntWalk.i64_in _ (by omega)
  have b1 : (k != l) = true := by simpa using hk
  clear hk
  have HB : Hid (∀ a b : Obj, Below w.heap.size w ((w.alloc a).alloc b)) := Lib.hid fun a b => (below_box w a).alloc (by simp) b
  go_enter Try.func61, Try.ntmps61
  go_wp2
  go_ret
  exact ⟨rfl, HB.out _ _⟩
set_option maxHeartbeats 1000000 in
theorem rtog_1 (f n k t g m l u : Int) (h1 : 0 ≤ f) (h2 : f ≤ 16777216) (h3 : 0 ≤ n) (h4 : n ≤ 16777216) (hk : k = 1) (w : World) : Calls Try.prog 61 #[.agg #[.int .i64 f, .int .i64 n, .int .i64 k, .int .i64 t], .agg #[.int .i64 (f + n), .int .i64 m, .int .i64 k, .int .i64 u]] w fun e w' => e = .returned (.bool true) ∧ Below w.heap.size w w' := by
  have e9 : IntKind.i64.wrap (f + n) = f + n := IntWalk.i64_in _ (by omega)
  subst hk
  have HB : Hid (∀ a b : Obj, Below w.heap.size w ((w.alloc a).alloc b)) := Lib.hid fun a b => (below_box w a).alloc (by simp) b
  go_enter Try.func61, Try.ntmps61
  go_wp2
  go_ret
  exact ⟨rfl, HB.out _ _⟩
set_option maxHeartbeats 1000000 in
theorem rtog_2n (f n k t g m l u : Int) (h1 : 0 ≤ f) (h2 : f ≤ 16777216) (h3 : 0 ≤ n) (h4 : n ≤ 16777216) (hk : k = 2) (ht0 : 0 ≤ t) (ht1 : t ≤ 2048) (hu : ¬ u = t + n) (w : World) : Calls Try.prog 61 #[.agg #[.int .i64 f, .int .i64 n, .int .i64 k, .int .i64 t], .agg #[.int .i64 (f + n), .int .i64 m, .int .i64 k, .int .i64 u]] w fun e w' => e = .returned (.bool false) ∧ Below w.heap.size w w' := by
  have e9 : IntKind.i64.wrap (f + n) = f + n := IntWalk.i64_in _ (by omega)
  subst hk
  have e8 : IntKind.i64.wrap (t + n) = t + n := IntWalk.i64_in _ (by omega)
  have b1 : (u == t + n) = false := by simpa using hu
  clear hu
  have HB : Hid (∀ a b : Obj, Below w.heap.size w ((w.alloc a).alloc b)) := Lib.hid fun a b => (below_box w a).alloc (by simp) b
  go_enter Try.func61, Try.ntmps61
  go_wp2
  go_ret
  exact ⟨rfl, HB.out _ _⟩
set_option maxHeartbeats 1000000 in
theorem rtog_2y (f n k t g m l u : Int) (h1 : 0 ≤ f) (h2 : f ≤ 16777216) (h3 : 0 ≤ n) (h4 : n ≤ 16777216) (hk : k = 2) (ht0 : 0 ≤ t) (ht1 : t ≤ 2048) (w : World) : Calls Try.prog 61 #[.agg #[.int .i64 f, .int .i64 n, .int .i64 k, .int .i64 t], .agg #[.int .i64 (f + n), .int .i64 m, .int .i64 k, .int .i64 (t + n)]] w fun e w' => e = .returned (.bool true) ∧ Below w.heap.size w w' := by
  have e9 : IntKind.i64.wrap (f + n) = f + n := IntWalk.i64_in _ (by omega)
  subst hk
  have e8 : IntKind.i64.wrap (t + n) = t + n := IntWalk.i64_in _ (by omega)
  have HB : Hid (∀ a b : Obj, Below w.heap.size w ((w.alloc a).alloc b)) := Lib.hid fun a b => (below_box w a).alloc (by simp) b
  go_enter Try.func61, Try.ntmps61
  go_wp2
  go_ret
  exact ⟨rfl, HB.out _ _⟩
theorem rtog_any (a b : Ext) (h1 : One a) (h2 : One b) (w : World) :
    Calls Try.prog 61 #[.agg #[.int .i64 a.from_, .int .i64 a.n, .int .i64 a.kind, .int .i64 a.at_], .agg #[.int .i64 b.from_, .int .i64 b.n, .int .i64 b.kind, .int .i64 b.at_]] w fun r w' => r = .returned (.bool (decide (Tog a b))) ∧ Below w.heap.size w w' := by
  have := h1.low; have := h1.high; have := h1.pos
  have hk := h1.2
  have hkb := h2.2
  obtain ⟨g, m, l, u⟩ := b
  obtain ⟨f, n, k, t⟩ := a
  unfold fin at *
  simp only at *
  by_cases e1 : g = f + n
  · subst e1
    by_cases e2 : k = l
    · subst e2
      by_cases e3 : k = 1
      · rw [decide_eq_true (show Tog ⟨f, n, k, t⟩ ⟨f + n, m, k, u⟩ from ⟨rfl, rfl, fun h => by simp only at h; omega⟩)]
        exact rtog_1 f n k t 0 m 0 u (by omega) (by omega) (by omega) (by omega) e3 w
      · by_cases e4 : u = t + n
        · subst e4
          rw [decide_eq_true (show Tog ⟨f, n, k, t⟩ ⟨f + n, m, k, t + n⟩ from ⟨rfl, rfl, fun h => rfl⟩)]
          exact rtog_2y f n k t 0 m 0 0 (by omega) (by omega) (by omega) (by omega) (by omega) (by omega) (by omega) w
        · rw [decide_eq_false (fun h : Tog ⟨f, n, k, t⟩ ⟨f + n, m, k, u⟩ => e4 (h.2.2 (by simp only; omega)))]
          exact rtog_2n f n k t 0 m 0 u (by omega) (by omega) (by omega) (by omega) (by omega) (by omega) (by omega) e4 w
    · rw [decide_eq_false (fun h : Tog ⟨f, n, k, t⟩ ⟨f + n, m, l, u⟩ => e2 h.2.1)]
      exact rtog_k f n k t 0 m l u (by omega) (by omega) (by omega) (by omega) e2 w
  · rw [decide_eq_false (fun h : Tog ⟨f, n, k, t⟩ ⟨g, m, l, u⟩ => e1 h.1)]
    exact rtog_f f n k t g m l u (by omega) (by omega) (by omega) (by omega) e1 w
end EX
end Go.Proofs.Ytmndbdkodijlbaa
