/- What package ext's within, One, end, page, stretch answer. No condition but those that each theorem names. -/
import Derived.Test.YtmndbdkodijlbaaProg
import Derived.Test.YtmndbdkodijlbaaExMath
import Derived.Test.YtmndbdkodijlbaaCellR
import Derived.WalkKit
import Derived.Handy
import Derived.IntWalk
import Derived.Deep.RegionHeld3
namespace Go.Proofs.Ytmndbdkodijlbaa
open Go.RowKit
namespace EX
open MM
set_option linter.unusedVariables false
set_option linter.unusedSimpArgs false

theorem below_box (w : World) (o : Obj) : Below w.heap.size w (w.alloc o) := (Below.refl _ _).alloc (Nat.le_refl _) _
/-- A number of 64 bits. -/
def I64 (x : Int) : Prop := -9223372036854775808 ≤ x ∧ x ≤ 9223372036854775807
def WfE (e : Ext) : Prop := I64 e.from_ ∧ I64 e.n ∧ I64 e.kind ∧ I64 e.at_
theorem One.wf {e : Ext} (h : One e) : WfE e := by
  obtain ⟨h1, h2⟩ := h
  unfold WfE I64
  omega

theorem within_yes (f n b : Int) (hb : b ≤ 16777216) (h : Rng f n b) (w : World) : Calls Try.prog 68 #[.int .i64 f, .int .i64 n, .int .i64 b] w fun e w' => e = .returned (.bool true) ∧ w = w' := by
  obtain ⟨h0, h1, h2⟩ := h
  go_enter Try.func68, Try.ntmps68
  go_wp2
  go_ret
  exact ⟨rfl, rfl⟩
theorem within_no (f n b : Int) (hf : f ≤ 9223372036854775807) (hb0 : 0 ≤ b) (hb : b ≤ 16777216) (h : ¬ Rng f n b) (w : World) : Calls Try.prog 68 #[.int .i64 f, .int .i64 n, .int .i64 b] w fun e w' => e = .returned (.bool false) ∧ w = w' := by
  by_cases h0 : 0 ≤ f
  · by_cases h1 : 0 ≤ n
    · have h2 : ¬ n ≤ b - f := fun k => h ⟨h0, h1, k⟩
      clear h
      go_enter Try.func68, Try.ntmps68
      go_wp2
      go_ret
      exact ⟨rfl, rfl⟩
    · clear h
      go_enter Try.func68, Try.ntmps68
      go_wp2
      go_ret
      exact ⟨rfl, rfl⟩
  · clear h
    go_enter Try.func68, Try.ntmps68
    go_wp2
    go_ret
    exact ⟨rfl, rfl⟩

set_option maxHeartbeats 1000000 in
theorem one_yes (f n k t : Int) (h : One ⟨f, n, k, t⟩) (w : World) : Calls Try.prog 58 #[.agg #[.int .i64 f, .int .i64 n, .int .i64 k, .int .i64 t]] w fun e w' => e = .returned (.bool true) ∧ Below w.heap.size w w' := by
  obtain ⟨⟨h1, h2, h3⟩, h4⟩ := h
  simp only at h1 h2 h3 h4
  have HW := Lib.hid (within_yes f n 16777216 (by decide) ⟨h2, by omega, h3⟩)
  rcases h4 with ⟨rfl, rfl⟩ | ⟨rfl, h4, h5⟩
  · clear h2 h3
    go_enter Try.func58, Try.ntmps58
    go_wp2_with fail
    refine (HW.out _).mono ?_
    rintro e w1 ⟨rfl, rfl⟩
    go_wp2
    go_ret
    exact ⟨rfl, below_box _ _⟩
  · have HV := Lib.hid (within_yes t n 2048 (by decide) ⟨h4, by omega, h5⟩)
    clear h2 h3 h4 h5
    go_enter Try.func58, Try.ntmps58
    go_wp2_with fail
    refine (HW.out _).mono ?_
    rintro e w1 ⟨rfl, rfl⟩
    go_wp2_with fail
    refine (HV.out _).mono ?_
    rintro e w1 ⟨rfl, rfl⟩
    go_wp2
    go_ret
    exact ⟨rfl, below_box _ _⟩
set_option maxHeartbeats 1000000 in
theorem one_no (f n k t : Int) (hw : WfE ⟨f, n, k, t⟩) (h : ¬ One ⟨f, n, k, t⟩) (w : World) : Calls Try.prog 58 #[.agg #[.int .i64 f, .int .i64 n, .int .i64 k, .int .i64 t]] w fun e w' => e = .returned (.bool false) ∧ Below w.heap.size w w' := by
  obtain ⟨⟨_, w1⟩, _, _, ⟨_, w4⟩⟩ := hw
  simp only at w1 w4
  unfold One at h
  simp only at h
  by_cases hn : 1 ≤ n
  · by_cases hr : Rng f n 16777216
    · have HW := Lib.hid (within_yes f n 16777216 (by decide) hr)
      have hr2 := hr
      unfold Rng at hr2
      by_cases hk1 : k = 1
      · subst hk1
        have ht : (t == 0) = false := by
          rw [beq_eq_false_iff_ne]
          intro ht
          exact h ⟨⟨hn, hr2.1, hr2.2.2⟩, .inl ⟨rfl, ht⟩⟩
        clear h hr hr2
        go_enter Try.func58, Try.ntmps58
        go_wp2_with fail
        refine (HW.out _).mono ?_
        rintro e w1 ⟨rfl, rfl⟩
        go_wp2
        go_ret
        exact ⟨rfl, below_box _ _⟩
      · have hk1' : (k == 1) = false := by simpa using hk1
        by_cases hk2 : k = 2
        · subst hk2
          have HV := Lib.hid (within_no t n 2048 w4 (by decide) (by decide) (fun hv => by
            unfold Rng at hv
            exact h ⟨⟨hn, hr2.1, hr2.2.2⟩, .inr ⟨rfl, hv.1, hv.2.2⟩⟩))
          clear h hr hr2 hk1 hk1'
          go_enter Try.func58, Try.ntmps58
          go_wp2_with fail
          refine (HW.out _).mono ?_
          rintro e w1 ⟨rfl, rfl⟩
          go_wp2_with fail
          refine (HV.out _).mono ?_
          rintro e w1 ⟨rfl, rfl⟩
          go_wp2
          go_ret
          exact ⟨rfl, below_box _ _⟩
        · have hk2' : (k == 2) = false := by simpa using hk2
          clear h hr hr2 hk1 hk2
          go_enter Try.func58, Try.ntmps58
          go_wp2_with fail
          refine (HW.out _).mono ?_
          rintro e w1 ⟨rfl, rfl⟩
          go_wp2
          go_ret
          exact ⟨rfl, below_box _ _⟩
    · have HW := Lib.hid (within_no f n 16777216 w1 (by decide) (by decide) hr)
      clear h hr
      go_enter Try.func58, Try.ntmps58
      go_wp2_with fail
      refine (HW.out _).mono ?_
      rintro e w1 ⟨rfl, rfl⟩
      go_wp2
      go_ret
      exact ⟨rfl, below_box _ _⟩
  · clear h
    go_enter Try.func58, Try.ntmps58
    go_wp2
    go_ret
    exact ⟨rfl, below_box _ _⟩

theorem end_any (f n k t : Int) (h0 : -16777216 ≤ f) (h1 : f ≤ 16777216) (h2 : -16777216 ≤ n) (h3 : n ≤ 16777216) (w : World) : Calls Try.prog 70 #[.agg #[.int .i64 f, .int .i64 n, .int .i64 k, .int .i64 t]] w fun e w' => e = .returned (.int .i64 (f + n)) ∧ Below w.heap.size w w' := by
  go_enter Try.func70, Try.ntmps70
  go_wp2
  go_ret
  exact ⟨rfl, below_box _ _⟩

theorem page_any (f n k t s : Int) (h0 : 0 ≤ f) (h1 : f ≤ 16777216) (h2 : 0 ≤ s) (h3 : s ≤ 16777216) (h4 : 0 ≤ t) (h5 : t ≤ 2048) (w : World) : Calls Try.prog 75 #[.agg #[.int .i64 f, .int .i64 n, .int .i64 k, .int .i64 t], .int .i64 s] w fun e w' => e = .returned (.int .i64 (page ⟨f, n, k, t⟩ s)) ∧ Below w.heap.size w w' := by
  by_cases hk : k = 2
  · have e0 : page ⟨f, n, k, t⟩ s = t + s - f := by unfold page; rw [if_pos hk]
    rw [e0]
    subst hk
    clear e0
    go_enter Try.func75, Try.ntmps75
    go_wp2
    go_ret
    exact ⟨rfl, below_box _ _⟩
  · have e0 : page ⟨f, n, k, t⟩ s = 0 := by unfold page; rw [if_neg hk]
    rw [e0]
    have hk' : (k != 2) = true := by simpa using hk
    clear e0 hk
    go_enter Try.func75, Try.ntmps75
    go_wp2
    go_ret
    exact ⟨rfl, below_box _ _⟩
end EX
end Go.Proofs.Ytmndbdkodijlbaa
