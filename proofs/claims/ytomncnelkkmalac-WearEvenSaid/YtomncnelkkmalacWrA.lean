/- What package wear's worn, its predicates and its comparisons answer. No condition but those that each theorem names. -/
import Derived.Test.YtomncnelkkmalacProg
import Derived.Test.YtomncnelkkmalacWrS
import Derived.Test.YtomncnelkkmalacInv
import Derived.WalkKit
import Derived.Handy
import Derived.IntWalk
import Derived.Deep.RegionHeld3
import Derived.Deep.AppendLies
namespace Go.Proofs.Ytomncnelkkmalac
open Go.RowKit
namespace WR
open MM
set_option linter.unusedVariables false
set_option linter.unusedSimpArgs false

theorem below_box (w : World) (o : Obj) : Below w.heap.size w (w.alloc o) := (Below.refl _ _).alloc (Nat.le_refl _) _
theorem below_kept {w w1 w2 : World} (h1 : Below w.heap.size w w1) (h2 : Below w1.heap.size w1 w2) : Below w.heap.size w w2 := h1.trans (h2.mono h1.size)
section
variable {w : World} {g : Nat} {t : TypeId}
theorem wcells3 {a0 a1 a2 : Value} (h : Blk w g t #[a0, a1, a2]) : (w.cell? ⟨g, 0, none⟩ = some a0 ∧ w.cell? ⟨g, 1, none⟩ = some a1 ∧ w.cell? ⟨g, 2, none⟩ = some a2) := ⟨h.cell 0, h.cell 1, h.cell 2⟩
end
theorem wbox_two (w : World) (a b : Array Value) (T U : TypeId) (w0 : World) (h : w0 = (w.alloc (.cells a T)).alloc (.cells b U)) : Blk w0 w.heap.size T a ∧ Blk w0 (w.heap.size + 1) U b ∧ Below w.heap.size w w0 := by
  refine ⟨by rw [h]; exact (Blk.new w _ _).alloc _, ?_, by rw [h]; exact (below_box w _).alloc (by simp) _⟩
  have := Blk.new (w.alloc (.cells a T)) U b
  rw [show (w.alloc (.cells a T)).heap.size = w.heap.size + 1 from by simp] at this
  rw [h]; exact this

theorem worn_any (s v k : Int) (w : World) : Calls Try.prog 26 #[.agg #[.int .i64 s, .int .i64 v, .int .i64 k]] w fun e w' => e = .returned (.int .i64 (wn ⟨s, v, k⟩)) ∧ Below w.heap.size w w' := by
  have h0 : (if k < 0 then 0 else k) = wn ⟨s, v, k⟩ := rfl
  obtain ⟨q, hq⟩ : ∃ q, q = wn ⟨s, v, k⟩ := ⟨_, rfl⟩
  rw [← hq] at h0 ⊢
  clear hq
  by_cases hk : k < 0
  · rw [if_pos hk] at h0
    subst h0
    have h1 : (0 : Int) > k := hk
    go_enter Try.func26, Try.ntmps26
    go_wp2
    go_ret
    exact ⟨rfl, below_box _ _⟩
  · rw [if_neg hk] at h0
    subst h0
    go_enter Try.func26, Try.ntmps26
    go_wp2
    go_ret
    exact ⟨rfl, below_box _ _⟩
theorem isFree_yes (s v k : Int) (h : s = 0) (w : World) : Calls Try.prog 21 #[.agg #[.int .i64 s, .int .i64 v, .int .i64 k]] w fun e w' => e = .returned (.bool true) ∧ Below w.heap.size w w' := by
  subst h
  go_enter Try.func21, Try.ntmps21
  go_wp2
  go_ret
  exact ⟨rfl, below_box _ _⟩
theorem isFree_no (s v k : Int) (h : ¬ s = 0) (w : World) : Calls Try.prog 21 #[.agg #[.int .i64 s, .int .i64 v, .int .i64 k]] w fun e w' => e = .returned (.bool false) ∧ Below w.heap.size w w' := by
  have h1 : (s == 0) = false := by simpa using h
  clear h
  go_enter Try.func21, Try.ntmps21
  go_wp2
  go_ret
  exact ⟨rfl, below_box _ _⟩
theorem isFree_any (b : Bk) (w : World) : Calls Try.prog 21 #[.agg #[.int .i64 b.st, .int .i64 b.va, .int .i64 b.wo]] w fun e w' => e = .returned (.bool (decide (isFree b))) ∧ Below w.heap.size w w' := by
  by_cases h : isFree b
  · rw [decide_eq_true h]; exact isFree_yes _ _ _ h w
  · rw [decide_eq_false h]; exact isFree_no _ _ _ h w
theorem isFull_yes (s v k : Int) (h : s = 2) (w : World) : Calls Try.prog 19 #[.agg #[.int .i64 s, .int .i64 v, .int .i64 k]] w fun e w' => e = .returned (.bool true) ∧ Below w.heap.size w w' := by
  subst h
  go_enter Try.func19, Try.ntmps19
  go_wp2
  go_ret
  exact ⟨rfl, below_box _ _⟩
theorem isFull_no (s v k : Int) (h : ¬ s = 2) (w : World) : Calls Try.prog 19 #[.agg #[.int .i64 s, .int .i64 v, .int .i64 k]] w fun e w' => e = .returned (.bool false) ∧ Below w.heap.size w w' := by
  have h1 : (s == 2) = false := by simpa using h
  clear h
  go_enter Try.func19, Try.ntmps19
  go_wp2
  go_ret
  exact ⟨rfl, below_box _ _⟩
theorem isFull_any (b : Bk) (w : World) : Calls Try.prog 19 #[.agg #[.int .i64 b.st, .int .i64 b.va, .int .i64 b.wo]] w fun e w' => e = .returned (.bool (decide (isFull b))) ∧ Below w.heap.size w w' := by
  by_cases h : isFull b
  · rw [decide_eq_true h]; exact isFull_yes _ _ _ h w
  · rw [decide_eq_false h]; exact isFull_no _ _ _ h w
theorem strands_yes (s v k : Int) (h : s = 3) (hv : 0 < v) (w : World) : Calls Try.prog 23 #[.agg #[.int .i64 s, .int .i64 v, .int .i64 k]] w fun e w' => e = .returned (.bool true) ∧ Below w.heap.size w w' := by
  subst h
  go_enter Try.func23, Try.ntmps23
  go_wp2
  go_ret
  exact ⟨rfl, below_box _ _⟩
theorem strands_no1 (s v k : Int) (h : ¬ s = 3) (w : World) : Calls Try.prog 23 #[.agg #[.int .i64 s, .int .i64 v, .int .i64 k]] w fun e w' => e = .returned (.bool false) ∧ Below w.heap.size w w' := by
  have h1 : (s == 3) = false := by simpa using h
  clear h
  go_enter Try.func23, Try.ntmps23
  go_wp2
  go_ret
  exact ⟨rfl, below_box _ _⟩
theorem strands_no2 (s v k : Int) (h : s = 3) (hv : ¬ 0 < v) (w : World) : Calls Try.prog 23 #[.agg #[.int .i64 s, .int .i64 v, .int .i64 k]] w fun e w' => e = .returned (.bool false) ∧ Below w.heap.size w w' := by
  subst h
  have h1 : decide (0 < v) = false := decide_eq_false hv
  go_enter Try.func23, Try.ntmps23
  go_wp2
  go_ret
  exact ⟨rfl, below_box _ _⟩
theorem strands_any (b : Bk) (w : World) : Calls Try.prog 23 #[.agg #[.int .i64 b.st, .int .i64 b.va, .int .i64 b.wo]] w fun e w' => e = .returned (.bool (decide (strands b))) ∧ Below w.heap.size w w' := by
  by_cases h : b.st = 3
  · by_cases h2 : 0 < b.va
    · rw [decide_eq_true (show strands b from ⟨h, h2⟩)]; exact strands_yes _ _ _ h h2 w
    · rw [decide_eq_false (fun hs : strands b => h2 hs.2)]; exact strands_no2 _ _ _ h h2 w
  · rw [decide_eq_false (fun hs : strands b => h hs.1)]; exact strands_no1 _ _ _ h w
theorem nan_no (x : Int) (w : World) : Calls Try.prog 28 #[.int .i64 x] w fun e w' => e = .returned (.bool false) ∧ w = w' := by
  have h1 : (x != x) = false := by simp
  go_enter Try.func28, Try.ntmps28
  go_wp2
  go_ret
  exact ⟨rfl, rfl⟩
theorem cmp_lt (x y : Int) (h : x < y) (w : World) : Calls Try.prog 25 #[.int .i64 x, .int .i64 y] w fun e w' => e = .returned (.int .i64 (-1)) ∧ w = w' := by
  have H1 := Lib.hid (nan_no x)
  have H2 := Lib.hid (nan_no y)
  go_enter Try.func25, Try.ntmps25
  go_wp2_with fail
  refine (H1.out _).mono ?_
  rintro r w1 ⟨rfl, rfl⟩
  go_wp2_with fail
  refine (H2.out _).mono ?_
  rintro r w1 ⟨rfl, rfl⟩
  go_wp2
  go_ret
  exact ⟨rfl, rfl⟩
theorem cmp_gt (x y : Int) (h : y < x) (w : World) : Calls Try.prog 25 #[.int .i64 x, .int .i64 y] w fun e w' => e = .returned (.int .i64 (1)) ∧ w = w' := by
  have H1 := Lib.hid (nan_no x)
  have H2 := Lib.hid (nan_no y)
  have h1 : decide (x < y) = false := decide_eq_false (by omega)
  go_enter Try.func25, Try.ntmps25
  go_wp2_with fail
  refine (H1.out _).mono ?_
  rintro r w1 ⟨rfl, rfl⟩
  go_wp2_with fail
  refine (H2.out _).mono ?_
  rintro r w1 ⟨rfl, rfl⟩
  go_wp2
  go_ret
  exact ⟨rfl, rfl⟩
theorem cmp_eq (x y : Int) (h : x = y) (w : World) : Calls Try.prog 25 #[.int .i64 x, .int .i64 y] w fun e w' => e = .returned (.int .i64 (0)) ∧ w = w' := by
  have H1 := Lib.hid (nan_no x)
  have H2 := Lib.hid (nan_no y)
  subst h
  have h1 : decide (x < x) = false := decide_eq_false (by omega)
  go_enter Try.func25, Try.ntmps25
  go_wp2_with fail
  refine (H1.out _).mono ?_
  rintro r w1 ⟨rfl, rfl⟩
  go_wp2_with fail
  refine (H2.out _).mono ?_
  rintro r w1 ⟨rfl, rfl⟩
  go_wp2
  go_ret
  exact ⟨rfl, rfl⟩
theorem cmp_any (x y : Int) (w : World) : Calls Try.prog 25 #[.int .i64 x, .int .i64 y] w fun e w' => e = .returned (.int .i64 (cmp x y)) ∧ w = w' := by
  unfold cmp
  by_cases h : x < y
  · rw [if_pos h]; exact cmp_lt x y h w
  · rw [if_neg h]
    by_cases h2 : y < x
    · rw [if_pos h2]; exact cmp_gt x y h2 w
    · rw [if_neg h2]; exact cmp_eq x y (by omega) w

/-- Two blocks' boxes. -/
structure W2 (H : Nat) (s v k s2 v2 k2 : Int) (w w' : World) : Prop where
  a : Blk w' H 33 #[.int .i64 s, .int .i64 v, .int .i64 k]
  b : Blk w' (H + 1) 33 #[.int .i64 s2, .int .i64 v2, .int .i64 k2]
  bel : Below H w w'
theorem W2.below {H : Nat} {s v k s2 v2 k2 : Int} {w w1 w2 : World} (h : W2 H s v k s2 v2 k2 w w1) (hb : Below w1.heap.size w1 w2) : W2 H s v k s2 v2 k2 w w2 := ⟨h.a.below hb h.a.lt, h.b.below hb h.b.lt, h.bel.trans (hb.mono (Nat.le_of_lt h.a.lt))⟩
set_option maxHeartbeats 1000000 in
theorem byWorn_any (s v k s2 v2 k2 : Int) (w : World) : Calls Try.prog 16 #[.agg #[.int .i64 s, .int .i64 v, .int .i64 k], .agg #[.int .i64 s2, .int .i64 v2, .int .i64 k2]] w fun e w' => e = .returned (.int .i64 (cmpW ⟨s, v, k⟩ ⟨s2, v2, k2⟩)) ∧ Below w.heap.size w w' := by
  have H1 := Lib.hid (worn_any s v k)
  have H2 := Lib.hid (worn_any s2 v2 k2)
  have H3 := Lib.hid (cmp_any (wn ⟨s, v, k⟩) (wn ⟨s2, v2, k2⟩))
  have hc : cmpW ⟨s, v, k⟩ ⟨s2, v2, k2⟩ = cmp (wn ⟨s, v, k⟩) (wn ⟨s2, v2, k2⟩) := rfl
  rw [hc]
  obtain ⟨q1, h1⟩ : ∃ q, q = wn ⟨s, v, k⟩ := ⟨_, rfl⟩
  obtain ⟨q2, h2⟩ : ∃ q, q = wn ⟨s2, v2, k2⟩ := ⟨_, rfl⟩
  rw [← h1] at H1 H3 ⊢
  rw [← h2] at H2 H3 ⊢
  obtain ⟨q3, h3⟩ : ∃ q, q = cmp q1 q2 := ⟨_, rfl⟩
  rw [← h3] at H3 ⊢
  clear h1 h2 h3 hc
  obtain ⟨W, hW⟩ : ∃ W, W = (w.alloc (.cells #[.int .i64 s, .int .i64 v, .int .i64 k] 33)).alloc (.cells #[.int .i64 s2, .int .i64 v2, .int .i64 k2] 33) := ⟨_, rfl⟩
  obtain ⟨k1, k2', hb0⟩ := wbox_two w _ _ _ _ W hW
  have hI : W2 w.heap.size s v k s2 v2 k2 w W.drew := ⟨k1, k2', hb0.drew⟩
  have c0 := fun x : Wd (W2 w.heap.size s v k s2 v2 k2 w) => (wcells3 x.ok.a).1
  have c1 := fun x : Wd (W2 w.heap.size s v k s2 v2 k2 w) => (wcells3 x.ok.a).2.1
  have c2 := fun x : Wd (W2 w.heap.size s v k s2 v2 k2 w) => (wcells3 x.ok.a).2.2
  have d0 := fun x : Wd (W2 w.heap.size s v k s2 v2 k2 w) => (wcells3 x.ok.b).1
  have d1 := fun x : Wd (W2 w.heap.size s v k s2 v2 k2 w) => (wcells3 x.ok.b).2.1
  have d2 := fun x : Wd (W2 w.heap.size s v k s2 v2 k2 w) => (wcells3 x.ok.b).2.2
  have hNE : Nonempty (Wd (W2 w.heap.size s v k s2 v2 k2 w)) := ⟨⟨_, hI⟩⟩
  have HI := Lib.hid hI
  have HW := Lib.hid hW
  clear hW k1 k2' hb0 hI
  go_enter Try.func16, Try.ntmps16
  go_wp2
  rw [← HW.out]
  refine wp_region_inv (W2 w.heap.size s v k s2 v2 k2 w) (by kernel_rfl) (by kernel_rfl) HI.out ?_
  repeat (go_big_quiet_step (first | (go_at_call 26; with_reducible refine inv_call _ (fun _ _ => W2.below) (H1.out _)) | (go_at_call 26; with_reducible refine inv_call _ (fun _ _ => W2.below) (H2.out _)) | (go_at_call 25; with_reducible refine inv_call_same _ (H3.out _))))
  refine wpQuiet_nil ?_
  intro _ hw'
  obtain ⟨⟨w9, h9⟩, hw''⟩ := hw'
  subst hw''
  have H9 := Lib.hid h9.bel
  clear h9 c0 c1 c2 d0 d1 d2 HI
  go_wp2
  go_ret
  exact ⟨rfl, H9.out⟩
end WR
end Go.Proofs.Ytomncnelkkmalac
