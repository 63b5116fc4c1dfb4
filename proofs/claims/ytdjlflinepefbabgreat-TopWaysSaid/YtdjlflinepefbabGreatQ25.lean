/- What package ext's Joined, follows and Check answer, of any extents and any list. No condition but those that each theorem names. -/
import Derived.Test.YtdjlflinepefbabGreatQ24
import Derived.Test.YtdjlflinepefbabGreatQ02

namespace Go.Proofs.YtdjlflinepefbabGreat
open Go.RowKit
namespace EX
open MM
set_option linter.unusedVariables false
set_option linter.unusedSimpArgs false

theorem one_any (e : Ext) (hw : WfE e) (w : World) : Calls Tryz.prog 49 #[.agg #[.int .i64 e.from_, .int .i64 e.n, .int .i64 e.kind, .int .i64 e.at_]] w fun r w' => r = .returned (.bool (decide (One e))) ∧ Below w.heap.size w w' := by
  by_cases h : One e
  · rw [decide_eq_true h]; exact one_yes _ _ _ _ h w
  · rw [decide_eq_false h]; exact one_no _ _ _ _ hw h w
theorem joined_no (a b : Ext) (ha : WfE a) (hb : WfE b) (h : ¬ (One a ∧ One b ∧ Tog a b)) (w : World) :
    Calls Tryz.prog 102 #[.agg #[.int .i64 a.from_, .int .i64 a.n, .int .i64 a.kind, .int .i64 a.at_], .agg #[.int .i64 b.from_, .int .i64 b.n, .int .i64 b.kind, .int .i64 b.at_]] w fun e w' => e = .returned (.tuple #[.agg #[.int .i64 0, .int .i64 0, .int .i64 0, .int .i64 0], .bool false]) ∧ Below w.heap.size w w' := by
  by_cases h1 : One a
  · have HA := Lib.hid (one_yes _ _ _ _ h1)
    by_cases h2 : One b
    · have HB := Lib.hid (one_yes _ _ _ _ h2)
      have h3 : ¬ Tog a b := fun h3 => h ⟨h1, h2, h3⟩
      have := h1.low; have := h1.high; have := h1.pos; have := h1.lt
      have hk := h1.2
      have hkb := h2.2
      have HE := Lib.hid (fun w => end_any a.from_ a.n a.kind a.at_ (by omega) (by unfold fin at *; omega) (by omega) (by unfold fin at *; omega) w)
      have HS := Lib.hid (fun w => stretch_any a.from_ a.n a.kind a.at_ (a.from_ + a.n) b.n h1.low (by omega) (by omega) (by unfold fin at *; omega) (by omega) (by omega) w)
      have hp : (page ⟨a.from_, a.n, a.kind, a.at_⟩ (a.from_ + a.n)) = if a.kind = 2 then a.at_ + (a.from_ + a.n) - a.from_ else 0 := rfl
      unfold Tog fin at h3
      obtain ⟨bf, bn, bk, bt⟩ := b
      simp only at h3 hkb ⊢
      by_cases e1 : bf = a.from_ + a.n
      · subst e1
        by_cases e2 : bk = a.kind
        · subst e2
          have e3 : ¬ bt = page ⟨a.from_, a.n, a.kind, a.at_⟩ (a.from_ + a.n) := by
            intro e3
            rw [hp] at e3
            refine h3 ⟨rfl, rfl, fun hk2 => ?_⟩
            rw [if_pos hk2] at e3
            omega
          exact joined_f3 _ _ _ _ 0 _ 0 _ _ _ HA HB HE HS e3 w
        · exact joined_f2 _ _ _ _ 0 _ _ _ _ _ HA HB HE HS e2 w
      · exact joined_f1 _ _ _ _ _ _ _ _ _ _ HA HB HE HS e1 w
    · exact joined_b _ _ _ _ _ _ _ _ HA (Lib.hid (one_no _ _ _ _ hb h2)) w
  · exact joined_a _ _ _ _ _ _ _ _ (Lib.hid (one_no _ _ _ _ ha h1)) w
theorem joined_ok (a b : Ext) (h1 : One a) (h2 : One b) (h3 : Tog a b) (w : World) :
    Calls Tryz.prog 102 #[.agg #[.int .i64 a.from_, .int .i64 a.n, .int .i64 a.kind, .int .i64 a.at_], .agg #[.int .i64 b.from_, .int .i64 b.n, .int .i64 b.kind, .int .i64 b.at_]] w fun e w' => e = .returned (.tuple #[.agg #[.int .i64 a.from_, .int .i64 (a.n + b.n), .int .i64 a.kind, .int .i64 a.at_], .bool true]) ∧ Below w.heap.size w w' := by
  have HA := Lib.hid (one_yes _ _ _ _ h1)
  have HB := Lib.hid (one_yes _ _ _ _ h2)
  have := h1.low; have := h1.high; have := h1.pos; have := h1.lt
  have := h2.high; have := h2.pos; have := h2.low
  have hk := h1.2
  have hkb := h2.2
  have HE := Lib.hid (fun w => end_any a.from_ a.n a.kind a.at_ (by omega) (by unfold fin at *; omega) (by omega) (by unfold fin at *; omega) w)
  have HS := Lib.hid (fun w => stretch_any a.from_ a.n a.kind a.at_ (a.from_ + a.n) b.n h1.low (by omega) (by omega) (by unfold fin at *; omega) (by omega) (by omega) w)
  have HJ := Lib.hid (fun w => stretch_any a.from_ a.n a.kind a.at_ a.from_ (a.n + b.n) h1.low (by omega) (by omega) (by unfold fin at *; omega) (by omega) (by omega) w)
  have hp : (page ⟨a.from_, a.n, a.kind, a.at_⟩ (a.from_ + a.n)) = b.at_ := by
    show (if a.kind = 2 then a.at_ + (a.from_ + a.n) - a.from_ else 0) = _
    have e2 := h3.2.1
    have e3 := h3.2.2
    split <;> omega
  have hq : (page ⟨a.from_, a.n, a.kind, a.at_⟩ a.from_) = a.at_ := by
    show (if a.kind = 2 then a.at_ + a.from_ - a.from_ else 0) = _
    split <;> omega
  have e1 : b.from_ = a.from_ + a.n := h3.1
  have e2 : a.kind = b.kind := h3.2.1
  rw [hp] at HS
  rw [hq] at HJ
  rw [e1, ← e2] at HB ⊢
  exact joined_yes _ _ _ _ 0 _ 0 0 _ _ (by unfold fin at *; omega) (by omega) (by omega) (by unfold fin at *; omega) HA HB HE HS HJ w

/-- What follows has boxed. -/
structure Fo (H : Nat) (f n k t g m l u : Int) (w w' : World) : Prop where
  a : Blk w' H 41 (c4 f n k t)
  b : Blk w' (H + 1) 41 (c4 g m l u)
  bel : Below H w w'
theorem Fo.below {H : Nat} {f n k t g m l u : Int} {w w1 w2 : World} (h : Fo H f n k t g m l u w w1) (hb : Below w1.heap.size w1 w2) : Fo H f n k t g m l u w w2 :=
  ⟨h.a.below hb h.a.lt, h.b.below hb h.b.lt, h.bel.trans (hb.mono (Nat.le_of_lt h.a.lt))⟩
theorem Fo.cells {H : Nat} {f n k t g m l u : Int} {w : World} (x : Wd (Fo H f n k t g m l u w)) :
    ((x.w.cell? ⟨H, 0, none⟩ = some (.int .i64 f) ∧ x.w.cell? ⟨H, 1, none⟩ = some (.int .i64 n) ∧ x.w.cell? ⟨H, 2, none⟩ = some (.int .i64 k) ∧ x.w.cell? ⟨H, 3, none⟩ = some (.int .i64 t)) ∧
    (x.w.cell? ⟨H + 1, 0, none⟩ = some (.int .i64 g) ∧ x.w.cell? ⟨H + 1, 1, none⟩ = some (.int .i64 m) ∧ x.w.cell? ⟨H + 1, 2, none⟩ = some (.int .i64 l) ∧ x.w.cell? ⟨H + 1, 3, none⟩ = some (.int .i64 u))) :=
  ⟨(cells4 x.ok.a).1, (cells4 x.ok.b).1⟩
set_option maxHeartbeats 4000000 in
theorem follows_t (f n k t g m l u x0 x1 x2 x3 E : Int) (v : Bool) (hle : E ≤ g) (HJ : Hid (∀ w, Calls Tryz.prog 102 #[.agg #[.int .i64 f, .int .i64 n, .int .i64 k, .int .i64 t], .agg #[.int .i64 g, .int .i64 m, .int .i64 l, .int .i64 u]] w fun e w' => e = .returned (.tuple #[.agg #[.int .i64 x0, .int .i64 x1, .int .i64 x2, .int .i64 x3], .bool v]) ∧ Below w.heap.size w w')) (HE : Hid (∀ w, Calls Tryz.prog 72 #[.agg #[.int .i64 f, .int .i64 n, .int .i64 k, .int .i64 t]] w fun e w' => e = .returned (.int .i64 E) ∧ Below w.heap.size w w')) (w : World) :
    Calls Tryz.prog 77 #[.agg #[.int .i64 f, .int .i64 n, .int .i64 k, .int .i64 t], .agg #[.int .i64 g, .int .i64 m, .int .i64 l, .int .i64 u]] w fun e w' => e = .returned (.bool (!v)) ∧ Below w.heap.size w w' := by
  obtain ⟨W, hW⟩ : ∃ W, W = (w.alloc (.cells #[.int .i64 f, .int .i64 n, .int .i64 k, .int .i64 t] 41)).alloc (.cells #[.int .i64 g, .int .i64 m, .int .i64 l, .int .i64 u] 41) := ⟨_, rfl⟩
  obtain ⟨k1, k2, hb⟩ := box_two w _ _ _ _ W hW
  have h0 : Fo w.heap.size f n k t g m l u w W := ⟨k1, k2, hb⟩
  have H0 := Lib.hid h0
  have HW := Lib.hid hW
  clear hW k1 k2 hb h0
  skip
  go_enter Tryz.func77, Tryz.ntmps77
  go_wp2_with fail
  rw [← HW.out]
  refine (HJ.out _).mono ?_
  rintro e w5 ⟨rfl, hb5⟩
  have h5 := H0.out.below hb5
  have H5 := Lib.hid h5
  clear hb5 h5
  go_wp2
  have hI : Fo w.heap.size f n k t g m l u w ((w5.alloc (.cells #[.int .i64 x0, .int .i64 x1, .int .i64 x2, .int .i64 x3] 41)).drew) := (H5.out.below ((below_box w5 _).drew))
  have hc := fun x => Fo.cells (H := w.heap.size) (f := f) (n := n) (k := k) (t := t) (g := g) (m := m) (l := l) (u := u) (w := w) x
  have c0 := fun x => (hc x).1.1
  have c1 := fun x => (hc x).1.2.1
  have c2 := fun x => (hc x).1.2.2.1
  have c3 := fun x => (hc x).1.2.2.2
  have d0 := fun x => (hc x).2.1
  have HI := Lib.hid hI
  have hNE : Nonempty (Wd (Fo w.heap.size f n k t g m l u w)) := ⟨⟨_, hI⟩⟩
  clear hc hI
  refine wp_region_inv (Fo w.heap.size f n k t g m l u w) (by kernel_rfl) (by kernel_rfl) HI.out ?_
  repeat (go_big_quiet_step ((go_at_call 72; with_reducible refine inv_call _ (fun _ _ => Fo.below) (HE.out _))))
  refine wpQuiet_nil ?_
  intro _ hw'
  obtain ⟨⟨w9, h9⟩, hw''⟩ := hw'
  subst hw''
  have H9 := Lib.hid h9.bel
  clear h9 c0 c1 c2 c3 d0 HI HW H5
  go_wp2
  go_ret
  exact ⟨rfl, H9.out⟩
set_option maxHeartbeats 4000000 in
theorem follows_f (f n k t g m l u x0 x1 x2 x3 E : Int) (v : Bool) (hle : ¬ E ≤ g) (HJ : Hid (∀ w, Calls Tryz.prog 102 #[.agg #[.int .i64 f, .int .i64 n, .int .i64 k, .int .i64 t], .agg #[.int .i64 g, .int .i64 m, .int .i64 l, .int .i64 u]] w fun e w' => e = .returned (.tuple #[.agg #[.int .i64 x0, .int .i64 x1, .int .i64 x2, .int .i64 x3], .bool v]) ∧ Below w.heap.size w w')) (HE : Hid (∀ w, Calls Tryz.prog 72 #[.agg #[.int .i64 f, .int .i64 n, .int .i64 k, .int .i64 t]] w fun e w' => e = .returned (.int .i64 E) ∧ Below w.heap.size w w')) (w : World) :
    Calls Tryz.prog 77 #[.agg #[.int .i64 f, .int .i64 n, .int .i64 k, .int .i64 t], .agg #[.int .i64 g, .int .i64 m, .int .i64 l, .int .i64 u]] w fun e w' => e = .returned (.bool false) ∧ Below w.heap.size w w' := by
  obtain ⟨W, hW⟩ : ∃ W, W = (w.alloc (.cells #[.int .i64 f, .int .i64 n, .int .i64 k, .int .i64 t] 41)).alloc (.cells #[.int .i64 g, .int .i64 m, .int .i64 l, .int .i64 u] 41) := ⟨_, rfl⟩
  obtain ⟨k1, k2, hb⟩ := box_two w _ _ _ _ W hW
  have h0 : Fo w.heap.size f n k t g m l u w W := ⟨k1, k2, hb⟩
  have H0 := Lib.hid h0
  have HW := Lib.hid hW
  clear hW k1 k2 hb h0
  have hlf : decide (E ≤ g) = false := decide_eq_false hle
  go_enter Tryz.func77, Tryz.ntmps77
  go_wp2_with fail
  rw [← HW.out]
  refine (HJ.out _).mono ?_
  rintro e w5 ⟨rfl, hb5⟩
  have h5 := H0.out.below hb5
  have H5 := Lib.hid h5
  clear hb5 h5
  go_wp2
  have hI : Fo w.heap.size f n k t g m l u w ((w5.alloc (.cells #[.int .i64 x0, .int .i64 x1, .int .i64 x2, .int .i64 x3] 41)).drew) := (H5.out.below ((below_box w5 _).drew))
  have hc := fun x => Fo.cells (H := w.heap.size) (f := f) (n := n) (k := k) (t := t) (g := g) (m := m) (l := l) (u := u) (w := w) x
  have c0 := fun x => (hc x).1.1
  have c1 := fun x => (hc x).1.2.1
  have c2 := fun x => (hc x).1.2.2.1
  have c3 := fun x => (hc x).1.2.2.2
  have d0 := fun x => (hc x).2.1
  have HI := Lib.hid hI
  have hNE : Nonempty (Wd (Fo w.heap.size f n k t g m l u w)) := ⟨⟨_, hI⟩⟩
  clear hc hI
  refine wp_region_inv (Fo w.heap.size f n k t g m l u w) (by kernel_rfl) (by kernel_rfl) HI.out ?_
  repeat (go_big_quiet_step ((go_at_call 72; with_reducible refine inv_call _ (fun _ _ => Fo.below) (HE.out _))))
  refine wpQuiet_nil ?_
  intro _ hw'
  obtain ⟨⟨w9, h9⟩, hw''⟩ := hw'
  subst hw''
  have H9 := Lib.hid h9.bel
  clear h9 c0 c1 c2 c3 d0 HI HW H5
  go_wp2
  go_ret
  exact ⟨rfl, H9.out⟩
theorem follows_any (a b : Ext) (h1 : One a) (h2 : One b) (w : World) :
    Calls Tryz.prog 77 #[.agg #[.int .i64 a.from_, .int .i64 a.n, .int .i64 a.kind, .int .i64 a.at_], .agg #[.int .i64 b.from_, .int .i64 b.n, .int .i64 b.kind, .int .i64 b.at_]] w fun e w' => e = .returned (.bool (decide (Bef a b ∧ ¬ Tog a b))) ∧ Below w.heap.size w w' := by
  have := h1.low; have := h1.high; have := h1.pos; have := h1.lt
  have HE := Lib.hid (fun w => end_any a.from_ a.n a.kind a.at_ (by omega) (by unfold fin at *; omega) (by omega) (by unfold fin at *; omega) w)
  by_cases h3 : Tog a b
  · have hd : decide (Bef a b ∧ ¬ Tog a b) = false := decide_eq_false fun h => h.2 h3
    rw [hd]
    have HJ := Lib.hid (joined_ok a b h1 h2 h3)
    by_cases hle : a.from_ + a.n ≤ b.from_
    · exact follows_t _ _ _ _ _ _ _ _ _ _ _ _ _ true hle HJ HE w
    · exact follows_f _ _ _ _ _ _ _ _ _ _ _ _ _ true hle HJ HE w
  · have HJ := Lib.hid (joined_no a b h1.wf h2.wf (fun h => h3 h.2.2))
    by_cases hle : a.from_ + a.n ≤ b.from_
    · have hd : decide (Bef a b ∧ ¬ Tog a b) = true := decide_eq_true ⟨hle, h3⟩
      rw [hd]
      exact follows_t _ _ _ _ _ _ _ _ _ _ _ _ _ false hle HJ HE w
    · have hd : decide (Bef a b ∧ ¬ Tog a b) = false := decide_eq_false fun h => hle h.1
      rw [hd]
      exact follows_f _ _ _ _ _ _ _ _ _ _ _ _ _ false hle HJ HE w
end EX
end Go.Proofs.YtdjlflinepefbabGreat
