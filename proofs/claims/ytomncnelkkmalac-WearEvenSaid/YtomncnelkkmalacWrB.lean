/- What cmp.Or and package wear's byValid answer. No condition. -/
import Derived.Test.YtomncnelkkmalacWrA
namespace Go.Proofs.Ytomncnelkkmalac
open Go.RowKit
namespace WR
open MM
set_option linter.unusedVariables false
set_option linter.unusedSimpArgs false

def two (x y : Int) : Int := if x = 0 then y else x
theorem or_any (x y : Int) (c : Nat) (b o : Nat) (w : World) (h0 : w.cell? ⟨b, o, none⟩ = some (.int .i64 x)) (h1 : w.cell? ⟨b, o + 1, none⟩ = some (.int .i64 y)) : Calls Try.prog 27 #[.slice (some ⟨b, o, none⟩) 2 c] w fun e w' => e = .returned (.int .i64 (two x y)) ∧ w = w' := by
  obtain ⟨z, hz⟩ : ∃ z, z = two x y := ⟨_, rfl⟩
  have z0 : x = 0 → z = y := fun h => by rw [hz]; exact if_pos h
  have z1 : ¬ x = 0 → z = x := fun h => by rw [hz]; exact if_neg h
  rw [← hz]
  have HZ := Lib.hid (And.intro z0 z1)
  have C0 := Lib.hid h0
  have C1 := Lib.hid h1
  clear hz z0 z1 h0 h1
  go_enter Try.func27, Try.ntmps27
  go_wp2
  go_loopw [8] (fun i wr => (i = .int .i64 0 ∨ (i = .int .i64 1 ∧ Hid (x = 0)) ∨ (i = .int .i64 2 ∧ Hid (x = 0 ∧ y = 0))) ∧ w = wr) (fun i _ => 2 - (intOf i).toNat)
  case atStart => exact ⟨.inl rfl, rfl⟩
  case round =>
    obtain ⟨hi, rfl⟩ := hrel
    rcases hi with rfl | ⟨rfl, hx⟩ | ⟨rfl, hxy⟩
    · have q0 := C0.out
      by_cases hx : x = 0
      · have hx' : (x == 0) = true := by simpa using hx
        have HX := Lib.hid hx
        clear hx
        go_wp2
        go_roundw
        case rel => exact ⟨.inr (.inl ⟨rfl, HX⟩), by first | trivial | rfl⟩
        case measure => simp [intOf]
      · have hx' : (x == 0) = false := by simpa using hx
        obtain rfl := HZ.out.2 hx
        clear hx
        go_wp2
        go_ret
        exact ⟨rfl, rfl⟩
    · have q1 := C1.out
      by_cases hy : y = 0
      · have hy' : (y == 0) = true := by simpa using hy
        have HY := Lib.hid hy
        clear hy
        go_wp2
        go_roundw
        case rel => exact ⟨.inr (.inr ⟨rfl, Lib.hid ⟨hx.out, HY.out⟩⟩), by first | trivial | rfl⟩
        case measure => simp [intOf]
      · have hy' : (y == 0) = false := by simpa using hy
        obtain rfl := HZ.out.1 hx.out
        clear hy
        go_wp2
        go_ret
        exact ⟨rfl, rfl⟩
    · obtain ⟨hx, hy⟩ := hxy.out
      have hz : z = 0 := (HZ.out.1 hx).trans hy
      clear hx hy
      subst hz
      go_wp2
      go_ret
      exact ⟨rfl, rfl⟩
def S2 (H : Nat) (s v k s2 v2 k2 : Int) (w w' : World) : Prop := w'.cell? ⟨H, 0, none⟩ = some (.int .i64 s) ∧ w'.cell? ⟨H, 1, none⟩ = some (.int .i64 v) ∧ w'.cell? ⟨H, 2, none⟩ = some (.int .i64 k) ∧ w'.cell? ⟨H + 1, 0, none⟩ = some (.int .i64 s2) ∧ w'.cell? ⟨H + 1, 1, none⟩ = some (.int .i64 v2) ∧ w'.cell? ⟨H + 1, 2, none⟩ = some (.int .i64 k2) ∧ W2 H s v k s2 v2 k2 w w'
theorem s2_s {H : Nat} {s v k s2 v2 k2 : Int} {w w' : World} (h : W2 H s v k s2 v2 k2 w w') : w'.cell? ⟨H, 0, none⟩ = some (.int .i64 s) ∧ w'.cell? ⟨H, 1, none⟩ = some (.int .i64 v) ∧ w'.cell? ⟨H, 2, none⟩ = some (.int .i64 k) ∧ w'.cell? ⟨H + 1, 0, none⟩ = some (.int .i64 s2) ∧ w'.cell? ⟨H + 1, 1, none⟩ = some (.int .i64 v2) ∧ w'.cell? ⟨H + 1, 2, none⟩ = some (.int .i64 k2) ∧ W2 H s v k s2 v2 k2 w w' :=
  ⟨h.a.cell 0, h.a.cell 1, h.a.cell 2, h.b.cell 0, h.b.cell 1, h.b.cell 2, h⟩
theorem s2_of {H : Nat} {s v k s2 v2 k2 : Int} {w w' : World} (h : w'.cell? ⟨H, 0, none⟩ = some (.int .i64 s) ∧ w'.cell? ⟨H, 1, none⟩ = some (.int .i64 v) ∧ w'.cell? ⟨H, 2, none⟩ = some (.int .i64 k) ∧ w'.cell? ⟨H + 1, 0, none⟩ = some (.int .i64 s2) ∧ w'.cell? ⟨H + 1, 1, none⟩ = some (.int .i64 v2) ∧ w'.cell? ⟨H + 1, 2, none⟩ = some (.int .i64 k2) ∧ W2 H s v k s2 v2 k2 w w') : W2 H s v k s2 v2 k2 w w' := h.2.2.2.2.2.2
theorem new2 (w : World) (x y : Value) (t : TypeId) : (w.alloc (.cells #[x, y] t)).cell? ⟨w.heap.size, 0, none⟩ = some x ∧ (w.alloc (.cells #[x, y] t)).cell? ⟨w.heap.size, 0 + 1, none⟩ = some y := ⟨(Blk.new w t #[x, y]).cell 0, (Blk.new w t #[x, y]).cell 1⟩
set_option maxHeartbeats 4000000 in
theorem byValid_any (s v k s2 v2 k2 : Int) (w : World) : Calls Try.prog 24 #[.agg #[.int .i64 s, .int .i64 v, .int .i64 k], .agg #[.int .i64 s2, .int .i64 v2, .int .i64 k2]] w fun e w' => e = .returned (.int .i64 (cmpV ⟨s, v, k⟩ ⟨s2, v2, k2⟩)) ∧ Below w.heap.size w w' := by
  have H1 := Lib.hid (byWorn_any s v k s2 v2 k2)
  have H3 := Lib.hid (cmp_any v v2)
  obtain ⟨q1, h1⟩ : ∃ q, q = cmpW ⟨s, v, k⟩ ⟨s2, v2, k2⟩ := ⟨_, rfl⟩
  obtain ⟨q3, h3⟩ : ∃ q, q = cmp v v2 := ⟨_, rfl⟩
  have hc : cmpV ⟨s, v, k⟩ ⟨s2, v2, k2⟩ = two q3 q1 := by rw [h1, h3]; rfl
  rw [hc]
  rw [← h1] at H1
  rw [← h3] at H3
  have H4 := Lib.hid (or_any q3 q1)
  obtain ⟨q4, h4⟩ : ∃ q, q = two q3 q1 := ⟨_, rfl⟩
  rw [← h4] at H4 ⊢
  clear h1 h3 hc h4
  obtain ⟨W, hW⟩ : ∃ W, W = (w.alloc (.cells #[.int .i64 s, .int .i64 v, .int .i64 k] 33)).alloc (.cells #[.int .i64 s2, .int .i64 v2, .int .i64 k2] 33) := ⟨_, rfl⟩
  obtain ⟨k1, k2', hb0⟩ := wbox_two w _ _ _ _ W hW
  have hI : W2 w.heap.size s v k s2 v2 k2 w W.drew := ⟨k1, k2', hb0.drew⟩
  have HI := Lib.hid hI
  have HW := Lib.hid hW
  obtain ⟨c0, c1, c2, d0, d1, d2, _⟩ := s2_s hI
  clear hW k1 k2' hb0 hI
  go_enter Try.func24, Try.ntmps24
  go_wp2
  rw [← HW.out]
  have HSX := Lib.hid (s2_s HI.out)
  go_region_held3 (fun w' => w'.cell? ⟨w.heap.size, 0, none⟩ = some (.int .i64 s) ∧ w'.cell? ⟨w.heap.size, 1, none⟩ = some (.int .i64 v) ∧ w'.cell? ⟨w.heap.size, 2, none⟩ = some (.int .i64 k) ∧ w'.cell? ⟨w.heap.size + 1, 0, none⟩ = some (.int .i64 s2) ∧ w'.cell? ⟨w.heap.size + 1, 1, none⟩ = some (.int .i64 v2) ∧ w'.cell? ⟨w.heap.size + 1, 2, none⟩ = some (.int .i64 k2) ∧ W2 w.heap.size s v k s2 v2 k2 w w') (first | with_reducible exact HSX.out | with_reducible assumption | exact s2_s ((s2_of (by assumption)).below (below_box _ _))) (first | (go_at_call 16; (with_reducible refine (H1.out _).mono ?_); rintro r w11 ⟨rfl, hb11⟩; have hS11 := s2_s ((s2_of (by assumption)).below hb11)) | (go_at_call 25; (with_reducible refine (H3.out _).mono ?_); rintro r w12 ⟨rfl, hw12⟩; subst hw12) | (go_at_call 27; refine (H4.out _ _ _ _ (new2 _ _ _ _).1 (new2 _ _ _ _).2).mono ?_; rintro r w13 ⟨rfl, hw13⟩; subst hw13))
  rename_i hHL
  have B9 := Lib.hid (s2_of hHL).bel
  clear hHL hS11 HSX c0 c1 c2 d0 d1 d2
  go_wp2
  go_ret
  exact ⟨rfl, B9.out⟩
end WR
end Go.Proofs.Ytomncnelkkmalac
