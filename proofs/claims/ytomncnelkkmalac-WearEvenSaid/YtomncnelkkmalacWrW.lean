/- What scorialaw08.awake answers. No condition. -/
import Derived.Test.YtomncnelkkmalacWrN
namespace Go.Proofs.Ytomncnelkkmalac
open Go.RowKit
namespace WR
open MM
set_option linter.unusedVariables false
set_option linter.unusedSimpArgs false

def aw0 : List Bk := [⟨0, 0, 2⟩, ⟨0, 0, 1⟩, ⟨0, 0, 1⟩]
def aw1 : List Bk := [⟨2, 3, 0⟩, ⟨2, 0, 0⟩, ⟨3, 2, 0⟩]
theorem aw_pick : Least isFree LtW aw0 3 1 := .inr ⟨1, ⟨0, 0, 1⟩, rfl, by omega, rfl, rfl, fun i x hi hx hp => by
  have : i = 0 ∨ i = 1 ∨ i = 2 := by omega
  rcases this with rfl | rfl | rfl <;> (simp [aw0] at hx; subst hx; simp [LtW, wn]), fun i x hi hx hp => by
  obtain rfl : i = 0 := by omega
  simp [aw0] at hx; subst hx; simp [LtW, wn]⟩
theorem aw_vic : Vic aw1 3 2 := ⟨2, .inr ⟨2, ⟨3, 2, 0⟩, rfl, by omega, rfl, by simp [strands], fun i x hi hx => by
  have : i = 0 ∨ i = 1 := by omega
  rcases this with rfl | rfl <;> (simp [aw1] at hx; subst hx; simp [strands])⟩, fun _ => rfl, fun h => by omega⟩
theorem aw_none : Least isFree LtW [] 0 (-1) := least_zero _ _ _

set_option maxHeartbeats 4000000 in
theorem awake_any (w : World) : Calls Try.prog 6 #[] w fun r w' => r = .returned (.bool true) ∧ Below w.heap.size w w' := by
  obtain ⟨W, hW⟩ : ∃ W, W = w.alloc (.cells #[.int .i64 0, .int .i64 0, .int .i64 2, .int .i64 0, .int .i64 0, .int .i64 1, .int .i64 0, .int .i64 0, .int .i64 1] 33) := ⟨_, rfl⟩
  have hb0 : Below w.heap.size w W := by rw [hW]; exact below_box w _
  have hblk0 : Blk W w.heap.size 33 #[.int .i64 0, .int .i64 0, .int .i64 2, .int .i64 0, .int .i64 0, .int .i64 1, .int .i64 0, .int .i64 0, .int .i64 1] := by rw [hW]; exact Blk.new w _ _
  have hx0 : Bks W (some ⟨w.heap.size, 0, none⟩) aw0 := .inr ⟨w.heap.size, 0, rfl, hblk0.lt, fun i e hi => by
    match i, hi with
    | 0, hi =>
      have : e = ⟨0, 0, 2⟩ := by simpa [aw0] using hi.symm
      subst this
      exact ⟨hblk0.cell 0, hblk0.cell 1, hblk0.cell 2⟩
    | 1, hi =>
      have : e = ⟨0, 0, 1⟩ := by simpa [aw0] using hi.symm
      subst this
      exact ⟨hblk0.cell 3, hblk0.cell 4, hblk0.cell 5⟩
    | 2, hi =>
      have : e = ⟨0, 0, 1⟩ := by simpa [aw0] using hi.symm
      subst this
      exact ⟨hblk0.cell 6, hblk0.cell 7, hblk0.cell 8⟩
    | i + 3, hi => simp [aw0] at hi⟩
  have HPI := Lib.hid (pick_any aw0 3 3 rfl (by omega) (some ⟨w.heap.size, 0, none⟩) W hx0)
  have HPN := Lib.hid (fun w1 => pick_any [] 0 0 rfl (by omega) none w1 (.inl rfl))
  have HVI : Hid (∀ (w1 W1 : World), W1 = w1.alloc (.cells #[.int .i64 2, .int .i64 3, .int .i64 0, .int .i64 2, .int .i64 0, .int .i64 0, .int .i64 3, .int .i64 2, .int .i64 0] 33) → Calls Try.prog 13 #[.slice (some ⟨w1.heap.size, 0, none⟩) 3 3] W1 fun r w' => ∃ q : Int, r = .returned (.int .i64 q) ∧ Vic aw1 3 q ∧ Below w1.heap.size w1 w') := Lib.hid (by
    intro w1 W1 hW1
    have hb1 : Below w1.heap.size w1 W1 := by rw [hW1]; exact below_box w1 _
    have hblk1 : Blk W1 w1.heap.size 33 #[.int .i64 2, .int .i64 3, .int .i64 0, .int .i64 2, .int .i64 0, .int .i64 0, .int .i64 3, .int .i64 2, .int .i64 0] := by rw [hW1]; exact Blk.new w1 _ _
    have hx1 : Bks W1 (some ⟨w1.heap.size, 0, none⟩) aw1 := .inr ⟨w1.heap.size, 0, rfl, hblk1.lt, fun i e hi => by
      match i, hi with
      | 0, hi =>
        have : e = ⟨2, 3, 0⟩ := by simpa [aw1] using hi.symm
        subst this
        exact ⟨hblk1.cell 0, hblk1.cell 1, hblk1.cell 2⟩
      | 1, hi =>
        have : e = ⟨2, 0, 0⟩ := by simpa [aw1] using hi.symm
        subst this
        exact ⟨hblk1.cell 3, hblk1.cell 4, hblk1.cell 5⟩
      | 2, hi =>
        have : e = ⟨3, 2, 0⟩ := by simpa [aw1] using hi.symm
        subst this
        exact ⟨hblk1.cell 6, hblk1.cell 7, hblk1.cell 8⟩
      | i + 3, hi => simp [aw1] at hi⟩
    exact (victim_any aw1 3 3 rfl (by omega) (some ⟨w1.heap.size, 0, none⟩) W1 hx1).mono fun r w' ⟨q, h1, h2, h3⟩ => ⟨q, h1, h2, below_kept hb1 h3⟩)
  have HW := Lib.hid hW
  have HB0 := Lib.hid hb0
  clear hW hb0 hblk0 hx0
  go_enter Try.func6, Try.ntmps6
  go_wp2_with fail
  rw [← HW.out]
  refine HPI.out.mono ?_
  rintro r w1 ⟨q, rfl, hq, hb1⟩
  obtain rfl := least_uniq hq aw_pick
  have HB1 := Lib.hid (below_kept HB0.out hb1)
  clear hq hb1 HPI
  go_wp2_with fail
  refine (HVI.out w1 _ rfl).mono ?_
  rintro r w2 ⟨q, rfl, hq, hb2⟩
  obtain rfl := vic_uniq hq aw_vic
  have HB2 := Lib.hid (below_kept HB1.out hb2)
  clear hq hb2 HVI
  go_wp2_with fail
  refine (HPN.out _).mono ?_
  rintro r w3 ⟨q, rfl, hq, hb3⟩
  obtain rfl := least_uniq hq aw_none
  have HB3 := Lib.hid (below_kept HB2.out hb3)
  clear hq hb3 HPN
  go_wp2
  go_ret
  exact ⟨rfl, HB3.out⟩
end WR
end Go.Proofs.Ytomncnelkkmalac
