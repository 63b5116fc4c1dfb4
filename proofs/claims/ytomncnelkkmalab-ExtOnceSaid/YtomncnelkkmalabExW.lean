/- What scorialaw07.awake answers. No condition. -/
import Derived.Test.YtomncnelkkmalabExT
namespace Go.Proofs.Ytomncnelkkmalab
open Go.RowKit
namespace EX
open MM
set_option linter.unusedVariables false
set_option linter.unusedSimpArgs false

def aw0 : List Ext := [⟨0, 10, 1, 0⟩]
def aw1 : List Ext := [⟨0, 3, 1, 0⟩, ⟨3, 2, 2, 7⟩, ⟨5, 5, 1, 0⟩]
def aw2 : List Ext := [⟨0, 3, 1, 0⟩, ⟨3, 1, 2, 7⟩, ⟨6, 4, 1, 0⟩]
theorem aw_over : over aw0 ⟨3, 2, 2, 7⟩ = aw1 := by decide +kernel
theorem aw_cut : cut aw1 4 2 = aw2 := by decide +kernel
theorem aw_v0 : Valid aw0 := by decide +kernel
theorem aw_v1 : Valid aw1 := by decide +kernel
theorem aw_one : One ⟨3, 2, 2, 7⟩ := by decide +kernel
theorem exs_at {w : World} {A : Option Addr} {l : List Ext} (h : Exs w A l) {j : Nat} {e : Ext} (he : l[j]? = some e) : ∃ b off, A = some ⟨b, off, none⟩ ∧ b < w.heap.size ∧ ∀ (i : Nat) (x : Ext), l[i]? = some x → Cells4 w b (off + i * 4) x := by
  rcases h with h | h
  · rw [h] at he; simp at he
  · exact h

set_option maxHeartbeats 4000000 in
theorem awake_any (w : World) : Calls Try.prog 12 #[] w fun r w' => r = .returned (.bool true) ∧ Below w.heap.size w w' := by
  obtain ⟨W, hW⟩ : ∃ W, W = w.alloc (.cells #[.int .i64 0, .int .i64 10, .int .i64 1, .int .i64 0] 24) := ⟨_, rfl⟩
  have hb0 : Below w.heap.size w W := by rw [hW]; exact below_box w _
  have hblk : Blk W w.heap.size 24 #[.int .i64 0, .int .i64 10, .int .i64 1, .int .i64 0] := by rw [hW]; exact Blk.new w _ _
  have hx0 : Exs W (some ⟨w.heap.size, 0, none⟩) aw0 := .inr ⟨w.heap.size, 0, rfl, hblk.lt, fun i e hi => by
    match i, hi with
    | 0, hi =>
      have : e = ⟨0, 10, 1, 0⟩ := by simpa [aw0] using hi.symm
      subst this
      exact ⟨hblk.cell 0, hblk.cell 1, hblk.cell 2, hblk.cell 3⟩
    | i + 1, hi => simp [aw0] at hi⟩
  have HOV : Hid (Calls Try.prog 9 #[.slice (some ⟨w.heap.size, 0, none⟩) 1 1, .agg #[.int .i64 3, .int .i64 2, .int .i64 2, .int .i64 7]] W (TupEnd aw1 W)) := by
    have h := over_yes aw0 1 1 rfl (by unfold maxLen; omega) (some ⟨w.heap.size, 0, none⟩) ⟨3, 2, 2, 7⟩ W hx0 aw_v0 aw_one
    rw [aw_over] at h
    exact Lib.hid h
  have HW := Lib.hid hW
  have HB0 := Lib.hid hb0
  clear hW hb0 hblk hx0
  go_enter Try.func12, Try.ntmps12
  go_wp2_with fail
  rw [← HW.out]
  refine HOV.out.mono ?_
  rintro r w1 ⟨A1, n1, c1, rfl, hn1, hx1, hb1⟩
  obtain rfl : n1 = 3 := hn1
  obtain ⟨b, off, rfl, hb, hc⟩ := exs_at hx1 (j := 0) (e := ⟨0, 3, 1, 0⟩) rfl
  have HCU := Lib.hid (cut_yes aw1 3 c1 rfl (by unfold maxLen; omega) (some ⟨b, off, none⟩) 4 2 w1 hx1 aw_v1 (by decide))
  rw [aw_cut] at HCU
  have HC := Lib.hid (hc 1 ⟨3, 2, 2, 7⟩ rfl)
  have HB1 := Lib.hid (below_kept HB0.out hb1)
  have HBB := Lib.hid hb
  clear hx1 hb1 hc HOV hb
  go_wp2_with fail
  refine HCU.out.mono ?_
  rintro r w2 ⟨A2, n2, c2, rfl, hn2, hx2, hb2⟩
  obtain rfl : n2 = 3 := hn2
  obtain ⟨b', off', rfl, hb', hc'⟩ := exs_at hx2 (j := 0) (e := ⟨0, 3, 1, 0⟩) rfl
  obtain ⟨p0, p1, p2, p3⟩ := HC.out.kept hb2 HBB.out
  obtain ⟨q0, q1, q2, q3⟩ := hc' 1 ⟨3, 1, 2, 7⟩ rfl
  obtain ⟨r0, r1, r2, r3⟩ := hc' 2 ⟨6, 4, 1, 0⟩ rfl
  simp only [Nat.one_mul] at p0 p1 p2 p3 q0 q1 q2 q3
  simp only [show 2 * 4 = 8 from rfl] at r0 r1 r2 r3
  have HB2 := Lib.hid (below_kept HB1.out hb2)
  clear hx2 hb2 hc' HCU hb' p0 p1 p2 r1 r2 r3
  go_wp2
  go_ret
  exact ⟨rfl, HB2.out⟩
end EX
end Go.Proofs.Ytomncnelkkmalab
