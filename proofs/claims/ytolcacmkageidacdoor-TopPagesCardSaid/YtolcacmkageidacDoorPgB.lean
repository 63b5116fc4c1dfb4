/- What page.mayBe and page.widths answer: of every page. No condition. -/
import Derived.Test.YtolcacmkageidacDoorPgA
namespace Go.Proofs.YtolcacmkageidacDoor
open Go.RowKit
namespace PG
open FM
set_option linter.unusedVariables false
set_option linter.unusedSimpArgs false

theorem below_box (w : World) (o : Obj) : Below w.heap.size w (w.alloc o) := (Below.refl _ _).alloc (Nat.le_refl _) _

set_option maxHeartbeats 1000000 in
theorem maybe_yes (p : Pg) (h : May p) (w : World) : Calls Tryd.prog 17 #[.agg #[.int .i64 p.kind, .int .i64 p.space, .int .i64 p.key, .int .i64 p.seq, .string p.body]] w fun e w' => e = .returned (.bool true) ∧ Below w.heap.size w w' := by
  obtain ⟨k, s, y, q, b⟩ := p
  obtain ⟨h1, h2, h3, h4, h5⟩ := h
  have hn := nm_good h1
  have HN := Lib.hid (name_any k)
  have HS := Lib.hid (within_yes s 65535 h2)
  have HY := Lib.hid (within_yes y 4294967295 h3)
  have HQ := Lib.hid (within_yes q 281474976710655 h4)
  have h5' : (b.size : Int) ≤ 100 := by have : b.size ≤ 100 := h5; omega
  obtain ⟨n, hnn⟩ : ∃ n, n = nm k := ⟨_, rfl⟩
  rw [← hnn] at hn HN
  clear h1 h2 h3 h4 h5 hnn
  go_enter Tryd.func17, Tryd.ntmps17
  go_wp2_with fail
  refine (HN.out _).mono ?_
  rintro e w1 ⟨rfl, rfl⟩
  go_wp2_with fail
  refine (HS.out _).mono ?_
  rintro e w1 ⟨rfl, rfl⟩
  go_wp2_with fail
  refine (HY.out _).mono ?_
  rintro e w1 ⟨rfl, rfl⟩
  go_wp2_with fail
  refine (HQ.out _).mono ?_
  rintro e w1 ⟨rfl, rfl⟩
  go_wp2
  go_ret
  refine ⟨?_, below_box _ _⟩
  show Ending.returned (.bool (!(n.toList == [63]))) = _
  rw [beq_eq_false_iff_ne.2 hn]
  rfl
set_option maxHeartbeats 2000000 in
theorem maybe_no (p : Pg) (h : ¬ May p) (w : World) : Calls Tryd.prog 17 #[.agg #[.int .i64 p.kind, .int .i64 p.space, .int .i64 p.key, .int .i64 p.seq, .string p.body]] w fun e w' => e = .returned (.bool false) ∧ Below w.heap.size w w' := by
  obtain ⟨k, s, y, q, b⟩ := p
  have HN := Lib.hid (name_any k)
  by_cases h1 : 1 ≤ k ∧ k ≤ 4
  · have hn := nm_good h1
    obtain ⟨n, hnn⟩ : ∃ n, n = nm k := ⟨_, rfl⟩
    rw [← hnn] at hn HN
    clear hnn
    by_cases h2 : 0 ≤ s ∧ s ≤ 65535
    · have HS := Lib.hid (within_yes s 65535 h2)
      by_cases h3 : 0 ≤ y ∧ y ≤ 4294967295
      · have HY := Lib.hid (within_yes y 4294967295 h3)
        by_cases h4 : 0 ≤ q ∧ q ≤ 281474976710655
        · have HQ := Lib.hid (within_yes q 281474976710655 h4)
          have h5' : ¬ (b.size : Int) ≤ 100 := fun h6 => h ⟨h1, h2, h3, h4, by show b.size ≤ 100; omega⟩
          clear h1 h2 h3 h4 h
          go_enter Tryd.func17, Tryd.ntmps17
          go_wp2_with fail
          refine (HN.out _).mono ?_
          rintro e w1 ⟨rfl, rfl⟩
          go_wp2_with fail
          refine (HS.out _).mono ?_
          rintro e w1 ⟨rfl, rfl⟩
          go_wp2_with fail
          refine (HY.out _).mono ?_
          rintro e w1 ⟨rfl, rfl⟩
          go_wp2_with fail
          refine (HQ.out _).mono ?_
          rintro e w1 ⟨rfl, rfl⟩
          go_wp2
          go_ret
          refine ⟨?_, below_box _ _⟩
          show Ending.returned (.bool (!(n.toList == [63]) && decide ((b.size : Int) ≤ 100))) = _
          rw [decide_eq_false (show ¬ (b.size : Int) ≤ 100 by omega), Bool.and_false]
        · have HQ := Lib.hid (within_no q 281474976710655 h4)
          clear h1 h2 h3 h4 h
          go_enter Tryd.func17, Tryd.ntmps17
          go_wp2_with fail
          refine (HN.out _).mono ?_
          rintro e w1 ⟨rfl, rfl⟩
          go_wp2_with fail
          refine (HS.out _).mono ?_
          rintro e w1 ⟨rfl, rfl⟩
          go_wp2_with fail
          refine (HY.out _).mono ?_
          rintro e w1 ⟨rfl, rfl⟩
          go_wp2_with fail
          refine (HQ.out _).mono ?_
          rintro e w1 ⟨rfl, rfl⟩
          go_wp2
          go_ret
          exact ⟨rfl, below_box _ _⟩
      · have HY := Lib.hid (within_no y 4294967295 h3)
        clear h1 h2 h3 h
        go_enter Tryd.func17, Tryd.ntmps17
        go_wp2_with fail
        refine (HN.out _).mono ?_
        rintro e w1 ⟨rfl, rfl⟩
        go_wp2_with fail
        refine (HS.out _).mono ?_
        rintro e w1 ⟨rfl, rfl⟩
        go_wp2_with fail
        refine (HY.out _).mono ?_
        rintro e w1 ⟨rfl, rfl⟩
        go_wp2
        go_ret
        exact ⟨rfl, below_box _ _⟩
    · have HS := Lib.hid (within_no s 65535 h2)
      clear h1 h2 h
      go_enter Tryd.func17, Tryd.ntmps17
      go_wp2_with fail
      refine (HN.out _).mono ?_
      rintro e w1 ⟨rfl, rfl⟩
      go_wp2_with fail
      refine (HS.out _).mono ?_
      rintro e w1 ⟨rfl, rfl⟩
      go_wp2
      go_ret
      exact ⟨rfl, below_box _ _⟩
  · rw [nm_bad h1] at HN
    clear h1 h
    go_enter Tryd.func17, Tryd.ntmps17
    go_wp2_with fail
    refine (HN.out _).mono ?_
    rintro e w1 ⟨rfl, rfl⟩
    go_wp2
    go_ret
    exact ⟨rfl, below_box _ _⟩

/-- A page's own cells stay. -/
theorem keepS (w : World) (k s y q : Int) (b : ByteArray) {w1 w2 : World} (h : w1.cell? ⟨w.heap.size, 0, none⟩ = some (.int .i64 k) ∧ w1.cell? ⟨w.heap.size, 1, none⟩ = some (.int .i64 s) ∧ w1.cell? ⟨w.heap.size, 2, none⟩ = some (.int .i64 y) ∧ w1.cell? ⟨w.heap.size, 3, none⟩ = some (.int .i64 q) ∧ w1.cell? ⟨w.heap.size, 4, none⟩ = some (.string b) ∧ w.heap.size < w1.heap.size ∧ Below w.heap.size w w1) (hb : Below w1.heap.size w1 w2) :
    w2.cell? ⟨w.heap.size, 0, none⟩ = some (.int .i64 k) ∧ w2.cell? ⟨w.heap.size, 1, none⟩ = some (.int .i64 s) ∧ w2.cell? ⟨w.heap.size, 2, none⟩ = some (.int .i64 y) ∧ w2.cell? ⟨w.heap.size, 3, none⟩ = some (.int .i64 q) ∧ w2.cell? ⟨w.heap.size, 4, none⟩ = some (.string b) ∧ w.heap.size < w2.heap.size ∧ Below w.heap.size w w2 := by
  obtain ⟨c0, c1, c2, c3, c4, hl, h⟩ := h
  exact ⟨(hb.cell (p := ⟨w.heap.size, 0, none⟩) hl).trans c0, (hb.cell (p := ⟨w.heap.size, 1, none⟩) hl).trans c1, (hb.cell (p := ⟨w.heap.size, 2, none⟩) hl).trans c2, (hb.cell (p := ⟨w.heap.size, 3, none⟩) hl).trans c3, (hb.cell (p := ⟨w.heap.size, 4, none⟩) hl).trans c4, Nat.lt_of_lt_of_le hl hb.size, h.trans (hb.mono h.size)⟩

/-- A page that was boxed. -/
theorem box_at (w : World) (k s y q : Int) (b : ByteArray) (t : TypeId) (w0 : World) (h : w0 = w.alloc (.cells #[.int .i64 k, .int .i64 s, .int .i64 y, .int .i64 q, .string b] t)) :
    w0.cell? ⟨w.heap.size, 0, none⟩ = some (.int .i64 k) ∧ w0.cell? ⟨w.heap.size, 1, none⟩ = some (.int .i64 s) ∧ w0.cell? ⟨w.heap.size, 2, none⟩ = some (.int .i64 y) ∧ w0.cell? ⟨w.heap.size, 3, none⟩ = some (.int .i64 q) ∧ w0.cell? ⟨w.heap.size, 4, none⟩ = some (.string b) ∧ w.heap.size < w0.heap.size ∧ Below w.heap.size w w0 := by
  have hc : ∀ i, w0.cell? ⟨w.heap.size, i, none⟩ = (#[Value.int .i64 k, .int .i64 s, .int .i64 y, .int .i64 q, .string b] : Array Value)[i]? := fun i => by rw [h]; exact World.cell?_alloc_new _ _ _ _
  exact ⟨hc 0, hc 1, hc 2, hc 3, hc 4, by rw [h]; simp, by rw [h]; exact below_box w _⟩

/-- The widths of a page's row. -/
def Wd : Nat → Int
  | 0 => 1
  | 1 => 2
  | 2 => 4
  | 3 => 6
  | _ => 1
theorem wd_ok : ∀ i, i < 5 → ¬ Bad (Wd i) := by
  intro i hi
  obtain rfl | rfl | rfl | rfl | rfl : i = 0 ∨ i = 1 ∨ i = 2 ∨ i = 3 ∨ i = 4 := by omega
  all_goals (intro h; rcases h with h | h <;> exact absurd h (by decide))
/-- A row of five numbers that was made just now. -/
theorem row5 (k : IntKind) (w : World) (t : TypeId) (a b c d e : Int) (Z : Nat → Int) (h0 : Z 0 = a) (h1 : Z 1 = b) (h2 : Z 2 = c) (h3 : Z 3 = d) (h4 : Z 4 = e) :
    Row k (w.alloc (.cells #[.int k a, .int k b, .int k c, .int k d, .int k e] t)) (some ⟨w.heap.size, 0, none⟩) 5 Z := by
  refine .inr ⟨_, 0, rfl, by simp, fun i hi => ?_⟩
  obtain rfl | rfl | rfl | rfl | rfl : i = 0 ∨ i = 1 ∨ i = 2 ∨ i = 3 ∨ i = 4 := by omega
  · rw [h0]; exact World.cell?_alloc_new _ _ _ _
  · rw [h1]; exact World.cell?_alloc_new _ _ _ _
  · rw [h2]; exact World.cell?_alloc_new _ _ _ _
  · rw [h3]; exact World.cell?_alloc_new _ _ _ _
  · rw [h4]; exact World.cell?_alloc_new _ _ _ _
theorem widths_any (w : World) : Calls Tryd.prog 19 #[] w fun e w' => e = .returned (.slice (some ⟨w.heap.size, 0, none⟩) 5 5) ∧ Row .i64 w' (some ⟨w.heap.size, 0, none⟩) 5 Wd ∧ Below w.heap.size w w' := by
  go_enter Tryd.func19, Tryd.ntmps19
  go_wp2
  go_ret
  exact ⟨rfl, row5 _ _ _ _ _ _ _ _ _ rfl rfl rfl rfl rfl, below_box _ _⟩
end PG
end Go.Proofs.YtolcacmkageidacDoor
