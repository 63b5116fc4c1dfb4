/- What page.Newer and scoriaref05.Newer answer: of any two pages. No condition. -/
import Derived.Test.YtolcacmkageidaaPgRA
import Derived.Test.YtolcacmkageidaaCellR
import Derived.Deep.RegionHeld3
namespace Go.Proofs.Ytolcacmkageidaa
open Go.RowKit
namespace PG
open FM MM
set_option linter.unusedVariables false
set_option linter.unusedSimpArgs false

/-- Which page takes the place of which. -/
def Nw (a b : Pg) : Prop := May a ∧ May b ∧ a.kind = b.kind ∧ a.space = b.space ∧ a.key = b.key ∧ b.seq < a.seq
instance (a b : Pg) : Decidable (Nw a b) := by unfold Nw; infer_instance

theorem subject_any (k s y q : Int) (b : ByteArray) (w : World) : Calls Try.prog 29 #[.agg #[.int .i64 k, .int .i64 s, .int .i64 y, .int .i64 q, .string b]] w fun e w' => e = .returned (.agg #[.int .i64 k, .int .i64 s, .int .i64 y]) ∧ Below w.heap.size w w' := by
  go_enter Try.func29, Try.ntmps29
  go_wp2
  have HB : Hid (∀ a b : Obj, Below w.heap.size w ((w.alloc a).alloc b)) := fun a b => (below_box w a).alloc (by simp) b
  simp [bodyPost, results, Try.results29, go_sem]
  exact HB.out _ _

theorem keep2 (w : World) (k s y q k' s' y' q' : Int) (b b' : ByteArray) {w1 w2 : World} (h : w1.cell? ⟨w.heap.size, 0, none⟩ = some (.int .i64 k) ∧ w1.cell? ⟨w.heap.size, 1, none⟩ = some (.int .i64 s) ∧ w1.cell? ⟨w.heap.size, 2, none⟩ = some (.int .i64 y) ∧ w1.cell? ⟨w.heap.size, 3, none⟩ = some (.int .i64 q) ∧ w1.cell? ⟨w.heap.size, 4, none⟩ = some (.string b) ∧ w1.cell? ⟨w.heap.size + 1, 0, none⟩ = some (.int .i64 k') ∧ w1.cell? ⟨w.heap.size + 1, 1, none⟩ = some (.int .i64 s') ∧ w1.cell? ⟨w.heap.size + 1, 2, none⟩ = some (.int .i64 y') ∧ w1.cell? ⟨w.heap.size + 1, 3, none⟩ = some (.int .i64 q') ∧ w1.cell? ⟨w.heap.size + 1, 4, none⟩ = some (.string b') ∧ w.heap.size + 1 < w1.heap.size ∧ Below w.heap.size w w1) (hb : Below w1.heap.size w1 w2) :
    w2.cell? ⟨w.heap.size, 0, none⟩ = some (.int .i64 k) ∧ w2.cell? ⟨w.heap.size, 1, none⟩ = some (.int .i64 s) ∧ w2.cell? ⟨w.heap.size, 2, none⟩ = some (.int .i64 y) ∧ w2.cell? ⟨w.heap.size, 3, none⟩ = some (.int .i64 q) ∧ w2.cell? ⟨w.heap.size, 4, none⟩ = some (.string b) ∧ w2.cell? ⟨w.heap.size + 1, 0, none⟩ = some (.int .i64 k') ∧ w2.cell? ⟨w.heap.size + 1, 1, none⟩ = some (.int .i64 s') ∧ w2.cell? ⟨w.heap.size + 1, 2, none⟩ = some (.int .i64 y') ∧ w2.cell? ⟨w.heap.size + 1, 3, none⟩ = some (.int .i64 q') ∧ w2.cell? ⟨w.heap.size + 1, 4, none⟩ = some (.string b') ∧ w.heap.size + 1 < w2.heap.size ∧ Below w.heap.size w w2 := by
  obtain ⟨c0, c1, c2, c3, c4, d0, d1, d2, d3, d4, hl, h⟩ := h
  have hl0 : w.heap.size < w1.heap.size := by omega
  exact ⟨(hb.cell (p := ⟨w.heap.size, 0, none⟩) hl0).trans c0, (hb.cell (p := ⟨w.heap.size, 1, none⟩) hl0).trans c1, (hb.cell (p := ⟨w.heap.size, 2, none⟩) hl0).trans c2, (hb.cell (p := ⟨w.heap.size, 3, none⟩) hl0).trans c3, (hb.cell (p := ⟨w.heap.size, 4, none⟩) hl0).trans c4,
    (hb.cell (p := ⟨w.heap.size + 1, 0, none⟩) hl).trans d0, (hb.cell (p := ⟨w.heap.size + 1, 1, none⟩) hl).trans d1, (hb.cell (p := ⟨w.heap.size + 1, 2, none⟩) hl).trans d2, (hb.cell (p := ⟨w.heap.size + 1, 3, none⟩) hl).trans d3, (hb.cell (p := ⟨w.heap.size + 1, 4, none⟩) hl).trans d4, Nat.lt_of_lt_of_le hl hb.size, h.trans (hb.mono h.size)⟩
/-- Two pages that were boxed one behind the other. -/
theorem box2_at (w : World) (k s y q k' s' y' q' : Int) (b b' : ByteArray) (T : TypeId) (w0 : World) (h : w0 = (w.alloc (.cells #[.int .i64 k, .int .i64 s, .int .i64 y, .int .i64 q, .string b] T)).alloc (.cells #[.int .i64 k', .int .i64 s', .int .i64 y', .int .i64 q', .string b'] T)) :
    w0.cell? ⟨w.heap.size, 0, none⟩ = some (.int .i64 k) ∧ w0.cell? ⟨w.heap.size, 1, none⟩ = some (.int .i64 s) ∧ w0.cell? ⟨w.heap.size, 2, none⟩ = some (.int .i64 y) ∧ w0.cell? ⟨w.heap.size, 3, none⟩ = some (.int .i64 q) ∧ w0.cell? ⟨w.heap.size, 4, none⟩ = some (.string b) ∧ w0.cell? ⟨w.heap.size + 1, 0, none⟩ = some (.int .i64 k') ∧ w0.cell? ⟨w.heap.size + 1, 1, none⟩ = some (.int .i64 s') ∧ w0.cell? ⟨w.heap.size + 1, 2, none⟩ = some (.int .i64 y') ∧ w0.cell? ⟨w.heap.size + 1, 3, none⟩ = some (.int .i64 q') ∧ w0.cell? ⟨w.heap.size + 1, 4, none⟩ = some (.string b') ∧ w.heap.size + 1 < w0.heap.size ∧ Below w.heap.size w w0 := by
  have k1 : Blk w0 w.heap.size T #[.int .i64 k, .int .i64 s, .int .i64 y, .int .i64 q, .string b] := by rw [h]; exact (Blk.new w _ _).alloc _
  have k2 : Blk w0 (w.heap.size + 1) T #[.int .i64 k', .int .i64 s', .int .i64 y', .int .i64 q', .string b'] := by
    have := Blk.new (w.alloc (.cells #[.int .i64 k, .int .i64 s, .int .i64 y, .int .i64 q, .string b] T)) T #[.int .i64 k', .int .i64 s', .int .i64 y', .int .i64 q', .string b']
    rw [show (w.alloc (.cells #[.int .i64 k, .int .i64 s, .int .i64 y, .int .i64 q, .string b] T)).heap.size = w.heap.size + 1 from by simp] at this
    rw [h]; exact this
  obtain ⟨⟨c0, c1, c2, c3, c4⟩, _⟩ := cells5 k1
  obtain ⟨⟨d0, d1, d2, d3, d4⟩, _⟩ := cells5 k2
  exact ⟨c0, c1, c2, c3, c4, d0, d1, d2, d3, d4, k2.lt, by rw [h]; exact (below_box w _).alloc (by simp) _⟩

set_option maxHeartbeats 4000000 in
theorem newer_a (k s y q k' s' y' q' : Int) (b b' : ByteArray)  (w : World) (HA : Hid (∀ w, Calls Try.prog 18 #[.agg #[.int .i64 k, .int .i64 s, .int .i64 y, .int .i64 q, .string b]] w fun e w' => e = .returned (.bool false) ∧ Below w.heap.size w w')) :
    Calls Try.prog 14 #[.agg #[.int .i64 k, .int .i64 s, .int .i64 y, .int .i64 q, .string b], .agg #[.int .i64 k', .int .i64 s', .int .i64 y', .int .i64 q', .string b']] w fun e w' => e = .returned (.bool false) ∧ Below w.heap.size w w' := by
  have HSA := Lib.hid (subject_any k s y q b)
  have HSB := Lib.hid (subject_any k' s' y' q' b')
  obtain ⟨w0, hw0⟩ : ∃ w0, w0 = (w.alloc (.cells #[.int .i64 k, .int .i64 s, .int .i64 y, .int .i64 q, .string b] 23)).alloc (.cells #[.int .i64 k', .int .i64 s', .int .i64 y', .int .i64 q', .string b'] 23) := ⟨_, rfl⟩
  have h0 := box2_at w k s y q k' s' y' q' b b' 23 w0 hw0
  have HS : Hid (w0.drew.cell? ⟨w.heap.size, 0, none⟩ = some (.int .i64 k) ∧ w0.drew.cell? ⟨w.heap.size, 1, none⟩ = some (.int .i64 s) ∧ w0.drew.cell? ⟨w.heap.size, 2, none⟩ = some (.int .i64 y) ∧ w0.drew.cell? ⟨w.heap.size, 3, none⟩ = some (.int .i64 q) ∧ w0.drew.cell? ⟨w.heap.size, 4, none⟩ = some (.string b) ∧ w0.drew.cell? ⟨w.heap.size + 1, 0, none⟩ = some (.int .i64 k') ∧ w0.drew.cell? ⟨w.heap.size + 1, 1, none⟩ = some (.int .i64 s') ∧ w0.drew.cell? ⟨w.heap.size + 1, 2, none⟩ = some (.int .i64 y') ∧ w0.drew.cell? ⟨w.heap.size + 1, 3, none⟩ = some (.int .i64 q') ∧ w0.drew.cell? ⟨w.heap.size + 1, 4, none⟩ = some (.string b') ∧ w.heap.size + 1 < w0.drew.heap.size ∧ Below w.heap.size w w0.drew) := Lib.hid ⟨h0.1, h0.2.1, h0.2.2.1, h0.2.2.2.1, h0.2.2.2.2.1, h0.2.2.2.2.2.1, h0.2.2.2.2.2.2.1, h0.2.2.2.2.2.2.2.1, h0.2.2.2.2.2.2.2.2.1, h0.2.2.2.2.2.2.2.2.2.1, h0.2.2.2.2.2.2.2.2.2.2.1, h0.2.2.2.2.2.2.2.2.2.2.2.drew⟩
  have HS1 := Lib.hid h0
  have HW0 := Lib.hid hw0
  clear h0 hw0
  go_enter Try.func14, Try.ntmps14
  go_wp2
  rw [← HW0.out]
  have h0 := HS.out
  have h1 := HS1.out
  first | (go_region_with (first
    | (go_at_call 18; with_reducible refine (HA.out _).mono ?_; rintro e w5 ⟨rfl, hb5⟩; have hS5 := keep2 w k s y q k' s' y' q' b b' (by assumption) hb5)
    | (go_at_call 18; with_reducible refine (HB.out _).mono ?_; rintro e w5 ⟨rfl, hb5⟩; have hS5 := keep2 w k s y q k' s' y' q' b b' (by assumption) hb5)
    | (go_at_call 29; with_reducible refine (HSA.out _).mono ?_; rintro e w5 ⟨rfl, hb5⟩; have hS5 := keep2 w k s y q k' s' y' q' b b' (by assumption) hb5)
    | (go_at_call 29; with_reducible refine (HSB.out _).mono ?_; rintro e w5 ⟨rfl, hb5⟩; have hS5 := keep2 w k s y q k' s' y' q' b b' (by assumption) hb5))) | fail
  all_goals (try go_wp2)
  all_goals go_ret
  all_goals exact ⟨rfl, hS5.2.2.2.2.2.2.2.2.2.2.2⟩

set_option maxHeartbeats 4000000 in
theorem newer_b (k s y q k' s' y' q' : Int) (b b' : ByteArray)  (w : World) (HA : Hid (∀ w, Calls Try.prog 18 #[.agg #[.int .i64 k, .int .i64 s, .int .i64 y, .int .i64 q, .string b]] w fun e w' => e = .returned (.bool true) ∧ Below w.heap.size w w')) (HB : Hid (∀ w, Calls Try.prog 18 #[.agg #[.int .i64 k', .int .i64 s', .int .i64 y', .int .i64 q', .string b']] w fun e w' => e = .returned (.bool false) ∧ Below w.heap.size w w')) :
    Calls Try.prog 14 #[.agg #[.int .i64 k, .int .i64 s, .int .i64 y, .int .i64 q, .string b], .agg #[.int .i64 k', .int .i64 s', .int .i64 y', .int .i64 q', .string b']] w fun e w' => e = .returned (.bool false) ∧ Below w.heap.size w w' := by
  have HSA := Lib.hid (subject_any k s y q b)
  have HSB := Lib.hid (subject_any k' s' y' q' b')
  obtain ⟨w0, hw0⟩ : ∃ w0, w0 = (w.alloc (.cells #[.int .i64 k, .int .i64 s, .int .i64 y, .int .i64 q, .string b] 23)).alloc (.cells #[.int .i64 k', .int .i64 s', .int .i64 y', .int .i64 q', .string b'] 23) := ⟨_, rfl⟩
  have h0 := box2_at w k s y q k' s' y' q' b b' 23 w0 hw0
  have HS : Hid (w0.drew.cell? ⟨w.heap.size, 0, none⟩ = some (.int .i64 k) ∧ w0.drew.cell? ⟨w.heap.size, 1, none⟩ = some (.int .i64 s) ∧ w0.drew.cell? ⟨w.heap.size, 2, none⟩ = some (.int .i64 y) ∧ w0.drew.cell? ⟨w.heap.size, 3, none⟩ = some (.int .i64 q) ∧ w0.drew.cell? ⟨w.heap.size, 4, none⟩ = some (.string b) ∧ w0.drew.cell? ⟨w.heap.size + 1, 0, none⟩ = some (.int .i64 k') ∧ w0.drew.cell? ⟨w.heap.size + 1, 1, none⟩ = some (.int .i64 s') ∧ w0.drew.cell? ⟨w.heap.size + 1, 2, none⟩ = some (.int .i64 y') ∧ w0.drew.cell? ⟨w.heap.size + 1, 3, none⟩ = some (.int .i64 q') ∧ w0.drew.cell? ⟨w.heap.size + 1, 4, none⟩ = some (.string b') ∧ w.heap.size + 1 < w0.drew.heap.size ∧ Below w.heap.size w w0.drew) := Lib.hid ⟨h0.1, h0.2.1, h0.2.2.1, h0.2.2.2.1, h0.2.2.2.2.1, h0.2.2.2.2.2.1, h0.2.2.2.2.2.2.1, h0.2.2.2.2.2.2.2.1, h0.2.2.2.2.2.2.2.2.1, h0.2.2.2.2.2.2.2.2.2.1, h0.2.2.2.2.2.2.2.2.2.2.1, h0.2.2.2.2.2.2.2.2.2.2.2.drew⟩
  have HS1 := Lib.hid h0
  have HW0 := Lib.hid hw0
  clear h0 hw0
  go_enter Try.func14, Try.ntmps14
  go_wp2
  rw [← HW0.out]
  have h0 := HS.out
  have h1 := HS1.out
  first | (go_region_with (first
    | (go_at_call 18; with_reducible refine (HA.out _).mono ?_; rintro e w5 ⟨rfl, hb5⟩; have hS5 := keep2 w k s y q k' s' y' q' b b' (by assumption) hb5)
    | (go_at_call 18; with_reducible refine (HB.out _).mono ?_; rintro e w5 ⟨rfl, hb5⟩; have hS5 := keep2 w k s y q k' s' y' q' b b' (by assumption) hb5)
    | (go_at_call 29; with_reducible refine (HSA.out _).mono ?_; rintro e w5 ⟨rfl, hb5⟩; have hS5 := keep2 w k s y q k' s' y' q' b b' (by assumption) hb5)
    | (go_at_call 29; with_reducible refine (HSB.out _).mono ?_; rintro e w5 ⟨rfl, hb5⟩; have hS5 := keep2 w k s y q k' s' y' q' b b' (by assumption) hb5))) | fail
  all_goals (try go_wp2)
  all_goals go_ret
  all_goals exact ⟨rfl, hS5.2.2.2.2.2.2.2.2.2.2.2⟩

set_option maxHeartbeats 4000000 in
theorem newer_k (k s y q k' s' y' q' : Int) (b b' : ByteArray) (hne : (k == k') = false) (w : World) (HA : Hid (∀ w, Calls Try.prog 18 #[.agg #[.int .i64 k, .int .i64 s, .int .i64 y, .int .i64 q, .string b]] w fun e w' => e = .returned (.bool true) ∧ Below w.heap.size w w')) (HB : Hid (∀ w, Calls Try.prog 18 #[.agg #[.int .i64 k', .int .i64 s', .int .i64 y', .int .i64 q', .string b']] w fun e w' => e = .returned (.bool true) ∧ Below w.heap.size w w')) :
    Calls Try.prog 14 #[.agg #[.int .i64 k, .int .i64 s, .int .i64 y, .int .i64 q, .string b], .agg #[.int .i64 k', .int .i64 s', .int .i64 y', .int .i64 q', .string b']] w fun e w' => e = .returned (.bool false) ∧ Below w.heap.size w w' := by
  have HSA := Lib.hid (subject_any k s y q b)
  have HSB := Lib.hid (subject_any k' s' y' q' b')
  obtain ⟨w0, hw0⟩ : ∃ w0, w0 = (w.alloc (.cells #[.int .i64 k, .int .i64 s, .int .i64 y, .int .i64 q, .string b] 23)).alloc (.cells #[.int .i64 k', .int .i64 s', .int .i64 y', .int .i64 q', .string b'] 23) := ⟨_, rfl⟩
  have h0 := box2_at w k s y q k' s' y' q' b b' 23 w0 hw0
  have HS : Hid (w0.drew.cell? ⟨w.heap.size, 0, none⟩ = some (.int .i64 k) ∧ w0.drew.cell? ⟨w.heap.size, 1, none⟩ = some (.int .i64 s) ∧ w0.drew.cell? ⟨w.heap.size, 2, none⟩ = some (.int .i64 y) ∧ w0.drew.cell? ⟨w.heap.size, 3, none⟩ = some (.int .i64 q) ∧ w0.drew.cell? ⟨w.heap.size, 4, none⟩ = some (.string b) ∧ w0.drew.cell? ⟨w.heap.size + 1, 0, none⟩ = some (.int .i64 k') ∧ w0.drew.cell? ⟨w.heap.size + 1, 1, none⟩ = some (.int .i64 s') ∧ w0.drew.cell? ⟨w.heap.size + 1, 2, none⟩ = some (.int .i64 y') ∧ w0.drew.cell? ⟨w.heap.size + 1, 3, none⟩ = some (.int .i64 q') ∧ w0.drew.cell? ⟨w.heap.size + 1, 4, none⟩ = some (.string b') ∧ w.heap.size + 1 < w0.drew.heap.size ∧ Below w.heap.size w w0.drew) := Lib.hid ⟨h0.1, h0.2.1, h0.2.2.1, h0.2.2.2.1, h0.2.2.2.2.1, h0.2.2.2.2.2.1, h0.2.2.2.2.2.2.1, h0.2.2.2.2.2.2.2.1, h0.2.2.2.2.2.2.2.2.1, h0.2.2.2.2.2.2.2.2.2.1, h0.2.2.2.2.2.2.2.2.2.2.1, h0.2.2.2.2.2.2.2.2.2.2.2.drew⟩
  have HS1 := Lib.hid h0
  have HW0 := Lib.hid hw0
  clear h0 hw0
  go_enter Try.func14, Try.ntmps14
  go_wp2
  rw [← HW0.out]
  have h0 := HS.out
  have h1 := HS1.out
  first | (go_region_with (first
    | (go_at_call 18; with_reducible refine (HA.out _).mono ?_; rintro e w5 ⟨rfl, hb5⟩; have hS5 := keep2 w k s y q k' s' y' q' b b' (by assumption) hb5)
    | (go_at_call 18; with_reducible refine (HB.out _).mono ?_; rintro e w5 ⟨rfl, hb5⟩; have hS5 := keep2 w k s y q k' s' y' q' b b' (by assumption) hb5)
    | (go_at_call 29; with_reducible refine (HSA.out _).mono ?_; rintro e w5 ⟨rfl, hb5⟩; have hS5 := keep2 w k s y q k' s' y' q' b b' (by assumption) hb5)
    | (go_at_call 29; with_reducible refine (HSB.out _).mono ?_; rintro e w5 ⟨rfl, hb5⟩; have hS5 := keep2 w k s y q k' s' y' q' b b' (by assumption) hb5))) | fail
  all_goals (try go_wp2)
  all_goals go_ret
  all_goals exact ⟨rfl, hS5.2.2.2.2.2.2.2.2.2.2.2⟩

set_option maxHeartbeats 4000000 in
theorem newer_s (k s y q s' y' q' : Int) (b b' : ByteArray) (hne : (s == s') = false) (w : World) (HA : Hid (∀ w, Calls Try.prog 18 #[.agg #[.int .i64 k, .int .i64 s, .int .i64 y, .int .i64 q, .string b]] w fun e w' => e = .returned (.bool true) ∧ Below w.heap.size w w')) (HB : Hid (∀ w, Calls Try.prog 18 #[.agg #[.int .i64 k, .int .i64 s', .int .i64 y', .int .i64 q', .string b']] w fun e w' => e = .returned (.bool true) ∧ Below w.heap.size w w')) :
    Calls Try.prog 14 #[.agg #[.int .i64 k, .int .i64 s, .int .i64 y, .int .i64 q, .string b], .agg #[.int .i64 k, .int .i64 s', .int .i64 y', .int .i64 q', .string b']] w fun e w' => e = .returned (.bool false) ∧ Below w.heap.size w w' := by
  have HSA := Lib.hid (subject_any k s y q b)
  have HSB := Lib.hid (subject_any k s' y' q' b')
  obtain ⟨w0, hw0⟩ : ∃ w0, w0 = (w.alloc (.cells #[.int .i64 k, .int .i64 s, .int .i64 y, .int .i64 q, .string b] 23)).alloc (.cells #[.int .i64 k, .int .i64 s', .int .i64 y', .int .i64 q', .string b'] 23) := ⟨_, rfl⟩
  have h0 := box2_at w k s y q k s' y' q' b b' 23 w0 hw0
  have HS : Hid (w0.drew.cell? ⟨w.heap.size, 0, none⟩ = some (.int .i64 k) ∧ w0.drew.cell? ⟨w.heap.size, 1, none⟩ = some (.int .i64 s) ∧ w0.drew.cell? ⟨w.heap.size, 2, none⟩ = some (.int .i64 y) ∧ w0.drew.cell? ⟨w.heap.size, 3, none⟩ = some (.int .i64 q) ∧ w0.drew.cell? ⟨w.heap.size, 4, none⟩ = some (.string b) ∧ w0.drew.cell? ⟨w.heap.size + 1, 0, none⟩ = some (.int .i64 k) ∧ w0.drew.cell? ⟨w.heap.size + 1, 1, none⟩ = some (.int .i64 s') ∧ w0.drew.cell? ⟨w.heap.size + 1, 2, none⟩ = some (.int .i64 y') ∧ w0.drew.cell? ⟨w.heap.size + 1, 3, none⟩ = some (.int .i64 q') ∧ w0.drew.cell? ⟨w.heap.size + 1, 4, none⟩ = some (.string b') ∧ w.heap.size + 1 < w0.drew.heap.size ∧ Below w.heap.size w w0.drew) := Lib.hid ⟨h0.1, h0.2.1, h0.2.2.1, h0.2.2.2.1, h0.2.2.2.2.1, h0.2.2.2.2.2.1, h0.2.2.2.2.2.2.1, h0.2.2.2.2.2.2.2.1, h0.2.2.2.2.2.2.2.2.1, h0.2.2.2.2.2.2.2.2.2.1, h0.2.2.2.2.2.2.2.2.2.2.1, h0.2.2.2.2.2.2.2.2.2.2.2.drew⟩
  have HS1 := Lib.hid h0
  have HW0 := Lib.hid hw0
  clear h0 hw0
  go_enter Try.func14, Try.ntmps14
  go_wp2
  rw [← HW0.out]
  have h0 := HS.out
  have h1 := HS1.out
  first | (go_region_with (first
    | (go_at_call 18; with_reducible refine (HA.out _).mono ?_; rintro e w5 ⟨rfl, hb5⟩; have hS5 := keep2 w k s y q k s' y' q' b b' (by assumption) hb5)
    | (go_at_call 18; with_reducible refine (HB.out _).mono ?_; rintro e w5 ⟨rfl, hb5⟩; have hS5 := keep2 w k s y q k s' y' q' b b' (by assumption) hb5)
    | (go_at_call 29; with_reducible refine (HSA.out _).mono ?_; rintro e w5 ⟨rfl, hb5⟩; have hS5 := keep2 w k s y q k s' y' q' b b' (by assumption) hb5)
    | (go_at_call 29; with_reducible refine (HSB.out _).mono ?_; rintro e w5 ⟨rfl, hb5⟩; have hS5 := keep2 w k s y q k s' y' q' b b' (by assumption) hb5))) | fail
  all_goals (try go_wp2)
  all_goals go_ret
  all_goals exact ⟨rfl, hS5.2.2.2.2.2.2.2.2.2.2.2⟩

set_option maxHeartbeats 4000000 in
theorem newer_y (k s y q y' q' : Int) (b b' : ByteArray) (hne : (y == y') = false) (w : World) (HA : Hid (∀ w, Calls Try.prog 18 #[.agg #[.int .i64 k, .int .i64 s, .int .i64 y, .int .i64 q, .string b]] w fun e w' => e = .returned (.bool true) ∧ Below w.heap.size w w')) (HB : Hid (∀ w, Calls Try.prog 18 #[.agg #[.int .i64 k, .int .i64 s, .int .i64 y', .int .i64 q', .string b']] w fun e w' => e = .returned (.bool true) ∧ Below w.heap.size w w')) :
    Calls Try.prog 14 #[.agg #[.int .i64 k, .int .i64 s, .int .i64 y, .int .i64 q, .string b], .agg #[.int .i64 k, .int .i64 s, .int .i64 y', .int .i64 q', .string b']] w fun e w' => e = .returned (.bool false) ∧ Below w.heap.size w w' := by
  have HSA := Lib.hid (subject_any k s y q b)
  have HSB := Lib.hid (subject_any k s y' q' b')
  obtain ⟨w0, hw0⟩ : ∃ w0, w0 = (w.alloc (.cells #[.int .i64 k, .int .i64 s, .int .i64 y, .int .i64 q, .string b] 23)).alloc (.cells #[.int .i64 k, .int .i64 s, .int .i64 y', .int .i64 q', .string b'] 23) := ⟨_, rfl⟩
  have h0 := box2_at w k s y q k s y' q' b b' 23 w0 hw0
  have HS : Hid (w0.drew.cell? ⟨w.heap.size, 0, none⟩ = some (.int .i64 k) ∧ w0.drew.cell? ⟨w.heap.size, 1, none⟩ = some (.int .i64 s) ∧ w0.drew.cell? ⟨w.heap.size, 2, none⟩ = some (.int .i64 y) ∧ w0.drew.cell? ⟨w.heap.size, 3, none⟩ = some (.int .i64 q) ∧ w0.drew.cell? ⟨w.heap.size, 4, none⟩ = some (.string b) ∧ w0.drew.cell? ⟨w.heap.size + 1, 0, none⟩ = some (.int .i64 k) ∧ w0.drew.cell? ⟨w.heap.size + 1, 1, none⟩ = some (.int .i64 s) ∧ w0.drew.cell? ⟨w.heap.size + 1, 2, none⟩ = some (.int .i64 y') ∧ w0.drew.cell? ⟨w.heap.size + 1, 3, none⟩ = some (.int .i64 q') ∧ w0.drew.cell? ⟨w.heap.size + 1, 4, none⟩ = some (.string b') ∧ w.heap.size + 1 < w0.drew.heap.size ∧ Below w.heap.size w w0.drew) := Lib.hid ⟨h0.1, h0.2.1, h0.2.2.1, h0.2.2.2.1, h0.2.2.2.2.1, h0.2.2.2.2.2.1, h0.2.2.2.2.2.2.1, h0.2.2.2.2.2.2.2.1, h0.2.2.2.2.2.2.2.2.1, h0.2.2.2.2.2.2.2.2.2.1, h0.2.2.2.2.2.2.2.2.2.2.1, h0.2.2.2.2.2.2.2.2.2.2.2.drew⟩
  have HS1 := Lib.hid h0
  have HW0 := Lib.hid hw0
  clear h0 hw0
  go_enter Try.func14, Try.ntmps14
  go_wp2
  rw [← HW0.out]
  have h0 := HS.out
  have h1 := HS1.out
  first | (go_region_with (first
    | (go_at_call 18; with_reducible refine (HA.out _).mono ?_; rintro e w5 ⟨rfl, hb5⟩; have hS5 := keep2 w k s y q k s y' q' b b' (by assumption) hb5)
    | (go_at_call 18; with_reducible refine (HB.out _).mono ?_; rintro e w5 ⟨rfl, hb5⟩; have hS5 := keep2 w k s y q k s y' q' b b' (by assumption) hb5)
    | (go_at_call 29; with_reducible refine (HSA.out _).mono ?_; rintro e w5 ⟨rfl, hb5⟩; have hS5 := keep2 w k s y q k s y' q' b b' (by assumption) hb5)
    | (go_at_call 29; with_reducible refine (HSB.out _).mono ?_; rintro e w5 ⟨rfl, hb5⟩; have hS5 := keep2 w k s y q k s y' q' b b' (by assumption) hb5))) | fail
  all_goals (try go_wp2)
  all_goals go_ret
  all_goals exact ⟨rfl, hS5.2.2.2.2.2.2.2.2.2.2.2⟩

set_option maxHeartbeats 4000000 in
theorem newer_d (k s y q q' : Int) (b b' : ByteArray)  (w : World) (HA : Hid (∀ w, Calls Try.prog 18 #[.agg #[.int .i64 k, .int .i64 s, .int .i64 y, .int .i64 q, .string b]] w fun e w' => e = .returned (.bool true) ∧ Below w.heap.size w w')) (HB : Hid (∀ w, Calls Try.prog 18 #[.agg #[.int .i64 k, .int .i64 s, .int .i64 y, .int .i64 q', .string b']] w fun e w' => e = .returned (.bool true) ∧ Below w.heap.size w w')) :
    Calls Try.prog 14 #[.agg #[.int .i64 k, .int .i64 s, .int .i64 y, .int .i64 q, .string b], .agg #[.int .i64 k, .int .i64 s, .int .i64 y, .int .i64 q', .string b']] w fun e w' => e = .returned (.bool (decide (q' < q))) ∧ Below w.heap.size w w' := by
  have HSA := Lib.hid (subject_any k s y q b)
  have HSB := Lib.hid (subject_any k s y q' b')
  obtain ⟨w0, hw0⟩ : ∃ w0, w0 = (w.alloc (.cells #[.int .i64 k, .int .i64 s, .int .i64 y, .int .i64 q, .string b] 23)).alloc (.cells #[.int .i64 k, .int .i64 s, .int .i64 y, .int .i64 q', .string b'] 23) := ⟨_, rfl⟩
  have h0 := box2_at w k s y q k s y q' b b' 23 w0 hw0
  have HS : Hid (w0.drew.cell? ⟨w.heap.size, 0, none⟩ = some (.int .i64 k) ∧ w0.drew.cell? ⟨w.heap.size, 1, none⟩ = some (.int .i64 s) ∧ w0.drew.cell? ⟨w.heap.size, 2, none⟩ = some (.int .i64 y) ∧ w0.drew.cell? ⟨w.heap.size, 3, none⟩ = some (.int .i64 q) ∧ w0.drew.cell? ⟨w.heap.size, 4, none⟩ = some (.string b) ∧ w0.drew.cell? ⟨w.heap.size + 1, 0, none⟩ = some (.int .i64 k) ∧ w0.drew.cell? ⟨w.heap.size + 1, 1, none⟩ = some (.int .i64 s) ∧ w0.drew.cell? ⟨w.heap.size + 1, 2, none⟩ = some (.int .i64 y) ∧ w0.drew.cell? ⟨w.heap.size + 1, 3, none⟩ = some (.int .i64 q') ∧ w0.drew.cell? ⟨w.heap.size + 1, 4, none⟩ = some (.string b') ∧ w.heap.size + 1 < w0.drew.heap.size ∧ Below w.heap.size w w0.drew) := Lib.hid ⟨h0.1, h0.2.1, h0.2.2.1, h0.2.2.2.1, h0.2.2.2.2.1, h0.2.2.2.2.2.1, h0.2.2.2.2.2.2.1, h0.2.2.2.2.2.2.2.1, h0.2.2.2.2.2.2.2.2.1, h0.2.2.2.2.2.2.2.2.2.1, h0.2.2.2.2.2.2.2.2.2.2.1, h0.2.2.2.2.2.2.2.2.2.2.2.drew⟩
  have HS1 := Lib.hid h0
  have HW0 := Lib.hid hw0
  clear h0 hw0
  go_enter Try.func14, Try.ntmps14
  go_wp2
  rw [← HW0.out]
  go_region_held3 (fun w' => w'.cell? ⟨w.heap.size, 0, none⟩ = some (.int .i64 k) ∧ w'.cell? ⟨w.heap.size, 1, none⟩ = some (.int .i64 s) ∧ w'.cell? ⟨w.heap.size, 2, none⟩ = some (.int .i64 y) ∧ w'.cell? ⟨w.heap.size, 3, none⟩ = some (.int .i64 q) ∧ w'.cell? ⟨w.heap.size, 4, none⟩ = some (.string b) ∧ w'.cell? ⟨w.heap.size + 1, 0, none⟩ = some (.int .i64 k) ∧ w'.cell? ⟨w.heap.size + 1, 1, none⟩ = some (.int .i64 s) ∧ w'.cell? ⟨w.heap.size + 1, 2, none⟩ = some (.int .i64 y) ∧ w'.cell? ⟨w.heap.size + 1, 3, none⟩ = some (.int .i64 q') ∧ w'.cell? ⟨w.heap.size + 1, 4, none⟩ = some (.string b') ∧ w.heap.size + 1 < w'.heap.size ∧ Below w.heap.size w w') (first | with_reducible exact HS.out | assumption) (first
    | (go_at_call 18; with_reducible refine (HA.out _).mono ?_; rintro e w5 ⟨rfl, hb5⟩; have hS5 := keep2 w k s y q k s y q' b b' (by assumption) hb5)
    | (go_at_call 18; with_reducible refine (HB.out _).mono ?_; rintro e w5 ⟨rfl, hb5⟩; have hS5 := keep2 w k s y q k s y q' b b' (by assumption) hb5)
    | (go_at_call 29; with_reducible refine (HSA.out _).mono ?_; rintro e w5 ⟨rfl, hb5⟩; have hS5 := keep2 w k s y q k s y q' b b' (by assumption) hb5)
    | (go_at_call 29; with_reducible refine (HSB.out _).mono ?_; rintro e w5 ⟨rfl, hb5⟩; have hS5 := keep2 w k s y q k s y q' b b' (by assumption) hb5))
  all_goals (try go_wp2)
  all_goals go_ret
  all_goals exact ⟨rfl, hS5.2.2.2.2.2.2.2.2.2.2.2⟩

/-- .. any two pages. -/
theorem newer_any (a b : Pg) (w : World) : Calls Try.prog 14 #[.agg #[.int .i64 a.kind, .int .i64 a.space, .int .i64 a.key, .int .i64 a.seq, .string a.body], .agg #[.int .i64 b.kind, .int .i64 b.space, .int .i64 b.key, .int .i64 b.seq, .string b.body]] w fun e w' => e = .returned (.bool (decide (Nw a b))) ∧ Below w.heap.size w w' := by
  by_cases ha : May a
  · have HA := Lib.hid (maybe_yes a ha)
    by_cases hb : May b
    · have HB := Lib.hid (maybe_yes b hb)
      obtain ⟨k, s, y, q, t⟩ := a
      obtain ⟨k', s', y', q', t'⟩ := b
      by_cases h1 : k = k'
      · subst h1
        by_cases h2 : s = s'
        · subst h2
          by_cases h3 : y = y'
          · subst h3
            have e : decide (Nw ⟨k, s, y, q, t⟩ ⟨k, s, y, q', t'⟩) = decide (q' < q) := by
              apply decide_eq_decide.2
              exact ⟨fun h => h.2.2.2.2.2, fun h => ⟨ha, hb, rfl, rfl, rfl, h⟩⟩
            rw [e]
            exact newer_d k s y q q' t t' w HA HB
          · rw [decide_eq_false (show ¬ Nw ⟨k, s, y, q, t⟩ ⟨k, s, y', q', t'⟩ from fun h => h3 h.2.2.2.2.1)]
            exact newer_y k s y q y' q' t t' (by simpa using h3) w HA HB
        · rw [decide_eq_false (show ¬ Nw ⟨k, s, y, q, t⟩ ⟨k, s', y', q', t'⟩ from fun h => h2 h.2.2.2.1)]
          exact newer_s k s y q s' y' q' t t' (by simpa using h2) w HA HB
      · rw [decide_eq_false (show ¬ Nw ⟨k, s, y, q, t⟩ ⟨k', s', y', q', t'⟩ from fun h => h1 h.2.2.1)]
        exact newer_k k s y q k' s' y' q' t t' (by simpa using h1) w HA HB
    · rw [decide_eq_false (show ¬ Nw a b from fun h => hb h.2.1)]
      exact newer_b _ _ _ _ _ _ _ _ _ _ w HA (Lib.hid (maybe_no b hb))
  · rw [decide_eq_false (show ¬ Nw a b from fun h => ha h.1)]
    exact newer_a _ _ _ _ _ _ _ _ _ _ w (Lib.hid (maybe_no a ha))
end PG
end Go.Proofs.Ytolcacmkageidaa
