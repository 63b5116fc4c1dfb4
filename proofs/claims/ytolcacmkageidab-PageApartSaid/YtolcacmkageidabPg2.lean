/- Two pages that were boxed, cell by cell. No condition. -/
import Derived.Test.YtolcacmkageidabPgB
import Derived.Test.YtolcacmkageidabCellR
namespace Go.Proofs.Ytolcacmkageidab
open Go.RowKit
namespace PG
open MM
set_option linter.unusedVariables false

theorem keep2 (w : World) (k s y q k' s' y' q' : Int) (b b' : ByteArray) {w1 w2 : World} (h : w1.cell? ⟨w.heap.size, 0, none⟩ = some (.int .i64 k) ∧ w1.cell? ⟨w.heap.size, 1, none⟩ = some (.int .i64 s) ∧ w1.cell? ⟨w.heap.size, 2, none⟩ = some (.int .i64 y) ∧ w1.cell? ⟨w.heap.size, 3, none⟩ = some (.int .i64 q) ∧ w1.cell? ⟨w.heap.size, 4, none⟩ = some (.string b) ∧ w1.cell? ⟨w.heap.size + 1, 0, none⟩ = some (.int .i64 k') ∧ w1.cell? ⟨w.heap.size + 1, 1, none⟩ = some (.int .i64 s') ∧ w1.cell? ⟨w.heap.size + 1, 2, none⟩ = some (.int .i64 y') ∧ w1.cell? ⟨w.heap.size + 1, 3, none⟩ = some (.int .i64 q') ∧ w1.cell? ⟨w.heap.size + 1, 4, none⟩ = some (.string b') ∧ w.heap.size + 1 < w1.heap.size ∧ Below w.heap.size w w1) (hb : Below w1.heap.size w1 w2) :
    w2.cell? ⟨w.heap.size, 0, none⟩ = some (.int .i64 k) ∧ w2.cell? ⟨w.heap.size, 1, none⟩ = some (.int .i64 s) ∧ w2.cell? ⟨w.heap.size, 2, none⟩ = some (.int .i64 y) ∧ w2.cell? ⟨w.heap.size, 3, none⟩ = some (.int .i64 q) ∧ w2.cell? ⟨w.heap.size, 4, none⟩ = some (.string b) ∧ w2.cell? ⟨w.heap.size + 1, 0, none⟩ = some (.int .i64 k') ∧ w2.cell? ⟨w.heap.size + 1, 1, none⟩ = some (.int .i64 s') ∧ w2.cell? ⟨w.heap.size + 1, 2, none⟩ = some (.int .i64 y') ∧ w2.cell? ⟨w.heap.size + 1, 3, none⟩ = some (.int .i64 q') ∧ w2.cell? ⟨w.heap.size + 1, 4, none⟩ = some (.string b') ∧ w.heap.size + 1 < w2.heap.size ∧ Below w.heap.size w w2 := by
  obtain ⟨c0, c1, c2, c3, c4, d0, d1, d2, d3, d4, hl, h⟩ := h
  have hl0 : w.heap.size < w1.heap.size := by omega
  exact ⟨(hb.cell (p := ⟨w.heap.size, 0, none⟩) hl0).trans c0, (hb.cell (p := ⟨w.heap.size, 1, none⟩) hl0).trans c1, (hb.cell (p := ⟨w.heap.size, 2, none⟩) hl0).trans c2, (hb.cell (p := ⟨w.heap.size, 3, none⟩) hl0).trans c3, (hb.cell (p := ⟨w.heap.size, 4, none⟩) hl0).trans c4,
    (hb.cell (p := ⟨w.heap.size + 1, 0, none⟩) hl).trans d0, (hb.cell (p := ⟨w.heap.size + 1, 1, none⟩) hl).trans d1, (hb.cell (p := ⟨w.heap.size + 1, 2, none⟩) hl).trans d2, (hb.cell (p := ⟨w.heap.size + 1, 3, none⟩) hl).trans d3, (hb.cell (p := ⟨w.heap.size + 1, 4, none⟩) hl).trans d4, Nat.lt_of_lt_of_le hl hb.size, h.trans (hb.mono h.size)⟩
/-- Two pages that were boxed one behind the other. -/
theorem box2_at (w : World) (k s y q k' s' y' q' : Int) (b b' : ByteArray) (T : TypeId) (w0 : World) (h : w0 = (w.alloc (.cells #[.int .i64 k, .int .i64 s, .int .i64 y, .int .i64 q, .string b] T)).alloc (.cells #[.int .i64 k', .int .i64 s', .int .i64 y', .int .i64 q', .string b'] T)) :
    w0.cell? ⟨w.heap.size, 0, none⟩ = some (.int .i64 k) ∧ w0.cell? ⟨w.heap.size, 1, none⟩ = some (.int .i64 s) ∧ w0.cell? ⟨w.heap.size, 2, none⟩ = some (.int .i64 y) ∧ w0.cell? ⟨w.heap.size, 3, none⟩ = some (.int .i64 q) ∧ w0.cell? ⟨w.heap.size, 4, none⟩ = some (.string b) ∧ w0.cell? ⟨w.heap.size + 1, 0, none⟩ = some (.int .i64 k') ∧ w0.cell? ⟨w.heap.size + 1, 1, none⟩ = some (.int .i64 s') ∧ w0.cell? ⟨w.heap.size + 1, 2, none⟩ = some (.int .i64 y') ∧ w0.cell? ⟨w.heap.size + 1, 3, none⟩ = some (.int .i64 q') ∧ w0.cell? ⟨w.heap.size + 1, 4, none⟩ = some (.string b') ∧ w.heap.size + 1 < w0.heap.size ∧ Below w.heap.size w w0 := by
  have k1 : Blk w0 w.heap.size T #[.int .i64 k, .int .i64 s, .int .i64 y, .int .i64 q, .string b] := by rw [h]; exact (Blk.new w _ _).alloc _
  have k2 : Blk w0 (w.heap.size + 1) T #[.int .i64 k', .int .i64 s', .int .i64 y', .int .i64 q', .string b'] := by
    have := Blk.new (w.alloc (.cells #[.int .i64 k, .int .i64 s, .int .i64 y, .int .i64 q, .string b] T)) T #[.int .i64 k', .int .i64 s', .int .i64 y', .int .i64 q', .string b']
    rw [show (w.alloc (.cells #[.int .i64 k, .int .i64 s, .int .i64 y, .int .i64 q, .string b] T)).heap.size = w.heap.size + 1 from by simp] at this
    rw [h]; exact this
  obtain ⟨⟨c0, c1, c2, c3, c4⟩, _⟩ := cells5 k1
  obtain ⟨⟨d0, d1, d2, d3, d4⟩, _⟩ := cells5 k2
  exact ⟨c0, c1, c2, c3, c4, d0, d1, d2, d3, d4, k2.lt, by rw [h]; exact (below_box w _).alloc (by simp) _⟩

end PG
end Go.Proofs.Ytolcacmkageidab
