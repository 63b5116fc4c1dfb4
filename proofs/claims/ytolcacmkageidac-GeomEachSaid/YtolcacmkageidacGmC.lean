/- A geometry and a plan in memory, cell by cell. No condition. -/
import Derived.Test.YtolcacmkageidacGmB
namespace Go.Proofs.Ytolcacmkageidac
open Go.RowKit
namespace GM
open MM
set_option linter.unusedVariables false

/-- The cells of a geometry. -/
def GC (w : World) (L : Nat) (b p : Int) : Prop := Blk w L 23 #[.int .i64 b, .int .i64 p]
theorem GC.c0 {w : World} {L : Nat} {b p : Int} (h : GC w L b p) : w.cell? ⟨L, 0, none⟩ = some (.int .i64 b) := Blk.cell h 0
theorem GC.c1 {w : World} {L : Nat} {b p : Int} (h : GC w L b p) : w.cell? ⟨L, 1, none⟩ = some (.int .i64 p) := Blk.cell h 1
theorem GC.keep {w w' : World} {L : Nat} {b p : Int} (h : GC w L b p) (hb : Below w.heap.size w w') : GC w' L b p := Blk.below h hb (Blk.lt h)
/-- The cells of a plan. -/
def PC (w : World) (L : Nat) (a b c d e : Int) : Prop := Blk w L 25 #[.int .i64 a, .int .i64 b, .int .i64 c, .int .i64 d, .int .i64 e]
theorem PC.keep {w w' : World} {L : Nat} {a b c d e : Int} (h : PC w L a b c d e) (hb : Below w.heap.size w w') : PC w' L a b c d e := Blk.below h hb (Blk.lt h)
theorem PC.cs {w : World} {L : Nat} {a b c d e : Int} (h : PC w L a b c d e) : w.cell? ⟨L, 0, none⟩ = some (.int .i64 a) ∧ w.cell? ⟨L, 1, none⟩ = some (.int .i64 b) ∧ w.cell? ⟨L, 2, none⟩ = some (.int .i64 c) ∧ w.cell? ⟨L, 3, none⟩ = some (.int .i64 d) ∧ w.cell? ⟨L, 4, none⟩ = some (.int .i64 e) :=
  (cells5 h).1

end GM
end Go.Proofs.Ytolcacmkageidac
