/- What package ext's push answers, of any list. No condition but those that each theorem names. -/
import Derived.Test.YtomncnelkkmalabExP
namespace Go.Proofs.Ytomncnelkkmalab
open Go.RowKit
namespace EX
open MM
set_option linter.unusedVariables false
set_option linter.unusedSimpArgs false

theorem push_any (base : Nat) (L : List Ext) (e : Ext) (v : Value) (w : World) (hown : w.ownsRow base 24 4 v L.length (exCells L)) (hb : base ≤ w.heap.size) (hL : ∀ x ∈ L, One x) (he : One e) (hlen : L.length ≤ 100000000) :
    Calls Try.prog 32 #[v, .agg #[.int .i64 e.from_, .int .i64 e.n, .int .i64 e.kind, .int .i64 e.at_]] w (OwnEnd base (push L e) w) := by
  rcases snoc_cases L with rfl | ⟨i, p, rfl⟩
  · exact push_empty base e v w hown hb
  · have hp : One p := hL p (by simp)
    have hi : i.length + 1 = (i ++ [p]).length := by simp
    rw [← hi] at hown hlen
    by_cases h : Tog p e
    · rw [push_tog _ _ _ h]
      exact push_t base i.length i p e (join p e) rfl (by omega) v w hown hb (Lib.hid (joined_ok p e hp he h))
    · rw [push_far _ _ _ h]
      exact push_f base i.length i p e Ext.zero rfl (by omega) v w hown hb (Lib.hid (joined_no p e hp.wf he.wf fun h' => h h'.2.2))
end EX
end Go.Proofs.Ytomncnelkkmalab
