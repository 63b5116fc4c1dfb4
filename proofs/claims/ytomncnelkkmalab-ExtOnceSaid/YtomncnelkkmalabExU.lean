/- What package ext's Cut, Clip and Over answer, of any list, in one. No condition but those that each theorem names. -/
import Derived.Test.YtomncnelkkmalabExT
namespace Go.Proofs.Ytomncnelkkmalab
open Go.RowKit
namespace EX
open MM
set_option linter.unusedVariables false

def Failed (w : World) (r : Ending) (w' : World) : Prop := r = .returned (.tuple #[.slice none 0 0, .int .i64 1]) ∧ Below w.heap.size w w'
def Either (ok : Prop) (R : List Ext) (w : World) (r : Ending) (w' : World) : Prop := (ok ∧ TupEnd R w r w') ∨ (¬ ok ∧ Failed w r w')
theorem cut_any (L : List Ext) (len cap : Nat) (hlen : len = L.length) (hm : len ≤ maxLen) (a : Option Addr) (f n : Int) (hf : f ≤ 9223372036854775807) (w : World) (hr : Exs w a L) (hwf : ∀ e ∈ L, WfE e) :
    Calls Try.prog 13 #[.slice a len cap, .int .i64 f, .int .i64 n] w (Either (Valid L ∧ Rng f n 16777216) (cut L f n) w) := by
  by_cases hv : Valid L
  · by_cases hg : Rng f n 16777216
    · exact (cut_yes L len cap hlen hm a f n w hr hv hg).mono fun r w' h => .inl ⟨⟨hv, hg⟩, h⟩
    · exact (cut_far L len cap hlen hm a f n hf w hr hwf hv hg).mono fun r w' h => .inr ⟨fun h' => hg h'.2, h⟩
  · exact (cut_bad L len cap hlen hm a f n w hr hwf hv).mono fun r w' h => .inr ⟨fun h' => hv h'.1, h⟩
theorem clip_any (L : List Ext) (len cap : Nat) (hlen : len = L.length) (hm : len ≤ maxLen) (a : Option Addr) (f n : Int) (hf : f ≤ 9223372036854775807) (w : World) (hr : Exs w a L) (hwf : ∀ e ∈ L, WfE e) :
    Calls Try.prog 15 #[.slice a len cap, .int .i64 f, .int .i64 n] w (Either (Valid L ∧ Rng f n 16777216) (clip L f n) w) := by
  by_cases hv : Valid L
  · by_cases hg : Rng f n 16777216
    · exact (clip_yes L len cap hlen hm a f n w hr hv hg).mono fun r w' h => .inl ⟨⟨hv, hg⟩, h⟩
    · exact (clip_far L len cap hlen hm a f n hf w hr hwf hv hg).mono fun r w' h => .inr ⟨fun h' => hg h'.2, h⟩
  · exact (clip_bad L len cap hlen hm a f n w hr hwf hv).mono fun r w' h => .inr ⟨fun h' => hv h'.1, h⟩
theorem over_any (L : List Ext) (len cap : Nat) (hlen : len = L.length) (hm : len ≤ maxLen) (a : Option Addr) (e : Ext) (he : WfE e) (w : World) (hr : Exs w a L) (hwf : ∀ e ∈ L, WfE e) :
    Calls Try.prog 9 #[.slice a len cap, .agg #[.int .i64 e.from_, .int .i64 e.n, .int .i64 e.kind, .int .i64 e.at_]] w (Either (Valid L ∧ One e) (over L e) w) := by
  by_cases hv : Valid L
  · by_cases hg : One e
    · exact (over_yes L len cap hlen hm a e w hr hv hg).mono fun r w' h => .inl ⟨⟨hv, hg⟩, h⟩
    · exact (over_far L len cap hlen hm a e w hr hwf hv he hg).mono fun r w' h => .inr ⟨fun h' => hg h'.2, h⟩
  · exact (over_bad L len cap hlen hm a e w hr hwf hv).mono fun r w' h => .inr ⟨fun h' => hv h'.1, h⟩
end EX
end Go.Proofs.Ytomncnelkkmalab
