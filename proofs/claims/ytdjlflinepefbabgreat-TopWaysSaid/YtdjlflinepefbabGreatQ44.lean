/- How what is left of a text is cut on, how rows of numbers of the call's own are read, and what scoriaref01.Same answers of two that read alike. No condition but those that each theorem names. -/
import Derived.Test.YtdjlflinepefbabGreatQ43

namespace Go.Proofs.YtdjlflinepefbabGreat
open Go.RowKit
namespace FM
set_option linter.unusedVariables false
set_option linter.unusedSimpArgs false

/-- The text from place p on. -/
def cutAt (s : ByteArray) (p : Nat) : ByteArray := s.extract p s.size
theorem cutAt_size (s : ByteArray) (p : Nat) (h : p ≤ s.size) : (cutAt s p).size = s.size - p := by simp [cutAt, ByteArray.size_extract]
theorem cutAt_list (s : ByteArray) (p : Nat) : (cutAt s p).data.toList = s.data.toList.drop p := by
  simp only [cutAt, ByteArray.data_extract, Array.toList_extract, List.extract_eq_take_drop]
  exact List.take_of_length_le (by rw [List.length_drop]; simp)
theorem cutAt_cutAt (s : ByteArray) (p n : Nat) (h : p + n ≤ s.size) : (cutAt s p).extract n (s.size - p) = cutAt s (p + n) := by
  apply ByteArray.ext
  apply Array.toList_inj.1
  have e := cutAt_list (cutAt s p) n
  rw [cutAt, cutAt_size s p (by omega)] at e
  rw [e, cutAt_list, cutAt_list, List.drop_drop]
theorem cutAt_zero (s : ByteArray) : cutAt s 0 = s := by simp [cutAt]

/-- A row of the call's own numbers, read cell by cell. -/
theorem own_row {B len : Nat} {v : Value} {l : List UInt8} {Z : Nat → Int} {w : World} (h : w.ownsRow B 172 1 v len (nums l Z len)) :
    ∃ a c, v = .slice a len c ∧ Row .u64 w a len (fun i => (num l Z i : Int)) := by
  have hown := h
  rcases h.2 with ⟨rfl, hk⟩ | ⟨g, cap, cur, rfl, hb, hg, hrest⟩
  · exact ⟨none, 0, by rw [hk], .inl hk⟩
  · refine ⟨_, cap, rfl, .inr ⟨g, 0, rfl, (Array.getElem?_eq_some_iff.1 hg).1, fun i hi => ?_⟩⟩
    have h2 := hown.cells (g := g) rfl i (Value.int .u64 (num l Z i : Int)) (by simp [nums, hi])
    rwa [Addr.add_lit] at h2

end FM
end Go.Proofs.YtdjlflinepefbabGreat
