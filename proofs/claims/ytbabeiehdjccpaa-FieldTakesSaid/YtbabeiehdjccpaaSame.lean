/- How what is left of a text is cut on, how rows of numbers of the call's own are read, and what scoriaref01.Same answers of two that read alike. No condition but those that each theorem names. -/
import Derived.Test.YtbabeiehdjccpaaTake
namespace Go.Proofs.Ytbabeiehdjccpaa
open Go.RowKit
namespace FM
set_option linter.unusedVariables false
set_option linter.unusedSimpArgs false

/-- The text from place p on. -/
def cutAt (s : ByteArray) (p : Nat) : ByteArray := s.extract p s.size
theorem cutAt_size (s : ByteArray) (p : Nat) (h : p ≤ s.size) : (cutAt s p).size = s.size - p := by simp [cutAt, ByteArray.size_extract]
theorem cutAt_list (s : ByteArray) (p : Nat) : (cutAt s p).data.toList = s.data.toList.drop p := by
  simp only [cutAt, ByteArray.data_extract, Array.toList_extract, List.extract_eq_take_drop]
  exact List.take_of_length_le (by rw [List.length_drop]; simp)
theorem cutAt_cutAt (s : ByteArray) (p n : Nat) (h : p + n ≤ s.size) : (cutAt s p).extract n (s.size - p) = cutAt s (p + n) := by
  apply ByteArray.ext
  apply Array.toList_inj.1
  have e := cutAt_list (cutAt s p) n
  rw [cutAt, cutAt_size s p (by omega)] at e
  rw [e, cutAt_list, cutAt_list, List.drop_drop]
theorem cutAt_zero (s : ByteArray) : cutAt s 0 = s := by simp [cutAt]

/-- A row of the call's own numbers, read cell by cell. -/
theorem own_row {B len : Nat} {v : Value} {l : List UInt8} {Z : Nat → Int} {w : World} (h : w.ownsRow B 22 1 v len (nums l Z len)) :
    ∃ a c, v = .slice a len c ∧ Row .u64 w a len (fun i => (num l Z i : Int)) := by
  have hown := h
  rcases h.2 with ⟨rfl, hk⟩ | ⟨g, cap, cur, rfl, hb, hg, hrest⟩
  · exact ⟨none, 0, by rw [hk], .inl hk⟩
  · refine ⟨_, cap, rfl, .inr ⟨g, 0, rfl, (Array.getElem?_eq_some_iff.1 hg).1, fun i hi => ?_⟩⟩
    have h2 := hown.cells (g := g) rfl i (Value.int .u64 (num l Z i : Int)) (by simp [nums, hi])
    rwa [Addr.add_lit] at h2

set_option maxHeartbeats 800000 in
/-- Two slices that read alike are the same. -/
theorem same_yes (a b : Option Addr) (len ca cb : Nat) (Z : Nat → Int) (hl : len ≤ 1000) (w : World) (ha : Row .u64 w a len Z) (hb : Row .u64 w b len Z) :
    Calls Try.prog 18 #[.slice a len ca, .slice b len cb] w fun e w' => e = .returned (.bool true) ∧ Below w.heap.size w w' := by
  have HA := Lib.hid ha
  have HB := Lib.hid hb
  clear ha hb
  go_enter Try.func18, Try.ntmps18
  go_wp2
  go_loopw [5] (fun i wr => ∃ k : Nat, k ≤ len ∧ i = .int .i64 k ∧ Below w.heap.size w wr) (fun i _ => len - (intOf i).toNat)
  case atStart => exact ⟨0, Nat.zero_le _, rfl, Below.refl _ _⟩
  case round =>
    obtain ⟨k, hk, rfl, hbel⟩ := hrel
    by_cases hlt : k < len
    · rcases HA.out with h0 | ⟨ba, oa, rfl, hba, hca⟩
      · omega
      · rcases HB.out with h0 | ⟨bb, ob, rfl, hbb, hcb⟩
        · omega
        · have h1 : wr.cell? ⟨ba, oa + k, none⟩ = some (.int .u64 (Z k)) := by rw [hbel.cell (by simpa using hba)]; exact hca k hlt
          have h2 : wr.cell? ⟨bb, ob + k, none⟩ = some (.int .u64 (Z k)) := by rw [hbel.cell (by simpa using hbb)]; exact hcb k hlt
          clear hca hcb
          have HBD : Hid (∀ n, Below w.heap.size w (wr.drewN n)) := Lib.hid (fun n => below_drewN hbel n)
          have i0 : (0 : Int) ≤ (k : Int) := by omega
          have i1 : (k : Int) < (len : Int) := by omega
          have hneq : (Z k != Z k) = false := by simp
          go_wp2
          go_quiet (fail)
          go_wp2
          go_roundw
          case rel => exact ⟨k + 1, by omega, by go_num, HBD.out _⟩
          case measure => simp [intOf]; omega
    · go_wp2
      go_ret
      exact ⟨rfl, hbel⟩
end FM
end Go.Proofs.Ytbabeiehdjccpaa
