/- What strings.CutPrefix answers for the mark of a page. No condition but that no text is longer than 2^47 bytes. -/
import Derived.Test.YtolcacmkageidacDoorPgA
namespace Go.Proofs.YtolcacmkageidacDoor
open Go.RowKit
namespace PG
open FM
set_option linter.unusedVariables false
set_option linter.unusedSimpArgs false

theorem ext2 (s : ByteArray) : (s.extract 0 2).toList = s.data.toList.take 2 := by
  rw [ByteArray.toList_eq]
  simp [ByteArray.data_extract, List.extract_eq_take_drop]
theorem ext_from (s : ByteArray) (a : Nat) : s.extract a s.size = str (s.data.toList.drop a) := by
  apply ByteArray.ext
  apply Array.toList_inj.1
  simp only [ByteArray.data_extract, Array.toList_extract, List.extract_eq_take_drop, str]
  exact List.take_of_length_le (by rw [List.length_drop]; simp)

theorem has_yes (s : ByteArray) (h : s.data.toList.take 2 = [83, 99]) (w : World) : Calls Tryd.prog 72 #[.string s, .string ⟨#[83, 99]⟩] w fun e w' => e = .returned (.bool true) ∧ w = w' := by
  have hs : 2 ≤ s.size := by
    have := congrArg List.length h
    rw [List.length_take, len_size] at this
    simp at this
    omega
  have hs' : (2 : Int) ≤ (s.size : Int) := by omega
  have e1 : (s.extract 0 2).toList = [83, 99] := by rw [ext2, h]
  clear h
  go_enter Tryd.func72, Tryd.ntmps72
  go_wp2
  go_ret
  exact ⟨rfl, rfl⟩
theorem has_no (s : ByteArray) (h : s.data.toList.take 2 ≠ [83, 99]) (w : World) : Calls Tryd.prog 72 #[.string s, .string ⟨#[83, 99]⟩] w fun e w' => e = .returned (.bool false) ∧ w = w' := by
  by_cases hs : 2 ≤ s.size
  · have hs' : (2 : Int) ≤ (s.size : Int) := by omega
    have e1 : ¬ (s.extract 0 2).toList = [83, 99] := by rw [ext2]; exact h
    clear h
    go_enter Tryd.func72, Tryd.ntmps72
    go_wp2
    go_ret
    refine ⟨?_, rfl⟩
    show Ending.returned (.bool ((s.extract 0 2).toList == [83, 99])) = _
    rw [beq_eq_false_iff_ne.2 e1]
  · have hs' : ¬ (2 : Int) ≤ (s.size : Int) := by omega
    clear h
    go_enter Tryd.func72, Tryd.ntmps72
    go_wp2
    go_ret
    exact ⟨rfl, rfl⟩
theorem cutl_yes (s : ByteArray) (h : s.data.toList.take 2 = [83, 99]) (w : World) : Calls Tryd.prog 67 #[.string s, .string ⟨#[83, 99]⟩] w fun e w' => e = .returned (.tuple #[.string (str (s.data.toList.drop 2)), .bool true]) ∧ w = w' := by
  have HH := Lib.hid (has_yes s h)
  have hs : 2 ≤ s.size := by
    have := congrArg List.length h
    rw [List.length_take, len_size] at this
    simp at this
    omega
  have hs' : (2 : Int) ≤ (s.size : Int) := by omega
  rw [← ext_from s 2]
  clear h
  go_enter Tryd.func67, Tryd.ntmps67
  go_wp2_with fail
  refine (HH.out _).mono ?_
  rintro e w1 ⟨rfl, rfl⟩
  go_wp2
  go_ret2
  exact ⟨rfl, rfl⟩
theorem cutl_no (s : ByteArray) (h : s.data.toList.take 2 ≠ [83, 99]) (w : World) : Calls Tryd.prog 67 #[.string s, .string ⟨#[83, 99]⟩] w fun e w' => e = .returned (.tuple #[.string s, .bool false]) ∧ w = w' := by
  have HH := Lib.hid (has_no s h)
  clear h
  go_enter Tryd.func67, Tryd.ntmps67
  go_wp2_with fail
  refine (HH.out _).mono ?_
  rintro e w1 ⟨rfl, rfl⟩
  go_wp2
  go_ret2
  exact ⟨rfl, rfl⟩
theorem cut_yes (s : ByteArray) (h : s.data.toList.take 2 = [83, 99]) (w : World) : Calls Tryd.prog 54 #[.string s, .string ⟨#[83, 99]⟩] w fun e w' => e = .returned (.tuple #[.string (str (s.data.toList.drop 2)), .bool true]) ∧ w = w' := by
  have HH := Lib.hid (cutl_yes s h)
  clear h
  go_enter Tryd.func54, Tryd.ntmps54
  go_wp2_with fail
  refine (HH.out _).mono ?_
  rintro e w1 ⟨rfl, rfl⟩
  go_wp2
  go_ret2
  exact ⟨rfl, rfl⟩
theorem cut_no (s : ByteArray) (h : s.data.toList.take 2 ≠ [83, 99]) (w : World) : Calls Tryd.prog 54 #[.string s, .string ⟨#[83, 99]⟩] w fun e w' => e = .returned (.tuple #[.string s, .bool false]) ∧ w = w' := by
  have HH := Lib.hid (cutl_no s h)
  clear h
  go_enter Tryd.func54, Tryd.ntmps54
  go_wp2_with fail
  refine (HH.out _).mono ?_
  rintro e w1 ⟨rfl, rfl⟩
  go_wp2
  go_ret2
  exact ⟨rfl, rfl⟩
end PG
end Go.Proofs.YtolcacmkageidacDoor
