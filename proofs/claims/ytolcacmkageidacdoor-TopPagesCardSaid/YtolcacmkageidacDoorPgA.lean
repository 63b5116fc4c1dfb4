/- What page.Name, page.within, page.mayBe and page.widths answer: of every page. No condition. -/
import Derived.Test.YtolcacmkageidacDoorPgMath
import Derived.Test.YtolcacmkageidacDoorRowIn
namespace Go.Proofs.YtolcacmkageidacDoor
open Go.RowKit
namespace PG
open FM
set_option linter.unusedVariables false
set_option linter.unusedSimpArgs false

def nm (k : Int) : ByteArray := if k = 1 then ⟨#[100, 97, 116, 97]⟩ else if k = 2 then ⟨#[108, 101, 97, 102]⟩ else if k = 3 then ⟨#[105, 110, 110, 101, 114]⟩ else if k = 4 then ⟨#[114, 111, 111, 116]⟩ else ⟨#[63]⟩

theorem name_any (k : Int) (w : World) : Calls Tryd.prog 33 #[.int .i64 k] w fun e w' => e = .returned (.string (nm k)) ∧ w = w' := by
  by_cases h1 : k = 1
  · subst h1
    go_enter Tryd.func33, Tryd.ntmps33
    go_wp2
    go_ret
    exact ⟨rfl, rfl⟩
  by_cases h2 : k = 2
  · subst h2
    go_enter Tryd.func33, Tryd.ntmps33
    go_wp2
    go_ret
    exact ⟨rfl, rfl⟩
  by_cases h3 : k = 3
  · subst h3
    go_enter Tryd.func33, Tryd.ntmps33
    go_wp2
    go_ret
    exact ⟨rfl, rfl⟩
  by_cases h4 : k = 4
  · subst h4
    go_enter Tryd.func33, Tryd.ntmps33
    go_wp2
    go_ret
    exact ⟨rfl, rfl⟩
  have e : nm k = ⟨#[63]⟩ := by unfold nm; rw [if_neg h1, if_neg h2, if_neg h3, if_neg h4]
  have b1 : (k == 1) = false := by simpa using h1
  have b2 : (k == 2) = false := by simpa using h2
  have b3 : (k == 3) = false := by simpa using h3
  have b4 : (k == 4) = false := by simpa using h4
  rw [e]
  clear e h1 h2 h3 h4
  go_enter Tryd.func33, Tryd.ntmps33
  go_wp2
  go_ret
  exact ⟨rfl, rfl⟩
theorem nm_good {k : Int} (h : 1 ≤ k ∧ k ≤ 4) : ¬ (nm k).toList = [63] := by
  obtain rfl | rfl | rfl | rfl : k = 1 ∨ k = 2 ∨ k = 3 ∨ k = 4 := by omega
  all_goals (rw [ByteArray.toList_eq]; decide)
theorem nm_bad {k : Int} (h : ¬ (1 ≤ k ∧ k ≤ 4)) : nm k = ⟨#[63]⟩ := by
  unfold nm
  rw [if_neg (by omega), if_neg (by omega), if_neg (by omega), if_neg (by omega)]

theorem within_yes (n m : Int) (h : 0 ≤ n ∧ n ≤ m) (w : World) : Calls Tryd.prog 34 #[.int .i64 n, .int .i64 m] w fun e w' => e = .returned (.bool true) ∧ w = w' := by
  obtain ⟨h0, h1⟩ := h
  go_enter Tryd.func34, Tryd.ntmps34
  go_wp2
  go_ret
  exact ⟨rfl, rfl⟩
theorem within_no (n m : Int) (h : ¬ (0 ≤ n ∧ n ≤ m)) (w : World) : Calls Tryd.prog 34 #[.int .i64 n, .int .i64 m] w fun e w' => e = .returned (.bool false) ∧ w = w' := by
  by_cases h0 : 0 ≤ n
  · have h1 : ¬ n ≤ m := fun k => h ⟨h0, k⟩
    clear h
    go_enter Tryd.func34, Tryd.ntmps34
    go_wp2
    go_ret
    exact ⟨rfl, rfl⟩
  · clear h
    go_enter Tryd.func34, Tryd.ntmps34
    go_wp2
    go_ret
    exact ⟨rfl, rfl⟩
end PG
end Go.Proofs.YtolcacmkageidacDoor
