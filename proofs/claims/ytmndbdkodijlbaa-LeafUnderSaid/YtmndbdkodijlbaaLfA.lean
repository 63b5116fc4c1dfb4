/- What the small functions of package leaf answer: within, the widths and the numbers of an extent's and of a kid's row, leafMayBe. No condition but those that each theorem names. -/
import Derived.Test.YtmndbdkodijlbaaKdS
import Derived.Test.YtmndbdkodijlbaaExD
import Derived.Test.YtmndbdkodijlbaaRow
namespace Go.Proofs.Ytmndbdkodijlbaa
open Go.RowKit
namespace LF
open MM FM EX
set_option linter.unusedVariables false
set_option linter.unusedSimpArgs false

def WdE : Nat → Int
  | 0 => 3
  | 1 => 4
  | 2 => 1
  | _ => 2
def WdK : Nat → Int
  | 0 => 3
  | _ => 2
def NmE (e : Ext) : Nat → Int
  | 0 => e.from_
  | 1 => e.n
  | 2 => e.kind
  | _ => e.at_
def NmK (k : Kid) : Nat → Int
  | 0 => k.key
  | _ => k.at_
theorem rowl_e (e : Ext) : rowl (NmE e) WdE 4 = eB e := by
  simp [rowl, eB, NmE, WdE, List.append_assoc]
theorem rowl_k (k : Kid) : rowl (NmK k) WdK 2 = kB k := by
  simp [rowl, kB, NmK, WdK]
theorem wdE_ok : ∀ i, i < 4 → ¬ Bad (WdE i) := by
  intro i hi
  obtain rfl | rfl | rfl | rfl : i = 0 ∨ i = 1 ∨ i = 2 ∨ i = 3 := by omega
  all_goals (intro h; rcases h with h | h <;> exact absurd h (by decide))
theorem wdK_ok : ∀ i, i < 2 → ¬ Bad (WdK i) := by
  intro i hi
  obtain rfl | rfl : i = 0 ∨ i = 1 := by omega
  all_goals (intro h; rcases h with h | h <;> exact absurd h (by decide))
/-- Rows of numbers that were made just now. -/
theorem row4 (k : IntKind) (w : World) (t : TypeId) (a b c d : Int) (Z : Nat → Int) (h0 : Z 0 = a) (h1 : Z 1 = b) (h2 : Z 2 = c) (h3 : Z 3 = d) :
    Row k (w.alloc (.cells #[.int k a, .int k b, .int k c, .int k d] t)) (some ⟨w.heap.size, 0, none⟩) 4 Z := by
  refine .inr ⟨_, 0, rfl, by simp, fun i hi => ?_⟩
  obtain rfl | rfl | rfl | rfl : i = 0 ∨ i = 1 ∨ i = 2 ∨ i = 3 := by omega
  · rw [h0]; exact World.cell?_alloc_new _ _ _ _
  · rw [h1]; exact World.cell?_alloc_new _ _ _ _
  · rw [h2]; exact World.cell?_alloc_new _ _ _ _
  · rw [h3]; exact World.cell?_alloc_new _ _ _ _
theorem row2 (k : IntKind) (w : World) (t : TypeId) (a b : Int) (Z : Nat → Int) (h0 : Z 0 = a) (h1 : Z 1 = b) :
    Row k (w.alloc (.cells #[.int k a, .int k b] t)) (some ⟨w.heap.size, 0, none⟩) 2 Z := by
  refine .inr ⟨_, 0, rfl, by simp, fun i hi => ?_⟩
  obtain rfl | rfl : i = 0 ∨ i = 1 := by omega
  · rw [h0]; exact World.cell?_alloc_new _ _ _ _
  · rw [h1]; exact World.cell?_alloc_new _ _ _ _
theorem row1 (k : IntKind) (w : World) (t : TypeId) (a : Int) (Z : Nat → Int) (h0 : Z 0 = a) :
    Row k (w.alloc (.cells #[.int k a] t)) (some ⟨w.heap.size, 0, none⟩) 1 Z := by
  refine .inr ⟨_, 0, rfl, by simp, fun i hi => ?_⟩
  obtain rfl : i = 0 := by omega
  rw [h0]; exact World.cell?_alloc_new _ _ _ _
theorem extWidths_any (w : World) : Calls Try.prog 26 #[] w fun e w' => e = .returned (.slice (some ⟨w.heap.size, 0, none⟩) 4 4) ∧ Row .i64 w' (some ⟨w.heap.size, 0, none⟩) 4 WdE ∧ Below w.heap.size w w' := by
  go_enter Try.func26, Try.ntmps26
  go_wp2
  go_ret
  exact ⟨rfl, row4 _ _ _ _ _ _ _ _ rfl rfl rfl rfl, below_box _ _⟩
theorem kidWidths_any (w : World) : Calls Try.prog 32 #[] w fun e w' => e = .returned (.slice (some ⟨w.heap.size, 0, none⟩) 2 2) ∧ Row .i64 w' (some ⟨w.heap.size, 0, none⟩) 2 WdK ∧ Below w.heap.size w w' := by
  go_enter Try.func32, Try.ntmps32
  go_wp2
  go_ret
  exact ⟨rfl, row2 _ _ _ _ _ _ rfl rfl, below_box _ _⟩
theorem u64_of {x : Int} (h0 : 0 ≤ x) (h : x < 18446744073709551616) : IntKind.u64.wrap x = x := IntWalk.u64_in _ ⟨h0, by omega⟩
set_option maxHeartbeats 1000000 in
theorem extNumbers_any (e : Ext) (h : FitE e) (w : World) : Calls Try.prog 27 #[.agg #[.int .i64 e.from_, .int .i64 e.n, .int .i64 e.kind, .int .i64 e.at_]] w fun r w' => ∃ X c, r = .returned (.slice (some ⟨X, 0, none⟩) 4 c) ∧ Row .u64 w' (some ⟨X, 0, none⟩) 4 (NmE e) ∧ Below w.heap.size w w' := by
  obtain ⟨f, n, k, t⟩ := e
  obtain ⟨⟨h1, h2⟩, ⟨h3, h4⟩, ⟨h5, h6⟩, h7, h8⟩ := h
  simp only at h1 h2 h3 h4 h5 h6 h7 h8
  have e1 := u64_of h1 (by omega)
  have e2 := u64_of h3 (by omega)
  have e3 := u64_of h5 (by omega)
  have e4 := u64_of h7 (by omega)
  clear h1 h2 h3 h4 h5 h6 h7 h8
  go_enter Try.func27, Try.ntmps27
  go_wp2
  go_ret
  refine ⟨_, _, rfl, ?_, (below_box w _).trans ((below_box _ _).mono (by simp))⟩
  have := row4 .u64 (w.alloc (.cells #[.int .i64 f, .int .i64 n, .int .i64 k, .int .i64 t] 55)) 82 f n k t (NmE ⟨f, n, k, t⟩) rfl rfl rfl rfl
  simpa using this
set_option maxHeartbeats 1000000 in
theorem kidNumbers_any (e : Kid) (h : InK e) (w : World) : Calls Try.prog 33 #[.agg #[.int .i64 e.key, .int .i64 e.at_]] w fun r w' => ∃ X c, r = .returned (.slice (some ⟨X, 0, none⟩) 2 c) ∧ Row .u64 w' (some ⟨X, 0, none⟩) 2 (NmK e) ∧ Below w.heap.size w w' := by
  obtain ⟨f, t⟩ := e
  obtain ⟨⟨h1, h2⟩, h7, h8⟩ := h
  simp only at h1 h2 h7 h8
  have e1 := u64_of h1 (by omega)
  have e4 := u64_of h7 (by omega)
  clear h1 h2 h7 h8
  go_enter Try.func33, Try.ntmps33
  go_wp2
  go_ret
  refine ⟨_, _, rfl, ?_, (below_box w _).trans ((below_box _ _).mono (by simp))⟩
  have := row2 .u64 (w.alloc (.cells #[.int .i64 f, .int .i64 t] 57)) 82 f t (NmK ⟨f, t⟩) rfl rfl
  simpa using this
theorem lwithin_any (n a b : Int) (w : World) : Calls Try.prog 45 #[.int .i64 n, .int .i64 a, .int .i64 b] w fun e w' => e = .returned (.bool (decide (a ≤ n ∧ n ≤ b))) ∧ w = w' := by
  by_cases h1 : a ≤ n
  · by_cases h2 : n ≤ b
    · rw [decide_eq_true ⟨h1, h2⟩]
      go_enter Try.func45, Try.ntmps45
      go_wp2
      go_ret
      exact ⟨by simp, rfl⟩
    · rw [decide_eq_false (fun h => h2 h.2)]
      have h2' : decide (n ≤ b) = false := decide_eq_false h2
      go_enter Try.func45, Try.ntmps45
      go_wp2
      go_ret
      exact ⟨by simp [h2], rfl⟩
  · rw [decide_eq_false (fun h => h1 h.1)]
    have h1' : decide (a ≤ n) = false := decide_eq_false h1
    go_enter Try.func45, Try.ntmps45
    go_wp2
    go_ret
    exact ⟨by simp, rfl⟩
theorem leafMayBe_any (L : List Ext) (len cap : Nat) (hlen : len = L.length) (hm : len ≤ maxLen) (a : Option Addr) (w : World) (hr : Exs w a L) (hwf : ∀ e ∈ L, WfE e) :
    Calls Try.prog 25 #[.slice a len cap] w fun e w' => e = .returned (.bool (decide (Leafy L))) ∧ Below w.heap.size w w' := by
  have HW := Lib.hid (lwithin_any len 1 8)
  have HC := Lib.hid (check_any L len cap hlen hm a w hr hwf)
  have HL := Lib.hid hlen
  clear hr hwf hlen
  by_cases h1 : (1 : Int) ≤ (len : Int) ∧ (len : Int) ≤ 8
  · rw [decide_eq_true h1] at HW
    go_enter Try.func25, Try.ntmps25
    go_wp2_with fail
    refine (HW.out _).mono ?_
    rintro e w1 ⟨rfl, rfl⟩
    go_wp2_with fail
    refine HC.out.mono ?_
    rintro e w1 ⟨rfl, hb1⟩
    go_wp2
    go_ret
    refine ⟨?_, hb1⟩
    have : Leafy L ↔ Valid L := ⟨fun h => h.2, fun h => ⟨by rw [← HL.out]; omega, h⟩⟩
    simp only [this]
    rfl
  · have hn : ¬ Leafy L := fun h => by
      have := h.1
      rw [← HL.out] at this
      exact h1 (by omega)
    rw [decide_eq_false h1] at HW
    rw [decide_eq_false hn]
    go_enter Try.func25, Try.ntmps25
    go_wp2_with fail
    refine (HW.out _).mono ?_
    rintro e w1 ⟨rfl, rfl⟩
    go_wp2
    go_ret
    exact ⟨rfl, Below.refl _ _⟩
end LF
end Go.Proofs.Ytmndbdkodijlbaa
