/- tree.isFresh, tree.pair. No condition but those that each theorem names. -/
import Derived.Test.YtdjlflinepefbabGreatQ16

namespace Go.Proofs.YtdjlflinepefbabGreat
open Go.RowKit
namespace TR
open MM EX LF
set_option linter.unusedVariables false
set_option linter.unusedSimpArgs false

theorem isfresh_any (h : Nat) (t : Tr h) (w : World) (hr : Rep h w t) : Calls Tryz.prog 57 #[vl h t] w fun r w' => r = .returned (.bool (pg h t == -1)) ∧ w = w' := by
  have hc := pg_cell hr
  obtain ⟨p, hp⟩ : ∃ p, p = pg h t := ⟨_, rfl⟩
  obtain ⟨B, hB⟩ : ∃ B, B = blk h t := ⟨_, rfl⟩
  rw [← hp, ← hB] at hc
  rw [← hp]
  unfold vl
  rw [← hB]
  have HP := Lib.hid (page_any B p w hc)
  clear hp hB hr hc
  cases h with
  | zero =>
    unfold tag
    go_enter Tryz.func57, Tryz.ntmps57
    go_wp2_with fail
    refine HP.out.mono ?_
    rintro r w1 ⟨rfl, rfl⟩
    go_wp2
    go_ret
    exact ⟨rfl, rfl⟩
  | succ h =>
    unfold tag
    go_enter Tryz.func57, Tryz.ntmps57
    go_wp2_with fail
    refine HP.out.mono ?_
    rintro r w1 ⟨rfl, rfl⟩
    go_wp2
    go_ret
    exact ⟨rfl, rfl⟩
theorem pair_any (g n cap sm : Nat) (w : World) (hn : n ≤ 1000) (h2 : 2 ≤ n) (hs : sm < n)
    (hc : ∀ i, i < n → ∃ v b, w.cell? ⟨g, i, none⟩ = some v ∧ Calls Tryz.prog 57 #[v] w fun r w' => r = .returned (.bool b) ∧ w = w') :
    Calls Tryz.prog 163 #[.slice (some ⟨g, 0, none⟩) n cap, .int .i64 (sm : Int)] w fun r w' => ∃ p : Nat, r = .returned (.int .i64 (p : Int)) ∧ p + 2 ≤ n ∧ p ≤ sm ∧ sm ≤ p + 1 ∧ w = w' := by
  rcases Nat.eq_zero_or_pos sm with h0 | hp
  · subst h0
    have e1 : IntKind.i64.wrap ((0 : Int) - 1) = -1 := by decide
    have hf : (2 : Int) ≤ (n : Int) := by omega
    go_enter Tryz.func163, Tryz.ntmps163
    go_wp2
    go_ret
    exact ⟨0, rfl, by omega, Nat.le_refl _, by omega, rfl⟩
  · obtain ⟨l, hl⟩ : ∃ l, l = sm - 1 := ⟨_, rfl⟩
    obtain ⟨vL, bL, cL, fL⟩ := hc l (by omega)
    have FL := Lib.hid fL
    have e1 : IntKind.i64.wrap ((sm : Int) - 1) = (l : Int) := by rw [IntWalk.i64_in _ (by omega)]; omega
    have e2 : IntKind.i64.wrap ((sm : Int) + 1) = ((sm + 1 : Nat) : Int) := by rw [IntWalk.i64_in _ (by omega)]; omega
    obtain ⟨r0, hr0⟩ : ∃ r0, r0 = sm + 1 := ⟨_, rfl⟩
    rw [← hr0] at e2
    have t1 : (0 : Int) ≤ (l : Int) := by omega
    have t2 : (l : Int) < (n : Int) := by omega
    have t3 : ¬ ((l : Int) < 0) := by omega
    have t4 : (0 : Int) ≤ (r0 : Int) := by omega
    have HS := Lib.hid hs
    have HL := Lib.hid hl
    have HR := Lib.hid hr0
    have HH2 := Lib.hid h2
    rcases Nat.lt_or_ge r0 n with hr | hr
    · obtain ⟨vR, bR, cR, fR⟩ := hc r0 hr
      have FR := Lib.hid fR
      have t5 : (r0 : Int) < (n : Int) := by omega
      have t6 : decide ((r0 : Int) < (n : Int)) = true := by simp [t5]
      have HRR := Lib.hid hr
      clear fL fR hc hl hr0 hs hr h2
      cases bR with
      | false =>
        go_enter Tryz.func163, Tryz.ntmps163
        go_wp2_with fail
        refine FR.out.mono ?_
        rintro r w1 ⟨rfl, rfl⟩
        go_wp2
        go_ret
        exact ⟨l, rfl, by have := HS.out; have := HL.out; omega, by have := HL.out; omega, by have := HL.out; omega, rfl⟩
      | true =>
        cases bL with
        | false =>
          go_enter Tryz.func163, Tryz.ntmps163
          go_wp2_with fail
          refine FR.out.mono ?_
          rintro r w1 ⟨rfl, rfl⟩
          go_wp2_with fail
          refine FL.out.mono ?_
          rintro r w1 ⟨rfl, rfl⟩
          go_wp2
          go_ret
          exact ⟨sm, rfl, by have := HRR.out; have := HR.out; omega, Nat.le_refl _, by omega, rfl⟩
        | true =>
          go_enter Tryz.func163, Tryz.ntmps163
          go_wp2_with fail
          refine FR.out.mono ?_
          rintro r w1 ⟨rfl, rfl⟩
          go_wp2_with fail
          refine FL.out.mono ?_
          rintro r w1 ⟨rfl, rfl⟩
          go_wp2
          go_ret
          exact ⟨l, rfl, by have := HS.out; have := HL.out; omega, by have := HL.out; omega, by have := HL.out; omega, rfl⟩
    · have t5 : ¬ ((r0 : Int) < (n : Int)) := by omega
      clear fL hc hl hr0 hs hr h2
      go_enter Tryz.func163, Tryz.ntmps163
      go_wp2
      go_ret
      exact ⟨l, rfl, by have := HS.out; have := HL.out; omega, by have := HL.out; omega, by have := HL.out; omega, rfl⟩
end TR
end Go.Proofs.YtdjlflinepefbabGreat
