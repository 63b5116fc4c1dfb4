/- What scoriaref08's worn, Pick, Victim and Count answer, and scorialaw08's refs. No condition but those that each theorem names. -/
import Derived.Test.YtomncnelkkmalacWrL


namespace Go.Proofs.Ytomncnelkkmalac
open Go.RowKit
namespace WR
open MM
set_option linter.unusedVariables false
set_option linter.unusedSimpArgs false

theorem rworn_any (b : Bk) (w : World) : Calls Try.prog 20 #[.int .i64 b.wo] w fun e w' => e = .returned (.int .i64 (wn b)) ∧ w = w' := by
  obtain ⟨x, hx⟩ : ∃ x, x = b.wo := ⟨_, rfl⟩
  obtain ⟨q, hq⟩ : ∃ q, q = wn b := ⟨_, rfl⟩
  have h0 : q = if x < 0 then 0 else x := by rw [hq, hx]; rfl
  rw [← hq, ← hx]
  clear hq hx
  by_cases hk : x < 0
  · rw [if_pos hk] at h0
    subst h0
    go_enter Try.func20, Try.ntmps20
    go_wp2
    go_ret
    exact ⟨rfl, rfl⟩
  · rw [if_neg hk] at h0
    subst h0
    go_enter Try.func20, Try.ntmps20
    go_wp2
    go_ret
    exact ⟨rfl, rfl⟩
/-- The block that is to be emptied (-1: none). -/
def Vic (L : List Bk) (k : Nat) (q : Int) : Prop := ∃ q1, First strands L k q1 ∧ (¬ q1 = -1 → q = q1) ∧ (q1 = -1 → Least isFull LtV L k q)
theorem first_uniq {p : Bk → Prop} {l : List Bk} {k : Nat} {r s : Int} (h : First p l k r) (h' : First p l k s) : r = s := by
  rcases h with ⟨h1, h2⟩ | ⟨j, y, h1, h2, h3, h4, h5⟩
  · rcases h' with ⟨g1, g2⟩ | ⟨i, x, g1, g2, g3, g4, g5⟩
    · rw [h1, g1]
    · exact absurd g4 (h2 i x g2 g3)
  · rcases h' with ⟨g1, g2⟩ | ⟨i, x, g1, g2, g3, g4, g5⟩
    · exact absurd h4 (g2 j y h2 h3)
    · rcases Nat.lt_trichotomy i j with c | c | c
      · exact absurd g4 (h5 i x c g3)
      · omega
      · exact absurd h4 (g5 j y c h3)
theorem vic_uniq {L : List Bk} {k : Nat} {r s : Int} (h : Vic L k r) (h' : Vic L k s) : r = s := by
  obtain ⟨q1, a1, a2, a3⟩ := h
  obtain ⟨q2, b1, b2, b3⟩ := h'
  obtain rfl := first_uniq a1 b1
  by_cases c : q1 = -1
  · exact least_uniq (a3 c) (b3 c)
  · rw [a2 c, b2 c]
end WR
end Go.Proofs.Ytomncnelkkmalac
