/- Plain facts on what a geometry gives, as numbers. No condition but those that each theorem names. -/
import Derived.WalkKit
namespace Go.Proofs.Ytolcacmkageidac.GM
set_option linter.unusedVariables false

def Geo (b p : Int) : Prop := 16 ≤ b ∧ b ≤ 64 ∧ 8 ≤ p ∧ p ≤ 32
instance (b p : Int) : Decidable (Geo b p) := by unfold Geo; infer_instance
def spare (b : Nat) : Nat := b / 8
def cap (b p : Nat) : Nat := p * (b - b / 8 - 4) / 16
def nodes (b p : Nat) : Nat := cap b p / 2 + 16
def need (b p : Nat) : Nat := 8 + p + nodes b p + 1
/-- How many blocks hold what is needed. -/
def hold (b p : Nat) : Nat := (need b p + p - 1) / p
def low (b p : Nat) : Nat := 2 + b / 8 + hold b p

theorem Geo.nat {b p : Int} (h : Geo b p) : ∃ m n : Nat, b = (m : Int) ∧ p = (n : Int) ∧ 16 ≤ m ∧ m ≤ 64 ∧ 8 ≤ n ∧ n ≤ 32 := by
  obtain ⟨h1, h2, h3, h4⟩ := h
  exact ⟨b.toNat, p.toNat, by omega, by omega, by omega, by omega, by omega, by omega⟩

def okAt (b p : Nat) : Bool :=
  decide (b * p ≤ 2048) && decide (cap b p ≤ 104) && decide (5 ≤ cap b p) && decide (hold b p ≤ 20) && decide (need b p ≤ hold b p * p) && decide ((hold b p - 1) * p < need b p) && decide (1 ≤ hold b p) &&
  decide (p * (b - b / 8 - 4) ≤ 2048) && decide (b / 8 + low b p + 1 ≤ b) && decide (cap b p + nodes b p + 1 ≤ (b - b / 8 - (low b p + 1)) * p)
theorem all_ok : ∀ i : Fin 49, ∀ j : Fin 25, okAt (16 + i.val) (8 + j.val) = true := by decide +kernel
theorem ok_at {b p : Nat} (h1 : 16 ≤ b) (h2 : b ≤ 64) (h3 : 8 ≤ p) (h4 : p ≤ 32) : okAt b p = true := by
  have := all_ok ⟨b - 16, by omega⟩ ⟨p - 8, by omega⟩
  rw [show 16 + (b - 16) = b by omega, show 8 + (p - 8) = p by omega] at this
  exact this
structure Facts (b p : Nat) : Prop where
  pages : b * p ≤ 2048
  capTop : cap b p ≤ 104
  capLow : 5 ≤ cap b p
  holdTop : hold b p ≤ 20
  holdEnough : need b p ≤ hold b p * p
  holdLeast : (hold b p - 1) * p < need b p
  holdLow : 1 ≤ hold b p
  prod : p * (b - b / 8 - 4) ≤ 2048
  room : b / 8 + low b p + 1 ≤ b
  left : cap b p + nodes b p + 1 ≤ (b - b / 8 - (low b p + 1)) * p
theorem facts {b p : Nat} (h1 : 16 ≤ b) (h2 : b ≤ 64) (h3 : 8 ≤ p) (h4 : p ≤ 32) : Facts b p := by
  have h := ok_at h1 h2 h3 h4
  simp only [okAt, Bool.and_eq_true, decide_eq_true_eq] at h
  obtain ⟨⟨⟨⟨⟨⟨⟨⟨⟨a1, a2⟩, a3⟩, a4⟩, a5⟩, a6⟩, a7⟩, a8⟩, a9⟩, a10⟩ := h
  exact ⟨a1, a2, a3, a4, a5, a6, a7, a8, a9, a10⟩
theorem cap_mono {b p c q : Nat} (h : b ≤ c) (k : p ≤ q) : cap b p ≤ cap c q := by
  unfold cap
  exact Nat.div_le_div_right (Nat.mul_le_mul k (by omega))
end Go.Proofs.Ytolcacmkageidac.GM
