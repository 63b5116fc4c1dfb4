/- How a slice of integers that came in is read, cell by cell; and what slices.ContainsFunc answers over field.noWidth. No condition but those that each theorem names. -/
import Derived.Test.YtdjlflinepefbaaFPut
import Derived.Test.YtdjlflinepefbaaOpen
namespace Go.Proofs.Ytdjlflinepefbaa
open Go.RowKit
namespace FM
set_option linter.unusedVariables false
set_option linter.unusedSimpArgs false

/-- The slice at a of len elements reads as Z 0, Z 1, ..; nothing is said of an empty one's address. -/
def Row (k : IntKind) (w : World) (a : Option Addr) (len : Nat) (Z : Nat → Int) : Prop :=
  len = 0 ∨ ∃ b off, a = some ⟨b, off, none⟩ ∧ b < w.heap.size ∧ ∀ i, i < len → w.cell? ⟨b, off + i, none⟩ = some (.int k (Z i))

theorem IsRow.row {k : IntKind} {w : World} {a : Option Addr} {len cap : Nat} {zs : List Int} (h : IsRow k w a len cap zs) : Row k w a len (fun i => zs.getD i 0) ∧ len ≤ cap ∧ ∀ i, i < len → (Lit.int k (zs.getD i 0)).wf = true := by
  rcases h with ⟨rfl, rfl, rfl, rfl⟩ | ⟨x, rfl, hl, hm, hz, hcell, hwf⟩
  · exact ⟨.inl rfl, Nat.le_refl _, fun i hi => by omega⟩
  · refine ⟨?_, hl, fun i hi => ?_⟩
    · by_cases h0 : len = 0
      · exact .inl h0
      · obtain ⟨b, off, spot⟩ := x
        have hc := hcell 0 (by omega)
        have hspot : spot = none := by simpa [Addr.add] using World.cell?_spot hc
        subst hspot
        refine .inr ⟨b, off, rfl, ?_, fun i hi => ?_⟩
        · have := World.block_lt_of_cell? w _ hc
          simpa [Addr.add] using this
        · have := hcell i (by omega)
          rwa [Addr.add_lit] at this
    · have hi' : i < zs.length := by omega
      have := hwf zs[i] (List.getElem_mem hi')
      simpa [List.getD, hi'] using this

theorem Row.kept {k : IntKind} {w w' : World} {a : Option Addr} {len : Nat} {Z : Nat → Int} (h : Row k w a len Z) {B : Nat} (hb : Below B w w') (hB : w.heap.size ≤ B) : Row k w' a len Z := by
  rcases h with h | ⟨b, off, rfl, hlt, hc⟩
  · exact .inl h
  · exact .inr ⟨b, off, rfl, Nat.lt_of_lt_of_le hlt hb.size, fun i hi => by rw [hb.cell (by simpa using Nat.lt_of_lt_of_le hlt hB)]; exact hc i hi⟩

/-- The first place at which something holds. -/
theorem first_place (p : Nat → Prop) : ∀ n, (∃ i, i < n ∧ p i) → ∃ j, j < n ∧ p j ∧ ∀ i, i < j → ¬ p i := by
  intro n
  induction n with
  | zero => rintro ⟨i, hi, _⟩; omega
  | succ n ih =>
    rintro ⟨i, hi, hp⟩
    by_cases hx : ∃ i, i < n ∧ p i
    · obtain ⟨j, hj, h⟩ := ih hx
      exact ⟨j, by omega, h⟩
    · have e : i = n := by
        by_cases h : i < n
        · exact absurd ⟨i, h, hp⟩ hx
        · omega
      subst e
      exact ⟨i, hi, hp, fun q hq hpq => hx ⟨q, hq, hpq⟩⟩

def Bad (x : Int) : Prop := x < 1 ∨ 8 < x
theorem not_bad {x : Int} (h : ¬ Bad x) : 1 ≤ x ∧ x ≤ 8 := by unfold Bad at h; omega

set_option maxHeartbeats 800000 in
theorem index_none (a : Option Addr) (len cap : Nat) (Z : Nat → Int) (hl : len ≤ 300) (w : World) (hr : Row .i64 w a len Z) (hok : ∀ i, i < len → ¬ Bad (Z i)) :
    Calls Try.prog 52 #[.slice a len cap, .func (.func 44) #[] #[]] w fun e w' => e = .returned (.int .i64 (-1)) ∧ w = w' := by
  have HOK := Lib.hid hok
  have HR := Lib.hid hr
  clear hok hr
  go_enter Try.func52, Try.ntmps52
  go_wp2
  go_loop [8] (fun i => ∃ k : Nat, k ≤ len ∧ i = .int .i64 k) (fun i => len - (intOf i).toNat)
  case atStart => exact ⟨0, Nat.zero_le _, rfl⟩
  case round =>
    obtain ⟨k, hk, rfl⟩ := hrel
    by_cases hlt : k < len
    · rcases HR.out with h0 | ⟨b, off, rfl, hb, hc⟩
      · omega
      · have hck := hc k hlt
        obtain ⟨g1, g8⟩ := not_bad (HOK.out k hlt)
        clear hc
        go_wp2_with (go_at_call 44; refine (noWidth_no _ g1 g8 _).mono ?_; rintro e w' ⟨rfl, rfl⟩)
        go_round
        case rel => exact ⟨k + 1, by omega, by go_num⟩
        case measure => simp [intOf]; omega
    · go_wp2
      go_ret
      exact ⟨rfl, rfl⟩

set_option maxHeartbeats 800000 in
theorem index_some (a : Option Addr) (len cap j : Nat) (Z : Nat → Int) (hl : len ≤ 300) (w : World) (hr : Row .i64 w a len Z) (hj : j < len) (hbad : Bad (Z j)) (hok : ∀ i, i < j → ¬ Bad (Z i)) :
    Calls Try.prog 52 #[.slice a len cap, .func (.func 44) #[] #[]] w fun e w' => e = .returned (.int .i64 (j : Int)) ∧ w = w' := by
  have HOK := Lib.hid hok
  have HR := Lib.hid hr
  have HB := Lib.hid hbad
  clear hok hr hbad
  go_enter Try.func52, Try.ntmps52
  go_wp2
  go_loop [8] (fun i => ∃ k : Nat, k ≤ j ∧ i = .int .i64 k) (fun i => len - (intOf i).toNat)
  case atStart => exact ⟨0, Nat.zero_le _, rfl⟩
  case round =>
    obtain ⟨k, hk, rfl⟩ := hrel
    have hlt : k < len := by omega
    rcases HR.out with h0 | ⟨b, off, rfl, hb, hc⟩
    · omega
    · have hck := hc k hlt
      by_cases hkj : k < j
      · obtain ⟨g1, g8⟩ := not_bad (HOK.out k hkj)
        clear hc
        go_wp2_with (go_at_call 44; refine (noWidth_no _ g1 g8 _).mono ?_; rintro e w' ⟨rfl, rfl⟩)
        go_round
        case rel => exact ⟨k + 1, by omega, by go_num⟩
        case measure => simp [intOf]; omega
      · obtain rfl : k = j := by omega
        clear hc
        go_wp2_with (go_at_call 44; refine (noWidth_yes _ HB.out _).mono ?_; rintro e w' ⟨rfl, rfl⟩)
        go_ret
        exact ⟨rfl, rfl⟩

theorem contains_none (a : Option Addr) (len cap : Nat) (Z : Nat → Int) (hl : len ≤ 300) (w : World) (hr : Row .i64 w a len Z) (hok : ∀ i, i < len → ¬ Bad (Z i)) :
    Calls Try.prog 43 #[.slice a len cap, .func (.func 44) #[] #[]] w fun e w' => e = .returned (.bool false) ∧ w = w' := by
  have HC := Lib.hid (index_none a len cap Z hl w hr hok)
  clear hok hr
  go_enter Try.func43, Try.ntmps43
  go_wp2_with fail
  refine HC.out.mono ?_
  rintro e w1 ⟨rfl, rfl⟩
  go_wp2
  go_ret
  exact ⟨rfl, rfl⟩
theorem contains_some (a : Option Addr) (len cap : Nat) (Z : Nat → Int) (hl : len ≤ 300) (w : World) (hr : Row .i64 w a len Z) (hbad : ∃ i, i < len ∧ Bad (Z i)) :
    Calls Try.prog 43 #[.slice a len cap, .func (.func 44) #[] #[]] w fun e w' => e = .returned (.bool true) ∧ w = w' := by
  obtain ⟨j, hj, hb, hn⟩ := first_place (fun i => Bad (Z i)) len hbad
  have HC := Lib.hid (index_some a len cap j Z hl w hr hj hb hn)
  clear hbad hr hn hb
  go_enter Try.func43, Try.ntmps43
  go_wp2_with fail
  refine HC.out.mono ?_
  rintro e w1 ⟨rfl, rfl⟩
  go_wp2
  go_ret
  exact ⟨rfl, rfl⟩
end FM
end Go.Proofs.Ytdjlflinepefbaa
