/- What scoriaref01.Row answers, for every two lists of at most 300 numbers and widths. No other condition. -/
import Derived.Test.YtbabeiehdjccpaaRefPut
import Derived.Test.YtbabeiehdjccpaaRow
import Derived.Deep.RegionHeld3
import Derived.WalkSmall
namespace Go.Proofs.Ytbabeiehdjccpaa
open Go.RowKit
namespace FM
set_option linter.unusedVariables false
set_option linter.unusedSimpArgs false

theorem rrow_len (a b : Option Addr) (la ca lb cb : Nat) (hne : la ≠ lb) (w : World) :
    Calls Try.prog 15 #[.slice a la ca, .slice b lb cb] w fun e w' => e = .returned (.tuple #[.string ⟨#[]⟩, .int .i64 1]) ∧ w = w' := by
  have h2 : ((la : Int) != (lb : Int)) = true := by simp; omega
  go_enter Try.func15, Try.ntmps15
  go_wp2
  go_ret2
  exact ⟨rfl, rfl⟩

set_option maxHeartbeats 800000 in
theorem rrow_bad (a b : Option Addr) (len ca cb : Nat) (Z : Nat → Int) (hl : len ≤ 300) (w : World) (hr : Row .i64 w b len Z) (hbad : ∃ i, i < len ∧ Bad (Z i)) :
    Calls Try.prog 15 #[.slice a len ca, .slice b len cb] w fun e w' => e = .returned (.tuple #[.string ⟨#[]⟩, .int .i64 1]) ∧ Below w.heap.size w w' := by
  obtain ⟨j, hj, hb, hn⟩ := first_place (fun i => Bad (Z i)) len hbad
  have h2 : ((len : Int) != (len : Int)) = false := by simp
  have HN := Lib.hid hn
  have HB := Lib.hid hb
  have HR := Lib.hid hr
  clear hbad hr hn hb
  go_enter Try.func15, Try.ntmps15
  go_wp2
  go_loopw [6] (fun i wr => ∃ k : Nat, k ≤ j ∧ i = .int .i64 k ∧ Below w.heap.size w wr) (fun i _ => len - (intOf i).toNat)
  case atStart => exact ⟨0, Nat.zero_le _, rfl, Below.refl _ _⟩
  case round =>
    obtain ⟨k, hk, rfl, hbel⟩ := hrel
    have hlt : k < len := by omega
    rcases HR.out with h0 | ⟨b, off, rfl, hb, hc⟩
    · omega
    · have hck : wr.cell? ⟨b, off + k, none⟩ = some (.int .i64 (Z k)) := by rw [hbel.cell (by simpa using hb)]; exact hc k hlt
      clear hc
      by_cases hkj : k < j
      · obtain ⟨g1, g8⟩ := not_bad (HN.out k hkj)
        have c1 : ¬ Z k < 1 := by omega
        have c8 : ¬ 8 < Z k := by omega
        go_wp2
        go_roundw
        case rel => exact ⟨k + 1, by omega, by go_num, hbel⟩
        case measure => simp [intOf]; omega
      · obtain rfl : k = j := by omega
        by_cases c1 : Z k < 1
        · go_wp2
          go_ret2
          exact ⟨rfl, hbel⟩
        · have c8 : 8 < Z k := by
            have := HB.out
            unfold Bad at this
            omega
          go_wp2
          go_ret2
          exact ⟨rfl, hbel⟩

/-- How the reference's Row ends where the first J of the len numbers fit. -/
def RRowEnd (N Z : Nat → Int) (len J : Nat) (w : World) (e : Ending) (w' : World) : Prop :=
  (J = len → e = .returned (.tuple #[.string (str (rowl N Z len)), .int .i64 0]) ∧ Below w.heap.size w w') ∧
  (J < len → e = .returned (.tuple #[.string ⟨#[]⟩, .int .i64 2]) ∧ Below w.heap.size w w')

theorem str_cat (l m : List UInt8) : str l ++ str m = str (l ++ m) := by
  apply ByteArray.ext
  simp [str]

set_option maxHeartbeats 3200000 in
theorem rrow_good (a b : Option Addr) (len ca cb : Nat) (N Z : Nat → Int) (hl : len ≤ 300) (w : World) (hn : Row .u64 w a len N) (hr : Row .i64 w b len Z) (hN : ∀ i, i < len → 0 ≤ N i ∧ N i < 18446744073709551616) (hok : ∀ i, i < len → ¬ Bad (Z i))
    (J : Nat) (hJ : J ≤ len) (hin : ∀ i, i < J → (N i).toNat < 256 ^ (Z i).toNat) (hout : J < len → 256 ^ (Z J).toNat ≤ (N J).toNat) :
    Calls Try.prog 15 #[.slice a len ca, .slice b len cb] w (RRowEnd N Z len J w) := by
  have h2 : ((len : Int) != (len : Int)) = false := by simp
  have hrl : ∀ k, k ≤ len → (rowl N Z k).length ≤ 8 * k := fun k hk => rowl_len N Z k (fun i hi => (not_bad (hok i (by omega))).2)
  have HRL := Lib.hid hrl
  have HOK := Lib.hid hok
  have HA := Lib.hid hn
  have HR := Lib.hid hr
  have HO := Lib.hid hout
  have HI := Lib.hid hin
  have HN := Lib.hid hN
  clear hok hr hout hin hn hN hrl
  go_enter Try.func15, Try.ntmps15
  go_wp2
  go_loopw [6] (fun i wr => ∃ k : Nat, k ≤ len ∧ i = .int .i64 k ∧ Below w.heap.size w wr) (fun i _ => len - (intOf i).toNat)
  case atStart => exact ⟨0, Nat.zero_le _, rfl, Below.refl _ _⟩
  case round =>
    obtain ⟨k, hk, rfl, hbel⟩ := hrel
    by_cases hlt : k < len
    · rcases HR.out with h0 | ⟨b, off, rfl, hb, hc⟩
      · omega
      · have hck : wr.cell? ⟨b, off + k, none⟩ = some (.int .i64 (Z k)) := by rw [hbel.cell (by simpa using hb)]; exact hc k hlt
        clear hc
        obtain ⟨g1, g8⟩ := not_bad (HOK.out k hlt)
        have c1 : ¬ Z k < 1 := by omega
        have c8 : ¬ 8 < Z k := by omega
        go_wp2
        go_roundw
        case rel => exact ⟨k + 1, by omega, by go_num, hbel⟩
        case measure => simp [intOf]; omega
    · obtain rfl : k = len := by omega
      go_wp2
      obtain ⟨wo, rfl⟩ : ∃ wo : World, wo = wr := ⟨_, rfl⟩
      go_loopw [7, 8] (fun t i wr => ∃ j : Nat, j ≤ J ∧ i = .int .i64 j ∧ t = .string (str (rowl N Z j)) ∧ Below w.heap.size w wr) (fun _ i _ => k - (intOf i).toNat)
      case atStart => exact ⟨0, Nat.zero_le _, rfl, rfl, hbel⟩
      case round =>
        obtain ⟨j, hj, rfl, rfl, hbl⟩ := hrel
        have hsz := hbl.size
        by_cases hlt2 : j < k
        · rcases HA.out with h0 | ⟨ba, oa, rfl, hba, hca⟩
          · omega
          · rcases HR.out with h0 | ⟨bb, ob, rfl, hbb, hcb⟩
            · omega
            · have hc1 : wr.cell? ⟨ba, oa + j, none⟩ = some (.int .u64 (N j)) := by rw [hbl.cell (by simpa using hba)]; exact hca j hlt2
              have hc2 : wr.cell? ⟨bb, ob + j, none⟩ = some (.int .i64 (Z j)) := by rw [hbl.cell (by simpa using hbb)]; exact hcb j hlt2
              clear hca hcb
              obtain ⟨g1, g8⟩ := not_bad (HOK.out j hlt2)
              obtain ⟨q0, q1⟩ := HN.out j hlt2
              obtain ⟨m, hm⟩ := Int.eq_ofNat_of_zero_le q0
              obtain ⟨d, hd⟩ := Int.eq_ofNat_of_zero_le (show 0 ≤ Z j by omega)
              rw [hm] at hc1 q1
              rw [hd] at hc2 g1 g8
              have f1 : 1 ≤ d := by omega
              have f8 : d ≤ 8 := by omega
              have m64 : m < 18446744073709551616 := by omega
              have HM := Lib.hid hm
              have HD := Lib.hid hd
              have i0 : (0 : Int) ≤ (j : Int) := by omega
              have i1 : (j : Int) < (k : Int) := by omega
              have d1 : wr.drew.cell? ⟨ba, oa + j, none⟩ = some (.int .u64 (m : Int)) := hc1
              have d2 : wr.drew.cell? ⟨bb, ob + j, none⟩ = some (.int .i64 (d : Int)) := hc2
              have hbd : Below w.heap.size w wr.drew := hbl.drew
              clear hm hd q0 q1 g1 g8
              by_cases hkJ : j < J
              · have hfit : Hid (m < 256 ^ d) := by
                  have := HI.out j hkJ
                  rw [HM.out, HD.out] at this
                  exact this
                have hrow : Hid (str (rowl N Z j) ++ str (fb m d) = str (rowl N Z (j + 1))) := by
                  show str (rowl N Z j) ++ str (fb m d) = str (rowl N Z j ++ fb (N j).toNat (Z j).toNat)
                  rw [str_cat, HM.out, HD.out]; rfl
                have l1 : (str (rowl N Z j)).size ≤ 2400 := by
                  have := HRL.out j (by omega)
                  rw [str_size]; omega
                have l2 : (str (fb m d)).size ≤ 8 := by rw [str_size, fb_length]; exact f8
                go_wp2
                go_region_held3 (fun w' => w'.cell? ⟨ba, oa + j, none⟩ = some (.int .u64 (m : Int)) ∧ w'.cell? ⟨bb, ob + j, none⟩ = some (.int .i64 (d : Int)) ∧ Below w.heap.size w w') (first | exact ⟨d1, d2, hbd⟩ | exact ⟨e1, e2, hb4⟩) ((go_at_call 24; refine (rfield_yes m d m64 f1 f8 hfit.out _).mono ?_; rintro e w2 ⟨rfl, hb2⟩; have e1 : w2.cell? ⟨ba, oa + j, none⟩ = some (.int .u64 (m : Int)) := (hb2.cell (p := ⟨ba, oa + j, none⟩) (Nat.lt_of_lt_of_le hba hsz)).trans d1; have e2 : w2.cell? ⟨bb, ob + j, none⟩ = some (.int .i64 (d : Int)) := (hb2.cell (p := ⟨bb, ob + j, none⟩) (Nat.lt_of_lt_of_le hbb hsz)).trans d2; have hb4 : Below w.heap.size w w2 := hbd.trans (hb2.mono hsz)))
                all_goals
                  go_wp2
                  go_roundw
                  case rel => exact ⟨j + 1, by omega, by go_num, by rw [← hrow.out], hb4⟩
                  case measure => simp [intOf]; omega
              · obtain rfl : j = J := by omega
                have hfit : Hid (256 ^ d ≤ m) := by
                  have := HO.out hlt2
                  rw [HM.out, HD.out] at this
                  exact this
                go_wp2
                go_region_held3 (fun w' => w'.cell? ⟨ba, oa + j, none⟩ = some (.int .u64 (m : Int)) ∧ w'.cell? ⟨bb, ob + j, none⟩ = some (.int .i64 (d : Int)) ∧ Below w.heap.size w w') (first | exact ⟨d1, d2, hbd⟩ | exact ⟨e1, e2, hb4⟩) ((go_at_call 24; refine (rfield_no m d m64 f1 f8 hfit.out _).mono ?_; rintro e w2 ⟨rfl, hb2⟩; have e1 : w2.cell? ⟨ba, oa + j, none⟩ = some (.int .u64 (m : Int)) := (hb2.cell (p := ⟨ba, oa + j, none⟩) (Nat.lt_of_lt_of_le hba hsz)).trans d1; have e2 : w2.cell? ⟨bb, ob + j, none⟩ = some (.int .i64 (d : Int)) := (hb2.cell (p := ⟨bb, ob + j, none⟩) (Nat.lt_of_lt_of_le hbb hsz)).trans d2; have hb4 : Below w.heap.size w w2 := hbd.trans (hb2.mono hsz)))
                all_goals
                  go_wp2
                  go_ret2
                  exact ⟨fun h => by omega, fun _ => ⟨rfl, hb4⟩⟩
        · obtain rfl : j = k := by omega
          obtain rfl : J = j := by omega
          go_wp2
          go_ret2
          exact ⟨fun _ => ⟨rfl, hbl⟩, fun h => by omega⟩
end FM
end Go.Proofs.Ytbabeiehdjccpaa
