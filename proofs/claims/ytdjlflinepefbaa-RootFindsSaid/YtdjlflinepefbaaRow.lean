/- What scoria/field.Row answers, for every two lists of at most 300 numbers and widths. No other condition. -/
import Derived.Test.YtdjlflinepefbaaRowIn
import Derived.Test.YtdjlflinepefbaaBuilder
namespace Go.Proofs.Ytdjlflinepefbaa
open Go.RowKit
namespace FM
set_option linter.unusedVariables false
set_option linter.unusedSimpArgs false

/-- The first k fields of a row. -/
def rowl (N Z : Nat → Int) : Nat → List UInt8
  | 0 => []
  | k + 1 => rowl N Z k ++ fb (N k).toNat (Z k).toNat
theorem rowl_len (N Z : Nat → Int) (k : Nat) (h : ∀ i, i < k → Z i ≤ 8) : (rowl N Z k).length ≤ 8 * k := by
  induction k with
  | zero => exact Nat.le_refl _
  | succ k ih =>
    have h1 := ih (fun i hi => h i (by omega))
    have h2 := h k (by omega)
    rw [rowl, List.length_append, fb_length]
    omega
theorem cells_cat (l m : List UInt8) : Lib.byteCells l ++ Lib.strCells (str m) = Lib.byteCells (l ++ m) := by
  simp [Lib.byteCells, Lib.strCells, str]
theorem builder_kept {T e : TypeId} {B b : Nat} {bs : List Value} {w w' : World} (h : Lib.IsBuilder T e B b bs w) (hb : Below w.heap.size w w') : Lib.IsBuilder T e B b bs w' := by
  have key : ∀ p, Lib.BuilderAt T e B b p bs w → Lib.BuilderAt T e B b p bs w' := by
    intro p hp
    have hlt := hp.lt
    obtain ⟨hB, v, hbk, hown, hne⟩ := hp
    exact ⟨hB, v, by rw [hb.block b hlt]; exact hbk, hown.kept (row := none) ⟨hb.os, hb.tape, hb.output, hb.size, fun j hj _ => hb.block j hj⟩ (by cases v.ownBlock <;> simp), hne⟩
  rcases h with h | h
  · exact .inl (key _ h)
  · exact .inr (key _ h)

theorem row_len (a b : Option Addr) (la ca lb cb : Nat) (hne : la ≠ lb) (w : World) :
    Calls Try.prog 23 #[.slice a la ca, .slice b lb cb] w fun e w' => e = .returned (.tuple #[.string ⟨#[]⟩, .int .i64 1]) ∧ w = w' := by
  have h2 : ((la : Int) != (lb : Int)) = true := by simp; omega
  go_enter Try.func23, Try.ntmps23
  go_wp2
  go_ret2
  exact ⟨rfl, rfl⟩

set_option maxHeartbeats 400000 in
theorem row_bad (a b : Option Addr) (len ca cb : Nat) (Z : Nat → Int) (hl : len ≤ 300) (w : World) (hr : Row .i64 w b len Z) (hbad : ∃ i, i < len ∧ Bad (Z i)) :
    Calls Try.prog 23 #[.slice a len ca, .slice b len cb] w fun e w' => e = .returned (.tuple #[.string ⟨#[]⟩, .int .i64 1]) ∧ w = w' := by
  have HC := Lib.hid (contains_some b len cb Z hl w hr hbad)
  have h2 : ((len : Int) != (len : Int)) = false := by simp
  clear hbad hr
  go_enter Try.func23, Try.ntmps23
  go_wp2_with fail
  refine HC.out.mono ?_
  rintro e w1 ⟨rfl, rfl⟩
  go_wp2
  go_ret2
  exact ⟨rfl, rfl⟩

/-- How Row ends where the first J of the len numbers fit. -/
def RowEnd (N Z : Nat → Int) (len J : Nat) (w : World) (e : Ending) (w' : World) : Prop :=
  (J = len → e = .returned (.tuple #[.string (str (rowl N Z len)), .int .i64 0]) ∧ Below w.heap.size w w') ∧
  (J < len → e = .returned (.tuple #[.string ⟨#[]⟩, .int .i64 2]) ∧ Below w.heap.size w w')

set_option maxHeartbeats 1600000 in
theorem row_good (a b : Option Addr) (len ca cb : Nat) (N Z : Nat → Int) (hl : len ≤ 300) (w : World) (hn : Row .u64 w a len N) (hr : Row .i64 w b len Z) (hN : ∀ i, i < len → 0 ≤ N i ∧ N i < 18446744073709551616) (hok : ∀ i, i < len → ¬ Bad (Z i))
    (J : Nat) (hJ : J ≤ len) (hin : ∀ i, i < J → (N i).toNat < 256 ^ (Z i).toNat) (hout : J < len → 256 ^ (Z J).toNat ≤ (N J).toNat) :
    Calls Try.prog 23 #[.slice a len ca, .slice b len cb] w (RowEnd N Z len J w) := by
  have HC := Lib.hid (contains_none b len cb Z hl w hr hok)
  have h2 : ((len : Int) != (len : Int)) = false := by simp
  have hrl : ∀ k, k ≤ len → (rowl N Z k).length ≤ 8 * k := fun k hk => rowl_len N Z k (fun i hi => (not_bad (hok i (by omega))).2)
  have HRL := Lib.hid hrl
  have HOK := Lib.hid hok
  have HA := Lib.hid hn
  have HR := Lib.hid hr
  have HO := Lib.hid hout
  have HI := Lib.hid hin
  have HN := Lib.hid hN
  clear hok hr hout hin hn hN hrl
  go_enter Try.func23, Try.ntmps23
  go_wp2_with fail
  refine HC.out.mono ?_
  rintro e w1 ⟨rfl, rfl⟩
  go_wp2
  go_loopw [22] (fun i wr => ∃ k : Nat, k ≤ J ∧ i = .int .i64 k ∧ Lib.IsBuilder 63 5 w.heap.size w.heap.size (Lib.byteCells (rowl N Z k)) wr ∧ Below w.heap.size w wr) (fun i _ => len - (intOf i).toNat)
  case atStart => exact ⟨0, Nat.zero_le _, rfl, Lib.fresh_isBuilder _ _ w, (Below.refl _ _).alloc (Nat.le_refl _) _⟩
  case round =>
    obtain ⟨k, hk, rfl, hbd, hbel⟩ := hrel
    have hsz := hbel.size
    have HBD := Lib.hid hbd
    clear hbd
    by_cases hlt : k < len
    · rcases HA.out with h0 | ⟨ba, oa, rfl, hba, hca⟩
      · omega
      · rcases HR.out with h0 | ⟨bb, ob, rfl, hbb, hcb⟩
        · omega
        · have hc1 : wr.cell? ⟨ba, oa + k, none⟩ = some (.int .u64 (N k)) := by rw [hbel.cell (by simpa using hba)]; exact hca k hlt
          have hc2 : wr.cell? ⟨bb, ob + k, none⟩ = some (.int .i64 (Z k)) := by rw [hbel.cell (by simpa using hbb)]; exact hcb k hlt
          clear hca hcb
          obtain ⟨g1, g8⟩ := not_bad (HOK.out k hlt)
          obtain ⟨q0, q1⟩ := HN.out k hlt
          obtain ⟨m, hm⟩ := Int.eq_ofNat_of_zero_le q0
          obtain ⟨d, hd⟩ := Int.eq_ofNat_of_zero_le (show 0 ≤ Z k by omega)
          rw [hm] at hc1 q1
          rw [hd] at hc2 g1 g8
          have f1 : 1 ≤ d := by omega
          have f8 : d ≤ 8 := by omega
          have m64 : m < 18446744073709551616 := by omega
          have HM := Lib.hid hm
          have HD := Lib.hid hd
          have i0 : (k : Int) < (len : Int) := by omega
          clear hm hd q0 q1 g1 g8
          by_cases hkJ : k < J
          · have hfit : Hid (m < 256 ^ d) := by
              have := HI.out k hkJ
              rw [HM.out, HD.out] at this
              exact this
            have hrow : Hid (rowl N Z (k + 1) = rowl N Z k ++ fb m d) := by
              show rowl N Z k ++ fb (N k).toNat (Z k).toNat = _
              rw [HM.out, HD.out]; rfl
            have hlen : Hid ((Lib.byteCells (rowl N Z k)).length + (str (fb m d)).size ≤ 140737488355328) := by
              have := HRL.out k (by omega)
              have e1 : (Lib.byteCells (rowl N Z k)).length = (rowl N Z k).length := by simp [Lib.byteCells]
              show _ ≤ _
              rw [e1, str_size, fb_length]; omega
            go_wp2_with fail
            refine (put_ok m d m64 f1 f8 hfit.out _).mono ?_
            rintro e w2 ⟨rfl, hb2⟩
            have hz2 : w.heap.size ≤ w2.heap.size := Nat.le_trans hsz hb2.size
            go_wp2_with fail
            refine (write_any w.heap.size w.heap.size _ (str (fb m d)) w2 (builder_kept HBD.out hb2) hlen.out hz2).mono ?_
            rintro e w3 ⟨rfl, hbd3, hb3⟩
            rw [cells_cat, ← hrow.out] at hbd3
            have hb13 : Below w.heap.size w w3 := hbel.trans ((hb2.mono hsz).trans hb3)
            have H3 := Lib.hid hbd3
            clear hbd3 hb2 hb3 hz2
            go_wp2
            go_roundw
            case rel => exact ⟨k + 1, by omega, by go_num, .inr H3.out, hb13⟩
            case measure => simp [intOf]; omega
          · obtain rfl : k = J := by omega
            have hfit : Hid (256 ^ d ≤ m) := by
              have := HO.out hlt
              rw [HM.out, HD.out] at this
              exact this
            go_wp2_with fail
            refine (put_long m d m64 f1 f8 hfit.out _).mono ?_
            rintro e w2 ⟨rfl, rfl⟩
            go_wp2
            go_ret2
            exact ⟨fun h => by omega, fun _ => ⟨rfl, hbel⟩⟩
    · obtain rfl : k = len := by omega
      obtain rfl : J = k := by omega
      have i0 : ¬ (J : Int) < (J : Int) := by omega
      go_wp2_with fail
      refine (string_any w.heap.size w.heap.size _ wr HBD.out hsz).mono ?_
      rintro e w2 ⟨rfl, hb2⟩
      go_wp2
      go_ret2
      exact ⟨fun _ => ⟨rfl, hbel.trans hb2⟩, fun h => by omega⟩
end FM
end Go.Proofs.Ytdjlflinepefbaa
