/- What scoria/field.Take answers, for every text and every list of at most 300 widths. No other condition. -/
import Derived.Test.YtdjlflinepefbaaFGet
import Derived.Test.YtdjlflinepefbaaRowIn
import Derived.Deep.QuietTactic
import Derived.BigQuiet
import Derived.WalkSmall
namespace Go.Proofs.Ytdjlflinepefbaa
open Go.RowKit
namespace FM
set_option linter.unusedVariables false
set_option linter.unusedSimpArgs false

theorem info_u64 : (Try.prog.info? 65).map (fun i => (i.zero, i.size, i.bytes)) = some (some (.int .u64 0), 1, 8) := by kernel_rfl

/-- Where field k of a row begins. -/
def pos (Z : Nat → Int) : Nat → Nat
  | 0 => 0
  | k + 1 => pos Z k + (Z k).toNat
/-- The number of field k of the row at the front of l. -/
def num (l : List UInt8) (Z : Nat → Int) (k : Nat) : Nat := val ((l.drop (pos Z k)).take (Z k).toNat)
def nums (l : List UInt8) (Z : Nat → Int) (k : Nat) : List Value := (List.range k).map fun i => Value.int .u64 (num l Z i : Int)
theorem nums_succ (l : List UInt8) (Z : Nat → Int) (k : Nat) : nums l Z (k + 1) = nums l Z k ++ [Value.int .u64 (num l Z k : Int)] := by
  simp [nums, List.range_succ]
theorem nums_len (l : List UInt8) (Z : Nat → Int) (k : Nat) : (nums l Z k).length = k := by simp [nums]
theorem pos_mono (Z : Nat → Int) {i j : Nat} (h : i ≤ j) : pos Z i ≤ pos Z j := by
  induction j with
  | zero => obtain rfl : i = 0 := by omega
            exact Nat.le_refl _
  | succ j ih =>
    by_cases e : i = j + 1
    · rw [e]; exact Nat.le_refl _
    · exact Nat.le_trans (ih (by omega)) (Nat.le_add_right _ _)

/-- A new cell of one value reads as that value. -/
theorem one_cell (w : World) (x : Value) (t : TypeId) : ∀ j u, [x][j]? = some u → (w.alloc (.cells #[x] t)).cell? ((⟨w.heap.size, 0, none⟩ : Addr).add j) = some u := by
  intro j u h
  match j, h with
  | 0, h => simp at h; subst h; simp [Addr.add, World.cell?_alloc_new]
  | j + 1, h => simp at h

set_option maxHeartbeats 400000 in
theorem take_arg (s : ByteArray) (a : Option Addr) (len cap : Nat) (Z : Nat → Int) (hl : len ≤ 300) (w : World) (hr : Row .i64 w a len Z) (hbad : ∃ i, i < len ∧ Bad (Z i)) :
    Calls Try.prog 30 #[.string s, .slice a len cap] w fun e w' => e = .returned (.tuple #[.slice none 0 0, .string ⟨#[]⟩, .int .i64 1]) ∧ w = w' := by
  have HC := Lib.hid (contains_some a len cap Z hl w hr hbad)
  clear hbad hr
  go_enter Try.func30, Try.ntmps30
  go_wp2_with fail
  refine HC.out.mono ?_
  rintro e w1 ⟨rfl, rfl⟩
  go_wp2
  go_ret3
  exact ⟨rfl, rfl⟩

/-- How Take ends where J of the len fields stand in the text. -/
def TakeEnd (s : ByteArray) (Z : Nat → Int) (len J : Nat) (w : World) (e : Ending) (w' : World) : Prop :=
  (J = len → ∃ v, e = .returned (.tuple #[v, .string (s.extract (pos Z len) s.size), .int .i64 0]) ∧ w'.ownsRow w.heap.size 65 1 v len (nums s.data.toList Z len) ∧ Below w.heap.size w w') ∧
  (J < len → e = .returned (.tuple #[.slice none 0 0, .string ⟨#[]⟩, .int .i64 5]) ∧ Below w.heap.size w w')

set_option maxHeartbeats 1600000 in
theorem take_good (s : ByteArray) (hs : s.size ≤ 140737488351232) (a : Option Addr) (len cap : Nat) (Z : Nat → Int) (hl : len ≤ 300) (w : World) (hr : Row .i64 w a len Z) (hok : ∀ i, i < len → ¬ Bad (Z i))
    (J : Nat) (hJ : J ≤ len) (hin : pos Z J ≤ s.size) (hout : J < len → s.size < pos Z (J + 1)) :
    Calls Try.prog 30 #[.string s, .slice a len cap] w (TakeEnd s Z len J w) := by
  obtain ⟨i0, hi, hz0, hz1, hz2⟩ := info_parts info_u64
  have HC := Lib.hid (contains_none a len cap Z hl w hr hok)
  have HOK := Lib.hid hok
  have HR := Lib.hid hr
  have HO := Lib.hid hout
  clear hok hr hout
  go_enter Try.func30, Try.ntmps30
  go_wp2_with fail
  refine HC.out.mono ?_
  rintro e w1 ⟨rfl, rfl⟩
  go_wp2
  go_loopw [4, 7, 16] (fun v p i wr => ∃ k q : Nat, k ≤ J ∧ i = .int .i64 k ∧ p = .int .i64 (q : Int) ∧ Hid (q = pos Z k) ∧ q ≤ s.size ∧ wr.ownsRow w.heap.size 65 1 v k (nums s.data.toList Z k) ∧ Below w.heap.size w wr) (fun _ _ i _ => len - (intOf i).toNat)
  case atStart => exact ⟨0, 0, Nat.zero_le _, rfl, rfl, (rfl : 0 = pos Z 0), Nat.zero_le _, World.ownsRow_nil _ _ _ _, Below.refl _ _⟩
  case round =>
    obtain ⟨k, q, hk, rfl, rfl, hq, hqs, hown, hbel⟩ := hrel
    have hsz := hbel.size
    by_cases hlt : k < len
    · rcases HR.out with h0 | ⟨b, off, rfl, hb, hc⟩
      · omega
      · have hck : wr.cell? ⟨b, off + k, none⟩ = some (.int .i64 (Z k)) := by rw [hbel.cell (by simpa using hb)]; exact hc k hlt
        obtain ⟨g1, g8⟩ := not_bad (HOK.out k hlt)
        obtain ⟨n, hn⟩ := Int.eq_ofNat_of_zero_le (show 0 ≤ Z k by omega)
        rw [hn] at hck g1 g8
        have f1 : 1 ≤ n := by omega
        have f8 : n ≤ 8 := by omega
        have hpos : Hid (pos Z (k + 1) = q + n) := by show pos Z k + (Z k).toNat = q + n; rw [hn, hq.out]; rfl
        have HN := Lib.hid hn
        clear hc hn g1 g8
        by_cases hkJ : k < J
        · have hfit : q + n ≤ s.size := by rw [← hpos.out]; exact Nat.le_trans (pos_mono Z hkJ) hin
          go_wp2_with fail
          refine (get_ok s (by omega) q n f1 f8 hfit _).mono ?_
          rintro e w2 ⟨rfl, rfl⟩
          go_wp2_with (at_builtin; refine wpList_append_own _ rfl _ _ 66 rfl w.heap.size 65 i0 (.int .u64 0) 1 8 Try.underlying66 hi hz0 hz1 hz2 rfl (by decide) _ _ _ rfl (hown.alloc _) ⟨wr.heap.size, 0, none⟩ 1 1 [.int .u64 (val ((s.data.toList.drop q).take n) : Int)] rfl rfl ?c1 ?c2 ?c3 ?c4 ?c5 ?_)
          case c1 => exact one_cell _ _ _
          case c2 => intro u hu; simp at hu; subst hu; rfl
          case c3 => unfold maxLen; omega
          case c4 => omega
          case c5 => simp; omega
          intro v' w1 hown' hgrow _
          have hnum : num s.data.toList Z k = val ((s.data.toList.drop q).take n) := by unfold num; rw [← hq.out, HN.out]; rfl
          rw [← hnum, ← nums_succ] at hown'
          have hbel' : Below w.heap.size w w1 := (hbel.alloc hsz _).grown hgrow (by simp; omega) (fun j hj => (hown.lt j hj).1)
          have HOw := Lib.hid hown'
          clear hown' hown hgrow hnum
          go_wp2
          go_roundw
          case rel => exact ⟨k + 1, q + n, by omega, by go_num, by go_num, hpos.out.symm, hfit, HOw.out, hbel'⟩
          case measure => simp [intOf]; omega
        · obtain rfl : k = J := by omega
          have hfit : s.size < q + n := by rw [← hpos.out]; exact HO.out hlt
          go_wp2_with fail
          refine (get_short s (by omega) (q : Int) (n : Int) (by omega) (by omega) (by omega) (by omega) _).mono ?_
          rintro e w2 ⟨rfl, rfl⟩
          go_wp2
          go_ret3
          exact ⟨fun h => by omega, fun _ => ⟨rfl, hbel⟩⟩
    · obtain rfl : k = len := by omega
      obtain rfl : J = k := by omega
      have hq0 : (0 : Int) ≤ (q : Int) := by omega
      have hq1 : (q : Int) ≤ (s.size : Int) := by omega
      have HQ := Lib.hid hq.out
      go_wp2
      go_quiet (fail)
      go_wp2
      go_ret3
      exact ⟨fun _ => ⟨_, by rw [← HQ.out]; rfl, hown, below_drewN hbel _⟩, fun h => by omega⟩

/-- How many of the fields stand in a text of so many bytes. -/
theorem place_of (Z : Nat → Int) (len size : Nat) : ∃ J, J ≤ len ∧ pos Z J ≤ size ∧ (J < len → size < pos Z (J + 1)) := by
  induction len with
  | zero => exact ⟨0, Nat.le_refl _, Nat.zero_le _, fun h => by omega⟩
  | succ n ih =>
    obtain ⟨J, h1, h2, h3⟩ := ih
    by_cases hJ : J < n
    · exact ⟨J, by omega, h2, fun _ => h3 hJ⟩
    · obtain rfl : J = n := by omega
      by_cases hf : pos Z (J + 1) ≤ size
      · exact ⟨J + 1, Nat.le_refl _, hf, fun h => by omega⟩
      · exact ⟨J, by omega, h2, fun _ => by omega⟩
end FM
end Go.Proofs.Ytdjlflinepefbaa
