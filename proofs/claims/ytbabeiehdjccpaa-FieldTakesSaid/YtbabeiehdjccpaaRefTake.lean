/- What scoriaref01.Take answers, for every text and every list of at most 300 widths. No other condition. -/
import Derived.Test.YtbabeiehdjccpaaRefGet
import Derived.Test.YtbabeiehdjccpaaSame
namespace Go.Proofs.Ytbabeiehdjccpaa
open Go.RowKit
namespace FM
set_option linter.unusedVariables false
set_option linter.unusedSimpArgs false

set_option maxHeartbeats 800000 in
theorem rtake_arg (s : ByteArray) (a : Option Addr) (len cap : Nat) (Z : Nat → Int) (hl : len ≤ 300) (w : World) (hr : Row .i64 w a len Z) (hbad : ∃ i, i < len ∧ Bad (Z i)) :
    Calls Try.prog 17 #[.string s, .slice a len cap] w fun e w' => e = .returned (.tuple #[.slice none 0 0, .string ⟨#[]⟩, .int .i64 1]) ∧ Below w.heap.size w w' := by
  obtain ⟨j, hj, hb, hn⟩ := first_place (fun i => Bad (Z i)) len hbad
  have HN := Lib.hid hn
  have HB := Lib.hid hb
  have HR := Lib.hid hr
  clear hbad hr hn hb
  go_enter Try.func17, Try.ntmps17
  go_wp2
  go_loopw [7] (fun i wr => ∃ k : Nat, k ≤ j ∧ i = .int .i64 k ∧ Below w.heap.size w wr) (fun i _ => len - (intOf i).toNat)
  case atStart => exact ⟨0, Nat.zero_le _, rfl, Below.refl _ _⟩
  case round =>
    obtain ⟨k, hk, rfl, hbel⟩ := hrel
    have hlt : k < len := by omega
    rcases HR.out with h0 | ⟨b, off, rfl, hb, hc⟩
    · omega
    · have hck : wr.cell? ⟨b, off + k, none⟩ = some (.int .i64 (Z k)) := by rw [hbel.cell (by simpa using hb)]; exact hc k hlt
      clear hc
      by_cases hkj : k < j
      · obtain ⟨g1, g8⟩ := not_bad (HN.out k hkj)
        have c1 : ¬ Z k < 1 := by omega
        have c8 : ¬ 8 < Z k := by omega
        go_wp2
        go_roundw
        case rel => exact ⟨k + 1, by omega, by go_num, hbel⟩
        case measure => simp [intOf]; omega
      · obtain rfl : k = j := by omega
        by_cases c1 : Z k < 1
        · go_wp2
          go_ret3
          exact ⟨rfl, hbel⟩
        · have c8 : 8 < Z k := by
            have := HB.out
            unfold Bad at this
            omega
          go_wp2
          go_ret3
          exact ⟨rfl, hbel⟩

/-- How the reference's Take ends where J of the len fields stand in the text. -/
def RTakeEnd (s : ByteArray) (Z : Nat → Int) (len J : Nat) (w : World) (e : Ending) (w' : World) : Prop :=
  (J = len → ∃ v, e = .returned (.tuple #[v, .string (s.extract (pos Z len) s.size), .int .i64 0]) ∧ w'.ownsRow w.heap.size 22 1 v len (nums s.data.toList Z len) ∧ Below w.heap.size w w') ∧
  (J < len → e = .returned (.tuple #[.slice none 0 0, .string ⟨#[]⟩, .int .i64 5]) ∧ Below w.heap.size w w')

/-- 's[n:]' of what is left of a text. -/
theorem run_from (s : ByteArray) (p n : Nat) (h : p + n ≤ s.size) (w : World) :
    (Instr.slice 9 (.string (cutAt s p)) (some (.int .i64 (n : Int))) none none).run Try.prog w = .ok (.string (cutAt s (p + n))) w := by
  have hz := cutAt_size s p (by omega)
  rw [run_slice_string_from_if w 9 (cutAt s p) .i64 (n : Int) Try.underlying9]
  rw [hz, if_pos ⟨by omega, by omega⟩, Int.toNat_natCast, cutAt_cutAt s p n h]

set_option maxHeartbeats 1600000 in
theorem rtake_good (s : ByteArray) (hs : s.size ≤ 140737488351232) (a : Option Addr) (len cap : Nat) (Z : Nat → Int) (hl : len ≤ 300) (w : World) (hr : Row .i64 w a len Z) (hok : ∀ i, i < len → ¬ Bad (Z i))
    (J : Nat) (hJ : J ≤ len) (hin : pos Z J ≤ s.size) (hout : J < len → s.size < pos Z (J + 1)) :
    Calls Try.prog 17 #[.string s, .slice a len cap] w (RTakeEnd s Z len J w) := by
  obtain ⟨i0, hi, hz0, hz1, hz2⟩ := info_parts info_u64
  have HOK := Lib.hid hok
  have HR := Lib.hid hr
  have HO := Lib.hid hout
  clear hok hr hout
  go_enter Try.func17, Try.ntmps17
  go_wp2
  go_loopw [7] (fun i wr => ∃ k : Nat, k ≤ len ∧ i = .int .i64 k ∧ Below w.heap.size w wr) (fun i _ => len - (intOf i).toNat)
  case atStart => exact ⟨0, Nat.zero_le _, rfl, Below.refl _ _⟩
  case round =>
    obtain ⟨k, hk, rfl, hbel⟩ := hrel
    by_cases hlt : k < len
    · rcases HR.out with h0 | ⟨b, off, rfl, hb, hc⟩
      · omega
      · have hck : wr.cell? ⟨b, off + k, none⟩ = some (.int .i64 (Z k)) := by rw [hbel.cell (by simpa using hb)]; exact hc k hlt
        clear hc
        obtain ⟨g1, g8⟩ := not_bad (HOK.out k hlt)
        have c1 : ¬ Z k < 1 := by omega
        have c8 : ¬ 8 < Z k := by omega
        go_wp2
        go_roundw
        case rel => exact ⟨k + 1, by omega, by go_num, hbel⟩
        case measure => simp [intOf]; omega
    · have hsz1 := hbel.size
      obtain rfl : k = len := by omega
      go_wp2
      obtain ⟨wo, rfl⟩ : ∃ wo : World, wo = wr := ⟨_, rfl⟩
      go_loopw [0, 8, 9] (fun t v i wr => ∃ j q : Nat, j ≤ J ∧ i = .int .i64 j ∧ t = .string (cutAt s q) ∧ Hid (q = pos Z j) ∧ q ≤ s.size ∧ wr.ownsRow w.heap.size 22 1 v j (nums s.data.toList Z j) ∧ Below w.heap.size w wr) (fun _ _ i _ => k - (intOf i).toNat)
      case atStart => exact ⟨0, 0, Nat.zero_le _, rfl, by rw [cutAt_zero], (rfl : 0 = pos Z 0), Nat.zero_le _, World.ownsRow_nil _ _ _ _, hbel⟩
      case round =>
        obtain ⟨j, q, hj, rfl, rfl, hq, hqs, hown, hbl⟩ := hrel
        have hsz := hbl.size
        have hcs := cutAt_size s q hqs
        have HCS := Lib.hid hcs
        clear hcs
        by_cases hlt2 : j < k
        · rcases HR.out with h0 | ⟨b, off, rfl, hb, hc⟩
          · omega
          · have hck : wr.cell? ⟨b, off + j, none⟩ = some (.int .i64 (Z j)) := by rw [hbl.cell (by simpa using hb)]; exact hc j hlt2
            obtain ⟨g1, g8⟩ := not_bad (HOK.out j hlt2)
            obtain ⟨n, hn⟩ := Int.eq_ofNat_of_zero_le (show 0 ≤ Z j by omega)
            rw [hn] at hck g1 g8
            have f1 : 1 ≤ n := by omega
            have f8 : n ≤ 8 := by omega
            have hpos : Hid (pos Z (j + 1) = q + n) := by show pos Z j + (Z j).toNat = q + n; rw [hn, hq.out]; rfl
            have HN := Lib.hid hn
            clear hc hn g1 g8
            by_cases hkJ : j < J
            · have hfit : q + n ≤ s.size := by rw [← hpos.out]; exact Nat.le_trans (pos_mono Z hkJ) hin
              have hcut := run_from s q n hfit
              have hg := rget_ok (cutAt s q) (by rw [HCS.out]; omega) 0 n f1 f8 (by rw [HCS.out]; omega)
              rw [cutAt_list, List.drop_zero] at hg
              have HG := Lib.hid hg
              clear hg
              go_wp2_with fail
              refine (HG.out _).mono ?_
              rintro e w2 ⟨rfl, rfl⟩
              go_wp2_with (at_builtin; refine wpList_append_own _ rfl _ _ 35 rfl w.heap.size 22 i0 (.int .u64 0) 1 8 Try.underlying35 hi hz0 hz1 hz2 rfl (by decide) _ _ _ rfl (hown.alloc _) ⟨wr.heap.size, 0, none⟩ 1 1 [.int .u64 (val ((s.data.toList.drop q).take n) : Int)] rfl rfl ?c1 ?c2 ?c3 ?c4 ?c5 ?_)
              case c1 => exact one_cell _ _ _
              case c2 => intro u hu; simp at hu; subst hu; rfl
              case c3 => unfold maxLen; omega
              case c4 => omega
              case c5 => simp; omega
              intro v' w1 hown' hgrow _
              have hnum : num s.data.toList Z j = val ((s.data.toList.drop q).take n) := by unfold num; rw [← hq.out, HN.out]; rfl
              rw [← hnum, ← nums_succ] at hown'
              have hbel' : Below w.heap.size w w1 := (hbl.alloc hsz _).grown hgrow (by simp; omega) (fun j hj => (hown.lt j hj).1)
              have hck1 : w1.cell? ⟨b, off + j, none⟩ = some (.int .i64 (n : Int)) := by
                have := hbl.cell (p := ⟨b, off + j, none⟩) hb
                rw [hbel'.cell (by simpa using hb), ← this]; exact hck
              have HOw := Lib.hid hown'
              clear hown' hown hgrow hnum
              go_wp2
              go_roundw
              case rel => exact ⟨j + 1, q + n, by omega, by go_num, rfl, hpos.out.symm, hfit, HOw.out, hbel'⟩
              case measure => simp [intOf]; omega
            · obtain rfl : j = J := by omega
              have hfit : s.size < q + n := by rw [← hpos.out]; exact HO.out hlt2
              have hg := rget_short (cutAt s q) (by rw [HCS.out]; omega) 0 (n : Int) (by omega) (by omega) (by omega) (by rw [HCS.out]; omega)
              have HG := Lib.hid hg
              clear hg
              go_wp2_with fail
              refine (HG.out _).mono ?_
              rintro e w2 ⟨rfl, rfl⟩
              go_wp2
              go_ret3
              exact ⟨fun h => by omega, fun _ => ⟨rfl, hbl⟩⟩
        · obtain rfl : j = k := by omega
          obtain rfl : J = j := by omega
          have HQ := Lib.hid hq.out
          clear hq
          go_wp2
          go_ret3
          exact ⟨fun _ => ⟨_, by rw [← HQ.out]; rfl, hown, hbl⟩, fun h => by omega⟩

end FM
end Go.Proofs.Ytbabeiehdjccpaa
