/- What scoriaref08's Count, scorialaw08's refs and package wear's Count, Pick and Victim answer. No condition but those that each theorem names. -/
import Derived.Test.YtomncnelkkmalacWrR
import Derived.Test.YtomncnelkkmalacWrB
namespace Go.Proofs.Ytomncnelkkmalac
open Go.RowKit
namespace WR
open MM
set_option linter.unusedVariables false
set_option linter.unusedSimpArgs false


theorem info_bref : (Try.prog.info? 41).map (fun i => (i.zero, i.size, i.bytes)) = some (some (.agg #[.int .i64 0, .int .i64 0, .int .i64 0]), 3, 24) := by kernel_rfl
set_option maxHeartbeats 2000000 in
theorem refs_any (L : List Bk) (len cap : Nat) (hlen : len = L.length) (hm : len ≤ 100000000) (a : Option Addr) (w : World) (hr : Bks w a L) :
    Calls Try.prog 9 #[.slice a len cap] w fun r w' => ∃ (A : Option Addr) (c : Nat), r = .returned (.slice A len c) ∧ Bks w' A L ∧ Below w.heap.size w w' := by
  obtain ⟨i0, hi, hz0, hz1, hz2⟩ := info_parts info_bref
  have HR := Lib.hid hr
  have HL := Lib.hid hlen
  clear hr hlen
  go_enter Try.func9, Try.ntmps9
  go_wp2
  go_loopw [3, 4] (fun x i wr => ∃ (k : Nat) (A : Option Addr) (c : Nat), k ≤ len ∧ i = .int .i64 k ∧ x = .slice A k c ∧ wr.ownsRow w.heap.size 41 3 (.slice A k c) k (bkCells (L.take k)) ∧ Below w.heap.size w wr) (fun _ i _ => len - (intOf i).toNat)
  case atStart => exact ⟨0, none, 0, Nat.zero_le _, rfl, rfl, World.ownsRow_nil _ _ _ _, Below.refl _ _⟩
  case round =>
    obtain ⟨k, A, c, hk, rfl, rfl, hown, hbel⟩ := hrel
    have HB0 := Lib.hid hbel
    have HOW := Lib.hid hown
    by_cases hlt : k < len
    · obtain ⟨e, he⟩ : ∃ e, L[k]? = some e := ⟨_, List.getElem?_eq_getElem (by rw [← HL.out]; exact hlt)⟩
      obtain ⟨b, off, rfl, hb, hc⟩ := HR.out.get he
      obtain ⟨q0, q1, q2⟩ := (hc k e he).kept hbel hb
      have HE := Lib.hid he
      have t1 : (k : Int) < (len : Int) := by omega
      have t2 : (0 : Int) ≤ (k : Int) := by omega
      have hsz : w.heap.size ≤ wr.heap.size := hbel.size
      clear hc he hbel hown
      go_wp2_with (at_builtin; refine wpList_append_own _ rfl _ _ 26 rfl w.heap.size 41 i0 (.agg #[.int .i64 0, .int .i64 0, .int .i64 0]) 3 24 Try.underlying26 hi hz0 hz1 hz2 rfl (by decide) _ _ _ rfl (HOW.out.alloc _) ⟨wr.heap.size, 0, none⟩ 1 1 [.int .i64 e.st, .int .i64 e.va, .int .i64 e.wo] rfl rfl ?c1 ?c2 ?c3 ?c4 ?c5 ?_)
      case c1 => exact new_cells _ _ _
      case c2 => intro u hu; simp at hu; rcases hu with rfl | rfl | rfl <;> rfl
      case c3 => unfold maxLen; omega
      case c4 => omega
      case c5 => simp; omega
      intro v8 w8 own8 hgrow _
      rw [bkCells_snoc, ← wtake_snoc HE.out] at own8
      have hl8 : Below w.heap.size w w8 := (HB0.out.alloc hsz _).grown hgrow (by simp; omega) (fun j hj => (HOW.out.lt j hj).1)
      obtain ⟨A8, c8, rfl⟩ := own_slice own8
      have O8 := Lib.hid own8
      have L8 := Lib.hid hl8
      clear own8 hl8 hgrow
      go_wp2
      go_roundw
      case rel => exact ⟨k + 1, A8, c8, by omega, by go_num, rfl, O8.out, L8.out⟩
      case measure => simp [intOf] <;> omega
    · obtain rfl : k = len := by omega
      have i0' : ¬ (k : Int) < (k : Int) := by omega
      clear hbel hown
      go_wp2
      go_ret
      have h1 := HOW.out
      rw [List.take_of_length_le (by rw [← HL.out]; exact Nat.le_refl _)] at h1
      have h2 : wr.ownsRow w.heap.size 41 3 (.slice A k c) L.length (bkCells L) := by rw [← HL.out]; exact h1
      obtain ⟨A', c', e1, e2⟩ := own_bks h2
      exact ⟨A, ⟨c, rfl⟩, by injection e1 with e4; rw [e4]; exact e2, HB0.out⟩

theorem pick_any (L : List Bk) (len cap : Nat) (hlen : len = L.length) (hm : len ≤ 4611686018427387904) (a : Option Addr) (w : World) (hr : Bks w a L) :
    Calls Try.prog 12 #[.slice a len cap] w fun r w' => ∃ q : Int, r = .returned (.int .i64 q) ∧ Least isFree LtW L len q ∧ Below w.heap.size w w' := by
  have HC := Lib.hid (least_free L len cap hlen hm a w hr (fun b w => isFree_any b w) (fun a b w => byWorn_any _ _ _ _ _ _ w))
  clear hr hlen
  go_enter Try.func12, Try.ntmps12
  go_wp2_with fail
  refine HC.out.mono ?_
  rintro r w1 ⟨q, rfl, hq, hb⟩
  have HQ := Lib.hid hq
  have HB := Lib.hid hb
  clear hq hb HC
  go_wp2
  go_ret
  exact ⟨q, rfl, HQ.out, HB.out⟩
theorem victim_any (L : List Bk) (len cap : Nat) (hlen : len = L.length) (hm : len ≤ 4611686018427387904) (a : Option Addr) (w : World) (hr : Bks w a L) :
    Calls Try.prog 13 #[.slice a len cap] w fun r w' => ∃ q : Int, r = .returned (.int .i64 q) ∧ Vic L len q ∧ Below w.heap.size w w' := by
  have HX := Lib.hid (index_any L len cap hlen hm a w hr)
  have HC := Lib.hid (fun w1 (h : Below w.heap.size w w1) => least_fullV L len cap hlen hm a w1 (hr.below h) (fun b w => isFull_any b w) (fun a b w => byValid_any _ _ _ _ _ _ w))
  clear hr hlen
  go_enter Try.func13, Try.ntmps13
  go_wp2_with fail
  refine HX.out.mono ?_
  rintro r w1 ⟨q, rfl, hq, hb⟩
  have HQ := Lib.hid hq
  have HB := Lib.hid hb
  clear hq hb HX
  by_cases h0 : q = -1
  · subst h0
    go_wp2_with fail
    refine (HC.out _ HB.out).mono ?_
    rintro r w2 ⟨q2, rfl, hq2, hb2⟩
    have HQ2 := Lib.hid hq2
    have HB2 := Lib.hid (below_kept HB.out hb2)
    clear hq2 hb2 HC
    go_wp2
    go_ret
    exact ⟨q2, rfl, ⟨-1, HQ.out, fun h => absurd rfl h, fun _ => HQ2.out⟩, HB2.out⟩
  · have h1 : (q == -1) = false := beq_eq_false_iff_ne.2 h0
    have H0 := Lib.hid h0
    clear h0
    go_wp2
    go_ret
    exact ⟨q, rfl, ⟨q, HQ.out, fun _ => rfl, fun h => absurd h H0.out⟩, HB.out⟩
end WR
end Go.Proofs.Ytomncnelkkmalac
