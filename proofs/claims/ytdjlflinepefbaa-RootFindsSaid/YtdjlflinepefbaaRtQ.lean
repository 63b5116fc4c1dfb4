/- What scorialaw12.refs and awake answer, scoriaref12.Same of two that read alike, and root.Find. No condition but those that each theorem names. -/
import Derived.Test.YtdjlflinepefbaaRtR
import Derived.Deep.AppendLies
namespace Go.Proofs.Ytdjlflinepefbaa
open Go.RowKit
namespace RT
open MM FM EX
set_option linter.unusedVariables false
set_option linter.unusedSimpArgs false

theorem rexs_get {w : World} {A : Option Addr} {l : List Ext} (h : Exs w A l) {k : Nat} {x : Ext} (hx : l[k]? = some x) : ∃ b off, A = some ⟨b, off, none⟩ ∧ Cells4 w b (off + k * 4) x := by
  rcases h with h | ⟨b, off, h1, h2, h3⟩
  · rw [h] at hx; simp at hx
  · exact ⟨b, off, h1, h3 k x hx⟩
theorem info_rspace : (Try.prog.info? 76).map (fun i => (i.zero, i.size, i.bytes)) = some (some (.agg #[.int .i64 0, .int .i64 0, .int .i64 0, .int .i64 0]), 4, 32) := by kernel_rfl
def RowS (R : List Ext) (w : World) (r : Ending) (w' : World) : Prop := ∃ (A : Option Addr) (n c : Nat), r = .returned (.slice A n c) ∧ n = R.length ∧ Exs w' A R ∧ Below w.heap.size w w'
set_option maxHeartbeats 2000000 in
theorem refs_any (L : List Ext) (len cap : Nat) (hlen : len = L.length) (hm : len ≤ 100000000) (a : Option Addr) (w : World) (hr : Exs w a L) :
    Calls Try.prog 13 #[.slice a len cap] w (RowS L w) := by
  obtain ⟨i0, hi, hz0, hz1, hz2⟩ := info_parts info_rspace
  have HR := Lib.hid hr
  have HL := Lib.hid hlen
  clear hr hlen
  go_enter Try.func13, Try.ntmps13
  go_wp2
  go_loopw [3, 4] (fun x i wr => ∃ (k : Nat) (A : Option Addr) (c : Nat), k ≤ len ∧ i = .int .i64 k ∧ x = .slice A k c ∧ wr.ownsRow w.heap.size 76 4 (.slice A k c) k (exCells (L.take k)) ∧ Below w.heap.size w wr) (fun _ i _ => len - (intOf i).toNat)
  case atStart => exact ⟨0, none, 0, Nat.zero_le _, rfl, rfl, World.ownsRow_nil _ _ _ _, Below.refl _ _⟩
  case round =>
    obtain ⟨k, A, c, hk, rfl, rfl, hown, hbel⟩ := hrel
    have HB0 := Lib.hid hbel
    have HOW := Lib.hid hown
    by_cases hlt : k < len
    · obtain ⟨e, he⟩ : ∃ e, L[k]? = some e := ⟨_, List.getElem?_eq_getElem (by rw [← HL.out]; exact hlt)⟩
      obtain ⟨b, off, rfl, hb, hc⟩ := exs_get HR.out he
      obtain ⟨q0, q1, q2, q3⟩ := (hc k e he).kept hbel hb
      have HE := Lib.hid he
      have t1 : (k : Int) < (len : Int) := by omega
      have t2 : (0 : Int) ≤ (k : Int) := by omega
      have hsz : w.heap.size ≤ wr.heap.size := hbel.size
      clear hc he hbel hown
      go_wp2_with (at_builtin; refine wpList_append_own _ rfl _ _ 29 rfl w.heap.size 76 i0 (.agg #[.int .i64 0, .int .i64 0, .int .i64 0, .int .i64 0]) 4 32 Try.underlying29 hi hz0 hz1 hz2 rfl (by decide) _ _ _ rfl (HOW.out.alloc _) ⟨wr.heap.size, 0, none⟩ 1 1 [.int .i64 e.from_, .int .i64 e.n, .int .i64 e.kind, .int .i64 e.at_] rfl (by rfl) ?c1 ?c2 ?c3 ?c4 ?c5 ?_)
      case c1 => exact new_cells _ _ _
      case c2 => intro u hu; simp at hu; rcases hu with rfl | rfl | rfl | rfl <;> rfl
      case c3 => unfold maxLen; omega
      case c4 => omega
      case c5 => simp; omega
      intro v8 w8 own8 hgrow _
      have own9 : w8.ownsRow w.heap.size 76 4 v8 (k + 1) (exCells (L.take (k + 1))) := by
        have e9 : L.take (k + 1) = L.take k ++ [e] := by rw [List.take_add_one, HE.out]; rfl
        rw [e9, ← exCells_snoc]; exact own8
      have hl8 : Below w.heap.size w w8 := (HB0.out.alloc hsz _).grown hgrow (by simp; omega) (fun j hj => (HOW.out.lt j hj).1)
      obtain ⟨A8, c8, rfl⟩ := own_slice own9
      have O8 := Lib.hid own9
      have L8 := Lib.hid hl8
      clear own8 own9 hl8 hgrow
      go_wp2
      go_roundw
      case rel => exact ⟨k + 1, A8, c8, by omega, by go_num, rfl, O8.out, L8.out⟩
      case measure => simp [intOf]; omega
    · obtain rfl : k = len := by omega
      have i0' : ¬ (k : Int) < (k : Int) := by omega
      clear hbel hown
      go_wp2
      go_ret
      have h1 := HOW.out
      rw [List.take_of_length_le (by rw [← HL.out]; exact Nat.le_refl _)] at h1
      have h2 : wr.ownsRow w.heap.size 76 4 (.slice A k c) L.length (exCells L) := by rw [← HL.out]; exact h1
      obtain ⟨A', c', e1, e2⟩ := own_exs h2
      exact ⟨A, k, c, rfl, HL.out, by rw [(Value.slice.inj e1).1]; exact e2, HB0.out⟩
set_option maxHeartbeats 1000000 in
theorem same_yes (L : List Ext) (len ca cb : Nat) (hlen : len = L.length) (hm : len ≤ 100000000) (a b : Option Addr) (w : World) (h1 : Exs w a L) (h2 : Exs w b L) :
    Calls Try.prog 16 #[.slice a len ca, .slice b len cb] w fun r w' => r = .returned (.bool true) ∧ Below w.heap.size w w' := by
  have H1 := Lib.hid h1
  have H2 := Lib.hid h2
  have HL := Lib.hid hlen
  clear h1 h2 hlen
  go_enter Try.func16, Try.ntmps16
  go_wp2
  go_loopw [5] (fun i wr => ∃ k : Nat, k ≤ len ∧ i = .int .i64 k ∧ Below w.heap.size w wr) (fun i _ => len - (intOf i).toNat)
  case atStart => exact ⟨0, Nat.zero_le _, rfl, Below.refl _ _⟩
  case round =>
    obtain ⟨k, hk, rfl, hbel⟩ := hrel
    by_cases hlt : k < len
    · obtain ⟨e, he⟩ : ∃ e, L[k]? = some e := ⟨_, List.getElem?_eq_getElem (by rw [← HL.out]; exact hlt)⟩
      obtain ⟨b1, o1, rfl, p0, p1, p2, p3⟩ := rexs_get (H1.out.below hbel) he
      obtain ⟨b2, o2, rfl, q0, q1, q2, q3⟩ := rexs_get (H2.out.below hbel) he
      have t1 : (k : Int) < (len : Int) := by omega
      have t2 : (0 : Int) ≤ (k : Int) := by omega
      have HD : Hid (∀ n, Below w.heap.size w (wr.drewN n)) := Lib.hid fun n => drewN_below hbel n
      clear he hbel
      go_wp2
      go_quiet (fail)
      go_wp2
      go_roundw
      case rel => exact ⟨k + 1, by omega, by go_num, HD.out _⟩
      case measure => simp [intOf]; omega
    · obtain rfl : k = len := by omega
      have i0 : ¬ (k : Int) < (k : Int) := by omega
      go_wp2
      go_ret
      exact ⟨rfl, hbel⟩
/-- The worked example. -/
theorem aw_rec : Recd 7 [⟨3, 100, 258, 2⟩] := by decide +kernel
theorem aw_bytes : str (recB 7 [⟨3, 100, 258, 2⟩]) = ⟨#[7, 0, 0, 0, 0, 1, 3, 0, 100, 0, 0, 0, 2, 1, 2]⟩ := by decide +kernel
set_option maxHeartbeats 4000000 in
theorem awake_any (w : World) : Calls Try.prog 10 #[] w fun r w' => r = .returned (.bool true) ∧ Below w.heap.size w w' := by
  obtain ⟨W, hW⟩ : ∃ W, W = w.alloc (.cells #[.int .i64 3, .int .i64 100, .int .i64 258, .int .i64 2] 54) := ⟨_, rfl⟩
  have hb0 : Below w.heap.size w W := by rw [hW]; exact below_box w _
  have hblk : Blk W w.heap.size 54 #[.int .i64 3, .int .i64 100, .int .i64 258, .int .i64 2] := by rw [hW]; exact Blk.new w _ _
  have hx0 : Exs W (some ⟨w.heap.size, 0, none⟩) [⟨3, 100, 258, 2⟩] := .inr ⟨w.heap.size, 0, rfl, hblk.lt, fun i e hi => by
    match i, hi with
    | 0, hi =>
      have : e = ⟨3, 100, 258, 2⟩ := by simpa using hi.symm
      subst this
      exact ⟨hblk.cell 0, hblk.cell 1, hblk.cell 2, hblk.cell 3⟩
    | i + 1, hi => simp at hi⟩
  have h1 := Write_ok 7 [⟨3, 100, 258, 2⟩] 1 1 rfl (some ⟨w.heap.size, 0, none⟩) W hx0 aw_rec
  rw [aw_bytes] at h1
  have HL := Lib.hid h1
  have HW := Lib.hid hW
  have HB0 := Lib.hid hb0
  clear hW hb0 hblk hx0 h1
  go_enter Try.func10, Try.ntmps10
  go_wp2_with fail
  rw [← HW.out]
  refine HL.out.mono ?_
  rintro r w1 ⟨rfl, hb1⟩
  have HB1 := Lib.hid (bkept HB0.out hb1)
  clear hb1
  go_wp2
  go_ret
  exact ⟨rfl, HB1.out⟩
end RT
end Go.Proofs.Ytdjlflinepefbaa
