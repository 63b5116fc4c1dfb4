/- What scorialaw07.Refs answers: the same list, in a row of its own. No condition but those that each theorem names. (As XExR4, for seats that have no other function of scorialaw07.) -/
import Derived.Test.YtmndbdkodijlbaaExS
import Derived.Test.YtmndbdkodijlbaaExA
import Derived.Deep.AppendLies
import Derived.Laws.AppendOwn
namespace Go.Proofs.Ytmndbdkodijlbaa
open Go.RowKit
namespace LF
open MM EX
set_option linter.unusedVariables false
set_option linter.unusedSimpArgs false

theorem info_ref : (Try.prog.info? 64).map (fun i => (i.zero, i.size, i.bytes)) = some (some (.agg #[.int .i64 0, .int .i64 0, .int .i64 0, .int .i64 0]), 4, 32) := by kernel_rfl
def RowE (R : List Ext) (w : World) (r : Ending) (w' : World) : Prop := ∃ (A : Option Addr) (n c : Nat), r = .returned (.slice A n c) ∧ n = R.length ∧ Exs w' A R ∧ Below w.heap.size w w'
def RowN (R : List Ext) (w : World) (r : Ending) (w' : World) : Prop := ∃ (A : Option Addr) (n c : Nat), r = .returned (.slice A n c) ∧ n = R.length ∧ Exs w' A R ∧ Below w.heap.size w w' ∧ ∀ x, A = some x → w.heap.size ≤ x.block
set_option maxHeartbeats 2000000 in
theorem refs_new (L : List Ext) (len cap : Nat) (hlen : len = L.length) (hm : len ≤ 100000000) (a : Option Addr) (w : World) (hr : Exs w a L) :
    Calls Try.prog 12 #[.slice a len cap] w (RowN L w) := by
  obtain ⟨i0, hi, hz0, hz1, hz2⟩ := info_parts info_ref
  have HR := Lib.hid hr
  have HL := Lib.hid hlen
  clear hr hlen
  go_enter Try.func12, Try.ntmps12
  go_wp2
  go_loopw [3, 4] (fun x i wr => ∃ (k : Nat) (A : Option Addr) (c : Nat), k ≤ len ∧ i = .int .i64 k ∧ x = .slice A k c ∧ wr.ownsRow w.heap.size 64 4 (.slice A k c) k (exCells (L.take k)) ∧ Below w.heap.size w wr) (fun _ i _ => len - (intOf i).toNat)
  case atStart => exact ⟨0, none, 0, Nat.zero_le _, rfl, rfl, World.ownsRow_nil _ _ _ _, Below.refl _ _⟩
  case round =>
    obtain ⟨k, A, c, hk, rfl, rfl, hown, hbel⟩ := hrel
    have HB0 := Lib.hid hbel
    have HOW := Lib.hid hown
    by_cases hlt : k < len
    · obtain ⟨e, he⟩ : ∃ e, L[k]? = some e := ⟨_, List.getElem?_eq_getElem (by rw [← HL.out]; exact hlt)⟩
      rcases HR.out with h0 | ⟨b, off, rfl, hb, hc⟩
      · rw [h0] at he; simp at he
      · obtain ⟨q0, q1, q2, q3⟩ := (hc k e he).kept hbel hb
        have HE := Lib.hid he
        have t1 : (k : Int) < (len : Int) := by omega
        have t2 : (0 : Int) ≤ (k : Int) := by omega
        have hsz : w.heap.size ≤ wr.heap.size := hbel.size
        clear hc he hbel hown
        go_wp2_with (at_builtin; refine wpList_append_own _ rfl _ _ 29 rfl w.heap.size 64 i0 (.agg #[.int .i64 0, .int .i64 0, .int .i64 0, .int .i64 0]) 4 32 Try.underlying29 hi hz0 hz1 hz2 rfl (by decide) _ _ _ rfl (HOW.out.alloc _) ⟨wr.heap.size, 0, none⟩ 1 1 [.int .i64 e.from_, .int .i64 e.n, .int .i64 e.kind, .int .i64 e.at_] rfl rfl ?c1 ?c2 ?c3 ?c4 ?c5 ?_)
        case c1 => exact new_cells _ _ _
        case c2 => intro u hu; simp at hu; rcases hu with rfl | rfl | rfl | rfl <;> rfl
        case c3 => unfold maxLen; omega
        case c4 => omega
        case c5 => simp; omega
        intro v8 w8 own8 hgrow _
        rw [exCells_snoc, ← take_snoc HE.out] at own8
        have hl8 : Below w.heap.size w w8 := (HB0.out.alloc hsz _).grown hgrow (by simp; omega) (fun j hj => (HOW.out.lt j hj).1)
        obtain ⟨A8, c8, rfl⟩ := own_slice own8
        have O8 := Lib.hid own8
        have L8 := Lib.hid hl8
        clear own8 hl8 hgrow
        go_wp2
        go_roundw
        case rel => exact ⟨k + 1, A8, c8, by omega, by go_num, rfl, O8.out, L8.out⟩
        case measure => simp [intOf]; omega
    · obtain rfl : k = len := by omega
      have i0' : ¬ (k : Int) < (k : Int) := by omega
      clear hbel hown
      go_wp2
      go_ret
      have h1 := HOW.out
      rw [List.take_of_length_le (by rw [← HL.out]; exact Nat.le_refl _)] at h1
      have h2 : wr.ownsRow w.heap.size 64 4 (.slice A k c) L.length (exCells L) := by rw [← HL.out]; exact h1
      obtain ⟨A', c', e1, e2⟩ := own_exs h2
      exact ⟨A, k, c, rfl, HL.out, by injection e1 with e4; rw [e4]; exact e2, HB0.out, fun x hx => (h2.lt x.block (by rw [hx]; rfl)).1⟩
theorem refs_any (L : List Ext) (len cap : Nat) (hlen : len = L.length) (hm : len ≤ 100000000) (a : Option Addr) (w : World) (hr : Exs w a L) :
    Calls Try.prog 12 #[.slice a len cap] w (RowE L w) :=
  (refs_new L len cap hlen hm a w hr).mono fun r w' ⟨A, n, c, h1, h2, h3, h4, _⟩ => ⟨A, n, c, h1, h2, h3, h4⟩
end LF
end Go.Proofs.Ytmndbdkodijlbaa
