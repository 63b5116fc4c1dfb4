/- What scorialaw07.alike answers of two lists that are the same. No condition but those that each theorem names. -/
import Derived.Test.YtomncnelkkmalabExS
import Derived.Test.YtomncnelkkmalabInv
import Derived.Test.YtomncnelkkmalabProg
namespace Go.Proofs.Ytomncnelkkmalab
open Go.RowKit
namespace EX
open MM
set_option linter.unusedVariables false
set_option linter.unusedSimpArgs false

theorem exs_get {w : World} {A : Option Addr} {l : List Ext} (h : Exs w A l) {k : Nat} {x : Ext} (hx : l[k]? = some x) : ∃ b off, A = some ⟨b, off, none⟩ ∧ Cells4 w b (off + k * 4) x := by
  rcases h with h | ⟨b, off, h1, h2, h3⟩
  · rw [h] at hx; simp at hx
  · exact ⟨b, off, h1, h3 k x hx⟩
set_option maxHeartbeats 1000000 in
theorem alike_yes (L : List Ext) (len ca cb : Nat) (hlen : len = L.length) (hm : len ≤ 100000000) (a b : Option Addr) (w : World) (h1 : Exs w a L) (h2 : Exs w b L) :
    Calls Try.prog 14 #[.slice a len ca, .slice b len cb] w fun r w' => r = .returned (.bool true) ∧ Below w.heap.size w w' := by
  have H1 := Lib.hid h1
  have H2 := Lib.hid h2
  have HL := Lib.hid hlen
  clear h1 h2 hlen
  go_enter Try.func14, Try.ntmps14
  go_wp2
  go_loopw [5] (fun i wr => ∃ k : Nat, k ≤ len ∧ i = .int .i64 k ∧ Below w.heap.size w wr) (fun i _ => len - (intOf i).toNat)
  case atStart => exact ⟨0, Nat.zero_le _, rfl, Below.refl _ _⟩
  case round =>
    obtain ⟨k, hk, rfl, hbel⟩ := hrel
    by_cases hlt : k < len
    · obtain ⟨e, he⟩ : ∃ e, L[k]? = some e := ⟨_, List.getElem?_eq_getElem (by rw [← HL.out]; exact hlt)⟩
      obtain ⟨b1, o1, rfl, p0, p1, p2, p3⟩ := exs_get (H1.out.below hbel) he
      obtain ⟨b2, o2, rfl, q0, q1, q2, q3⟩ := exs_get (H2.out.below hbel) he
      have t1 : (k : Int) < (len : Int) := by omega
      have t2 : (0 : Int) ≤ (k : Int) := by omega
      have HD : Hid (∀ n, Below w.heap.size w (wr.drewN n)) := Lib.hid fun n => drewN_below hbel n
      clear he hbel
      go_wp2
      go_quiet (fail)
      go_wp2
      go_roundw
      case rel => exact ⟨k + 1, by omega, by go_num, HD.out _⟩
      case measure => simp [intOf]; omega
    · obtain rfl : k = len := by omega
      have i0 : ¬ (k : Int) < (k : Int) := by omega
      go_wp2
      go_ret
      exact ⟨rfl, hbel⟩
end EX
end Go.Proofs.Ytomncnelkkmalab
