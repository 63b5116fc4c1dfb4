/- What root.Find answers: the first namespace of a number, of any list. No condition but those that each theorem names. -/
import Derived.Test.YtdjlflinepefbaaRtQ
namespace Go.Proofs.Ytdjlflinepefbaa
open Go.RowKit
namespace RT
open MM FM EX
set_option linter.unusedVariables false
set_option linter.unusedSimpArgs false

/-- The first that has a number. -/
def Fst (L : List Ext) (s : Int) (k : Nat) (e : Ext) : Prop := L[k]? = some e ∧ e.from_ = s ∧ ∀ x ∈ L.take k, x.from_ ≠ s
set_option maxHeartbeats 1000000 in
theorem find1_any (e : Ext) (s : Int) (X : Nat) (w : World) (hX : X < w.heap.size) (hs : w.cell? ⟨X, 0, none⟩ = some (.int .i64 s)) :
    Calls Try.prog 40 #[.agg #[.int .i64 e.from_, .int .i64 e.n, .int .i64 e.kind, .int .i64 e.at_], .pointer (some ⟨X, 0, none⟩)] w fun r w' => r = .returned (.bool (e.from_ == s)) ∧ Below w.heap.size w w' := by
  have hs1 : (w.alloc (.cells #[.int .i64 e.from_, .int .i64 e.n, .int .i64 e.kind, .int .i64 e.at_] 54)).cell? ⟨X, 0, none⟩ = some (.int .i64 s) := ((below_box w _).cell (p := ⟨X, 0, none⟩) hX).trans hs
  go_enter Try.func40, Try.ntmps40
  go_wp2
  go_ret
  exact ⟨rfl, below_box _ _⟩
def IxEnd (L : List Ext) (s : Int) (w : World) (r : Ending) (w' : World) : Prop := Below w.heap.size w w' ∧ ((∃ k e, r = .returned (.int .i64 (k : Nat)) ∧ Fst L s k e) ∨ (r = .returned (.int .i64 (-1)) ∧ ∀ x ∈ L, x.from_ ≠ s))
set_option maxHeartbeats 2000000 in
theorem index_any (L : List Ext) (len cap : Nat) (hlen : len = L.length) (hm : len ≤ 100000000) (a : Option Addr) (s : Int) (X : Nat) (w : World) (hr : Exs w a L) (hX : X < w.heap.size) (hs : w.cell? ⟨X, 0, none⟩ = some (.int .i64 s)) :
    Calls Try.prog 39 #[.slice a len cap, .func (.func 40) #[] #[.pointer (some ⟨X, 0, none⟩)]] w (IxEnd L s w) := by
  have HR := Lib.hid hr
  have HL := Lib.hid hlen
  have HS := Lib.hid hs
  have HXX := Lib.hid hX
  clear hr hlen hs hX
  go_enter Try.func39, Try.ntmps39
  go_wp2
  go_loopw [8] (fun i wr => ∃ k : Nat, k ≤ len ∧ i = .int .i64 k ∧ Below w.heap.size w wr ∧ Hid (∀ x ∈ L.take k, x.from_ ≠ s)) (fun i _ => len - (intOf i).toNat)
  case atStart => exact ⟨0, Nat.zero_le _, rfl, Below.refl _ _, Lib.hid fun x hx => by simp at hx⟩
  case round =>
    obtain ⟨k, hk, rfl, hbel, hno⟩ := hrel
    by_cases hlt : k < len
    · obtain ⟨e, he⟩ : ∃ e, L[k]? = some e := ⟨_, List.getElem?_eq_getElem (by rw [← HL.out]; omega)⟩
      obtain ⟨b, off, rfl, hb, hc⟩ := exs_get HR.out he
      obtain ⟨q0, q1, q2, q3⟩ := (hc k e he).kept hbel hb
      have HF := Lib.hid (find1_any e s X wr (Nat.lt_of_lt_of_le HXX.out hbel.size) ((hbel.cell (p := ⟨X, 0, none⟩) HXX.out).trans HS.out))
      have HB := Lib.hid hbel
      have HE := Lib.hid he
      have t1 : (k : Int) < (len : Int) := by omega
      have t2 : (0 : Int) ≤ (k : Int) := by omega
      clear hc hbel he
      by_cases hs : e.from_ = s
      · rw [beq_iff_eq.2 hs] at HF
        have HSE := Lib.hid hs
        clear hs
        go_wp2_with fail
        refine HF.out.mono ?_
        rintro r w1 ⟨rfl, hb1⟩
        have HB1 := Lib.hid (bkept HB.out hb1)
        clear hb1 HF
        go_wp2
        go_ret
        exact ⟨HB1.out, .inl ⟨k, e, rfl, HE.out, HSE.out, hno.out⟩⟩
      · rw [beq_eq_false_iff_ne.2 hs] at HF
        have hno' : Hid (∀ x ∈ L.take (k + 1), x.from_ ≠ s) := Lib.hid fun x hx => by
          rw [List.take_add_one, HE.out] at hx
          rcases List.mem_append.1 hx with hx | hx
          · exact hno.out x hx
          · simp at hx; rw [hx]; exact hs
        clear hs
        go_wp2_with fail
        refine HF.out.mono ?_
        rintro r w1 ⟨rfl, hb1⟩
        have HB1 := Lib.hid (bkept HB.out hb1)
        clear hb1 HF
        go_wp2
        go_roundw
        case rel => exact ⟨k + 1, by omega, by go_num, HB1.out, hno'⟩
        case measure => simp [intOf]; omega
    · obtain rfl : k = len := by omega
      have i0 : ¬ (k : Int) < (k : Int) := by omega
      go_wp2
      go_ret
      refine ⟨hbel, .inr ⟨rfl, fun x hx => ?_⟩⟩
      exact hno.out x (by rw [List.take_of_length_le (by rw [← HL.out]; exact Nat.le_refl _)]; exact hx)
/-- How Find ends. -/
def FEnd (L : List Ext) (s : Int) (w : World) (r : Ending) (w' : World) : Prop := Below w.heap.size w w' ∧ ((∃ k e, r = .returned (.tuple #[.agg #[.int .i64 e.from_, .int .i64 e.n, .int .i64 e.kind, .int .i64 e.at_], .bool true]) ∧ Fst L s k e) ∨ (r = .returned (.tuple #[.agg #[.int .i64 0, .int .i64 0, .int .i64 0, .int .i64 0], .bool false]) ∧ ∀ x ∈ L, x.from_ ≠ s))
set_option maxHeartbeats 4000000 in
theorem Find_any (L : List Ext) (len cap : Nat) (hlen : len = L.length) (hm : len ≤ 100000000) (a : Option Addr) (s : Int) (w : World) (hr : Exs w a L) :
    Calls Try.prog 21 #[.slice a len cap, .int .i64 s] w (FEnd L s w) := by
  obtain ⟨W0, hW0⟩ : ∃ W, W = w.alloc (.cells #[.int .i64 s] 3) := ⟨_, rfl⟩
  have hb0 : Below w.heap.size w W0 := by rw [hW0]; exact below_box w _
  have k0 : Blk W0 w.heap.size 3 #[.int .i64 s] := by rw [hW0]; exact Blk.new w _ _
  have hz0 : W0.heap.size = w.heap.size + 1 := by rw [hW0]; simp
  obtain ⟨W, hW⟩ : ∃ W, W = W0.alloc (.cells #[.int .i64 0, .int .i64 0, .int .i64 0, .int .i64 0] 54) := ⟨_, rfl⟩
  have hb1 : Below w.heap.size w W := by rw [hW]; exact bkept hb0 (below_box W0 _)
  have k1 : Blk W w.heap.size 3 #[.int .i64 s] := by rw [hW]; exact k0.alloc _
  have kr : Blk W (w.heap.size + 1) 54 #[.int .i64 0, .int .i64 0, .int .i64 0, .int .i64 0] := by rw [hW, ← hz0]; exact Blk.new W0 _ _
  have HI := Lib.hid (index_any L len cap hlen hm a s w.heap.size W (hr.below hb1) k1.lt (k1.cell 0))
  have HWE : Hid (W = (w.alloc (.cells #[.int .i64 s] 3)).alloc (.cells #[.int .i64 0, .int .i64 0, .int .i64 0, .int .i64 0] 54)) := Lib.hid (by rw [hW, hW0])
  have HB1 := Lib.hid hb1
  have KR := Lib.hid kr
  have HR := Lib.hid hr
  have HL := Lib.hid hlen
  clear hb0 k0 hz0 hW hW0 hb1 k1 kr hr hlen
  go_enter Try.func21, Try.ntmps21
  go_wp2_with fail
  rw [← HWE.out]
  refine HI.out.mono ?_
  rintro r w2 ⟨hb2, ⟨k, e, rfl, hf⟩ | ⟨rfl, hno⟩⟩
  · obtain ⟨b, off, rfl, hb, hc⟩ := exs_get HR.out hf.1
    have hB2 := bkept HB1.out hb2
    obtain ⟨q0, q1, q2, q3⟩ := (hc k e hf.1).kept hB2 hb
    have K2 := Lib.hid (KR.out.below hb2 KR.out.lt)
    have B2 := Lib.hid hB2
    have HFS := Lib.hid hf
    have hkl : k < len := by
      rcases Nat.lt_or_ge k L.length with h | h
      · rw [HL.out]; exact h
      · have := hf.1; rw [List.getElem?_eq_none h] at this; cases this
    have t0 : ¬ (k : Int) < 0 := by omega
    have t1 : (k : Int) < (len : Int) := by omega
    have t2 : (0 : Int) ≤ (k : Int) := by omega
    obtain ⟨_, f0, f1, f2, f3⟩ := cells4 K2.out
    clear hb2 hB2 hc hf hkl
    go_wp2
    exact ret_cell_tmp rfl _ _ _ _ _ _ _ _ rfl rfl rfl (stored4 K2.out _ _ _ _) Try.underlying54 rfl (by kernel_rfl) ⟨stored4_below B2.out (by omega) _ _ _ _, .inl ⟨k, e, rfl, HFS.out⟩⟩
  · have K2 := Lib.hid (KR.out.below hb2 KR.out.lt)
    have B2 := Lib.hid (bkept HB1.out hb2)
    have HNO := Lib.hid hno
    obtain ⟨_, f0, f1, f2, f3⟩ := cells4 K2.out
    clear hb2 hno
    go_wp2
    exact ret_cell_tmp rfl _ _ _ _ _ _ _ _ rfl rfl rfl (stored4 K2.out _ _ _ _) Try.underlying54 rfl (by kernel_rfl) ⟨stored4_below B2.out (by omega) _ _ _ _, .inr ⟨rfl, HNO.out⟩⟩
end RT
end Go.Proofs.Ytdjlflinepefbaa
