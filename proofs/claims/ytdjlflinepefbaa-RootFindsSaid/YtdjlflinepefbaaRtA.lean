/- What the small functions of package root answer: within, the widths, spaceMayBe, mayBe. No condition but those that each theorem names. -/
import Derived.Test.YtdjlflinepefbaaRtMath
import Derived.Test.YtdjlflinepefbaaExS
import Derived.Test.YtdjlflinepefbaaRow
import Derived.Test.YtdjlflinepefbaaRefPut
import Derived.Test.YtdjlflinepefbaaCellR
import Derived.Test.YtdjlflinepefbaaInv
namespace Go.Proofs.Ytdjlflinepefbaa
open Go.RowKit
namespace RT
open MM FM EX
set_option linter.unusedVariables false
set_option linter.unusedSimpArgs false

def WdS : Nat → Int
  | 0 => 2
  | 1 => 4
  | 2 => 2
  | _ => 1
def WdH : Nat → Int
  | 0 => 5
  | _ => 1
def NmS (e : Ext) : Nat → Int
  | 0 => e.from_
  | 1 => e.n
  | 2 => max e.kind 0
  | _ => e.at_
def NmH (g n : Int) : Nat → Int
  | 0 => g
  | _ => n
theorem rowl_s (e : Ext) : rowl (NmS e) WdS 4 = sB e := by
  have h : (max e.kind 0).toNat = e.kind.toNat := by omega
  simp [rowl, sB, NmS, WdS, List.append_assoc, h]
theorem rowl_h (g : Int) (n : Nat) : rowl (NmH g n) WdH 2 = headB g n := by
  simp [rowl, headB, NmH, WdH]
theorem wdS_ok : ∀ i, i < 4 → ¬ Bad (WdS i) := by
  intro i hi
  obtain rfl | rfl | rfl | rfl : i = 0 ∨ i = 1 ∨ i = 2 ∨ i = 3 := by omega
  all_goals (intro h; rcases h with h | h <;> exact absurd h (by decide))
theorem wdH_ok : ∀ i, i < 2 → ¬ Bad (WdH i) := by
  intro i hi
  obtain rfl | rfl : i = 0 ∨ i = 1 := by omega
  all_goals (intro h; rcases h with h | h <;> exact absurd h (by decide))
theorem below_box (w : World) (o : Obj) : Below w.heap.size w (w.alloc o) := (Below.refl _ _).alloc (Nat.le_refl _) _
theorem bkept {w w1 w2 : World} (h1 : Below w.heap.size w w1) (h2 : Below w1.heap.size w1 w2) : Below w.heap.size w w2 := h1.trans (h2.mono h1.size)
/-- Rows of numbers that were made just now. -/
theorem row4 (k : IntKind) (w : World) (t : TypeId) (a b c d : Int) (Z : Nat → Int) (h0 : Z 0 = a) (h1 : Z 1 = b) (h2 : Z 2 = c) (h3 : Z 3 = d) :
    Row k (w.alloc (.cells #[.int k a, .int k b, .int k c, .int k d] t)) (some ⟨w.heap.size, 0, none⟩) 4 Z := by
  refine .inr ⟨_, 0, rfl, by simp, fun i hi => ?_⟩
  obtain rfl | rfl | rfl | rfl : i = 0 ∨ i = 1 ∨ i = 2 ∨ i = 3 := by omega
  · rw [h0]; exact World.cell?_alloc_new _ _ _ _
  · rw [h1]; exact World.cell?_alloc_new _ _ _ _
  · rw [h2]; exact World.cell?_alloc_new _ _ _ _
  · rw [h3]; exact World.cell?_alloc_new _ _ _ _
theorem row2 (k : IntKind) (w : World) (t : TypeId) (a b : Int) (Z : Nat → Int) (h0 : Z 0 = a) (h1 : Z 1 = b) :
    Row k (w.alloc (.cells #[.int k a, .int k b] t)) (some ⟨w.heap.size, 0, none⟩) 2 Z := by
  refine .inr ⟨_, 0, rfl, by simp, fun i hi => ?_⟩
  obtain rfl | rfl : i = 0 ∨ i = 1 := by omega
  · rw [h0]; exact World.cell?_alloc_new _ _ _ _
  · rw [h1]; exact World.cell?_alloc_new _ _ _ _
theorem headWidths_any (w : World) : Calls Try.prog 24 #[] w fun e w' => e = .returned (.slice (some ⟨w.heap.size, 0, none⟩) 2 2) ∧ Row .i64 w' (some ⟨w.heap.size, 0, none⟩) 2 WdH ∧ Below w.heap.size w w' := by
  go_enter Try.func24, Try.ntmps24
  go_wp2
  go_ret
  exact ⟨rfl, row2 _ _ _ _ _ _ rfl rfl, below_box _ _⟩
theorem spaceWidths_any (w : World) : Calls Try.prog 26 #[] w fun e w' => e = .returned (.slice (some ⟨w.heap.size, 0, none⟩) 4 4) ∧ Row .i64 w' (some ⟨w.heap.size, 0, none⟩) 4 WdS ∧ Below w.heap.size w w' := by
  go_enter Try.func26, Try.ntmps26
  go_wp2
  go_ret
  exact ⟨rfl, row4 _ _ _ _ _ _ _ _ rfl rfl rfl rfl, below_box _ _⟩
theorem u64_of {x : Int} (h0 : 0 ≤ x) (h : x < 18446744073709551616) : IntKind.u64.wrap x = x := IntWalk.u64_in _ ⟨h0, by omega⟩
theorem rwithin_any (n a b : Int) (w : World) : Calls Try.prog 41 #[.int .i64 n, .int .i64 a, .int .i64 b] w fun e w' => e = .returned (.bool (decide (a ≤ n ∧ n ≤ b))) ∧ w = w' := by
  by_cases h1 : a ≤ n
  · by_cases h2 : n ≤ b
    · rw [decide_eq_true ⟨h1, h2⟩]
      go_enter Try.func41, Try.ntmps41
      go_wp2
      go_ret
      exact ⟨by simp, rfl⟩
    · rw [decide_eq_false (fun h => h2 h.2)]
      have h2' : decide (n ≤ b) = false := decide_eq_false h2
      go_enter Try.func41, Try.ntmps41
      go_wp2
      go_ret
      exact ⟨by simp [h2], rfl⟩
  · rw [decide_eq_false (fun h => h1 h.1)]
    have h1' : decide (a ≤ n) = false := decide_eq_false h1
    go_enter Try.func41, Try.ntmps41
    go_wp2
    go_ret
    exact ⟨by simp, rfl⟩
set_option maxHeartbeats 2000000 in
theorem spaceMayBe_any (e : Ext) (w : World) : Calls Try.prog 42 #[.agg #[.int .i64 e.from_, .int .i64 e.n, .int .i64 e.kind, .int .i64 e.at_]] w fun r w' => r = .returned (.bool (decide (SpRest e))) ∧ Below w.heap.size w w' := by
  obtain ⟨i, n, t, h⟩ := e
  have W1 := Lib.hid (rwithin_any n 0 16777216)
  have W2 := Lib.hid (rwithin_any h 0 6)
  have W3 := Lib.hid (rwithin_any t 0 2047)
  have hS : SpRest ⟨i, n, t, h⟩ ↔ (0 ≤ n ∧ n ≤ 16777216) ∧ (0 ≤ h ∧ h ≤ 6) ∧ ((h = 0 ∧ t = -1) ∨ (h ≠ 0 ∧ 0 ≤ t ∧ t ≤ 2047)) := Iff.rfl
  obtain ⟨V, hV⟩ : ∃ V, V = decide (SpRest ⟨i, n, t, h⟩) := ⟨_, rfl⟩
  rw [← hV]
  have HB := Lib.hid (below_box w (.cells #[.int .i64 i, .int .i64 n, .int .i64 t, .int .i64 h] 54))
  by_cases c1 : 0 ≤ n ∧ n ≤ 16777216
  · rw [decide_eq_true c1] at W1
    by_cases c2 : 0 ≤ h ∧ h ≤ 6
    · rw [decide_eq_true c2] at W2
      by_cases c3 : h = 0
      · have hv : Hid (V = (t == -1)) := Lib.hid (by
          rw [hV, Bool.eq_iff_iff, decide_eq_true_iff, hS, beq_iff_eq]
          exact ⟨fun x => by rcases x.2.2 with y | y; exact y.2; exact absurd c3 y.1, fun x => ⟨c1, c2, .inl ⟨c3, x⟩⟩⟩)
        have c3' : (h == 0) = true := beq_iff_eq.2 c3
        clear hS hV c1 c2 c3
        go_enter Try.func42, Try.ntmps42
        go_wp2_with fail
        refine (W1.out _).mono ?_
        rintro _ _ ⟨rfl, rfl⟩
        go_wp2_with fail
        refine (W2.out _).mono ?_
        rintro _ _ ⟨rfl, rfl⟩
        go_wp2
        go_ret
        exact ⟨by rw [hv.out]; rfl, HB.out⟩
      · have hv : Hid (V = decide (0 ≤ t ∧ t ≤ 2047)) := Lib.hid (by
          rw [hV, Bool.eq_iff_iff, decide_eq_true_iff, decide_eq_true_iff, hS]
          exact ⟨fun x => by rcases x.2.2 with y | y; exact absurd y.1 c3; exact y.2, fun x => ⟨c1, c2, .inr ⟨c3, x⟩⟩⟩)
        have c3' : (h == 0) = false := beq_eq_false_iff_ne.2 c3
        clear hS hV c1 c2 c3
        rw [← hv.out] at W3
        go_enter Try.func42, Try.ntmps42
        go_wp2_with fail
        refine (W1.out _).mono ?_
        rintro _ _ ⟨rfl, rfl⟩
        go_wp2_with fail
        refine (W2.out _).mono ?_
        rintro _ _ ⟨rfl, rfl⟩
        go_wp2_with fail
        refine (W3.out _).mono ?_
        rintro _ _ ⟨rfl, rfl⟩
        go_wp2
        go_ret
        exact ⟨rfl, HB.out⟩
    · rw [decide_eq_false c2] at W2
      have hv : Hid (V = false) := Lib.hid (by rw [hV]; exact decide_eq_false fun x => c2 (hS.1 x).2.1)
      clear hS hV c1 c2
      go_enter Try.func42, Try.ntmps42
      go_wp2_with fail
      refine (W1.out _).mono ?_
      rintro _ _ ⟨rfl, rfl⟩
      go_wp2_with fail
      refine (W2.out _).mono ?_
      rintro _ _ ⟨rfl, rfl⟩
      go_wp2
      go_ret
      exact ⟨by rw [hv.out]; rfl, HB.out⟩
  · rw [decide_eq_false c1] at W1
    have hv : Hid (V = false) := Lib.hid (by rw [hV]; exact decide_eq_false fun x => c1 (hS.1 x).1)
    clear hS hV c1
    go_enter Try.func42, Try.ntmps42
    go_wp2_with fail
    refine (W1.out _).mono ?_
    rintro _ _ ⟨rfl, rfl⟩
    go_wp2
    go_ret
    exact ⟨by rw [hv.out]; rfl, HB.out⟩

theorem exs_get {w : World} {a : Option Addr} {L : List Ext} (h : Exs w a L) {k : Nat} {e : Ext} (he : L[k]? = some e) : ∃ b off, a = some ⟨b, off, none⟩ ∧ b < w.heap.size ∧ ∀ (i : Nat) (x : Ext), L[i]? = some x → Cells4 w b (off + i * 4) x := by
  rcases h with h0 | h0
  · rw [h0] at he; simp at he
  · exact h0
theorem mayBe_no (gen : Int) (L : List Ext) (len cap : Nat) (hlen : len = L.length) (a : Option Addr) (w : World) (h : ¬ (0 ≤ gen ∧ gen ≤ 1099511627775) ∨ 8 < len) :
    Calls Try.prog 22 #[.int .i64 gen, .slice a len cap] w fun e w' => e = .returned (.bool (decide (Recd gen L))) ∧ w = w' := by
  have HV : Hid (decide (Recd gen L) = false) := Lib.hid (decide_eq_false fun x => by
    rcases h with h | h
    · exact h x.1
    · have := x.2.1; omega)
  have HW := Lib.hid (rwithin_any gen 0 1099511627775)
  rw [HV.out]
  by_cases h1 : 0 ≤ gen ∧ gen ≤ 1099511627775
  · have h2 : (8 : Int) < (len : Int) := by rcases h with h | h; exact absurd h1 h; omega
    rw [decide_eq_true h1] at HW
    clear h h1 hlen HV
    go_enter Try.func22, Try.ntmps22
    go_wp2_with fail
    refine (HW.out _).mono ?_
    rintro _ _ ⟨rfl, rfl⟩
    go_wp2
    go_ret
    exact ⟨rfl, rfl⟩
  · rw [decide_eq_false h1] at HW
    clear h h1 hlen HV
    go_enter Try.func22, Try.ntmps22
    go_wp2_with fail
    refine (HW.out _).mono ?_
    rintro _ _ ⟨rfl, rfl⟩
    go_wp2
    go_ret
    exact ⟨rfl, rfl⟩
set_option maxHeartbeats 4000000 in
theorem mayBe_loop (gen : Int) (L : List Ext) (len cap : Nat) (hlen : len = L.length) (a : Option Addr) (w : World) (hr : Exs w a L) (hg : 0 ≤ gen ∧ gen ≤ 1099511627775) (h8 : len ≤ 8) :
    Calls Try.prog 22 #[.int .i64 gen, .slice a len cap] w fun e w' => e = .returned (.bool (decide (Recd gen L))) ∧ Below w.heap.size w w' := by
  have HW := Lib.hid (rwithin_any gen 0 1099511627775)
  rw [decide_eq_true hg] at HW
  obtain ⟨V, hV⟩ : ∃ V, V = decide (Recd gen L) := ⟨_, rfl⟩
  have HN : Hid (∀ k, k < L.length → ¬ OkAt L k → V = false) := Lib.hid fun k hk h => by rw [hV]; exact decide_eq_false fun x => h (x.2.2 k hk)
  have HY : Hid ((∀ i, i < L.length → OkAt L i) → V = true) := Lib.hid fun h => by rw [hV]; exact decide_eq_true ⟨hg, by omega, h⟩
  rw [← hV]
  have HR := Lib.hid hr
  have HL := Lib.hid hlen
  have t8 : decide ((8 : Int) < (len : Int)) = false := decide_eq_false (by omega)
  clear hV hr hlen hg
  go_enter Try.func22, Try.ntmps22
  go_wp2_with fail
  refine (HW.out _).mono ?_
  rintro _ _ ⟨rfl, rfl⟩
  go_wp2
  go_loopw [5, 18] (fun x i wr => ∃ k : Nat, k ≤ len ∧ i = .int .i64 k ∧ x = .int .i64 (lst L k) ∧ Hid (∀ i, i < k → OkAt L i) ∧ Below w.heap.size w wr) (fun _ i _ => len - (intOf i).toNat)
  case atStart => exact ⟨0, Nat.zero_le _, rfl, rfl, Lib.hid (fun i hi => by omega), Below.refl _ _⟩
  case round =>
    obtain ⟨k, hk, rfl, rfl, hval, hbel⟩ := hrel
    have HB := Lib.hid hbel
    by_cases hlt : k < len
    · obtain ⟨e, he⟩ : ∃ e, L[k]? = some e := ⟨_, List.getElem?_eq_getElem (by rw [← HL.out]; exact hlt)⟩
      obtain ⟨b, off, rfl, hb, hc⟩ := exs_get HR.out he
      obtain ⟨q0, q1, q2, q3⟩ := (hc k e he).kept hbel hb
      have HA := Lib.hid (ok_at he)
      have HLS := Lib.hid (lst_succ he)
      have HKL : Hid (k < L.length) := Lib.hid (by rw [← HL.out]; exact hlt)
      have hlo := lst_low k hval.out
      obtain ⟨ls, hls⟩ : ∃ x, x = lst L k := ⟨_, rfl⟩
      rw [← hls] at hlo HA ⊢
      obtain ⟨l1, hl1⟩ : ∃ x, x = ls + 1 := ⟨_, rfl⟩
      have e1 : IntKind.i64.wrap (ls + 1) = l1 := by rw [IntWalk.i64_in _ (by omega)]; exact hl1.symm
      have HL1 := Lib.hid hl1
      have W1 := Lib.hid (rwithin_any e.from_ l1 65535)
      have W2 := Lib.hid (spaceMayBe_any e)
      have HBX := Lib.hid (bkept HB.out (below_box wr (.cells #[.int .i64 e.from_, .int .i64 e.n, .int .i64 e.kind, .int .i64 e.at_] 54)))
      have BLK : Hid (Blk (wr.alloc (.cells #[.int .i64 e.from_, .int .i64 e.n, .int .i64 e.kind, .int .i64 e.at_] 54)) wr.heap.size 54 #[.int .i64 e.from_, .int .i64 e.n, .int .i64 e.kind, .int .i64 e.at_]) := Lib.hid (Blk.new wr _ _)
      have t1 : (k : Int) < (len : Int) := by omega
      have t2 : (0 : Int) ≤ (k : Int) := by omega
      clear hc he hbel hl1 hlo hls
      by_cases h1 : l1 ≤ e.from_ ∧ e.from_ ≤ 65535
      · rw [decide_eq_true h1] at W1
        have H1 := Lib.hid h1
        clear h1
        go_wp2_with fail
        refine (W1.out _).mono ?_
        rintro _ _ ⟨rfl, rfl⟩
        go_wp2_with fail
        by_cases h2 : SpRest e
        · rw [decide_eq_true h2] at W2
          have HOK : Hid (OkAt L k) := Lib.hid (HA.out.2 ⟨by have := H1.out; have := HL1.out; omega, h2⟩)
          clear h2
          refine (W2.out _).mono ?_
          rintro _ w2 ⟨rfl, hb2⟩
          have HB2 := Lib.hid (bkept HBX.out hb2)
          have z0 := (BLK.out.below hb2 BLK.out.lt).cell 0
          clear hb2
          go_wp2
          go_roundw
          case rel => exact ⟨k + 1, by omega, by go_num, by rw [HLS.out], Lib.hid (fun i hi => by
              by_cases hik : i = k
              · rw [hik]; exact HOK.out
              · exact hval.out i (by omega)), HB2.out⟩
          case measure => simp [intOf]; omega
        · rw [decide_eq_false h2] at W2
          have HVF : Hid (V = false) := Lib.hid (HN.out k HKL.out fun x => h2 (HA.out.1 x).2)
          clear h2
          refine (W2.out _).mono ?_
          rintro _ w2 ⟨rfl, hb2⟩
          have HB2 := Lib.hid (bkept HBX.out hb2)
          clear hb2
          go_wp2
          go_ret
          exact ⟨by rw [HVF.out]; rfl, HB2.out⟩
      · rw [decide_eq_false h1] at W1
        have HVF : Hid (V = false) := Lib.hid (HN.out k HKL.out fun x => h1 (by have := (HA.out.1 x).1; have := HL1.out; omega))
        clear h1
        go_wp2_with fail
        refine (W1.out _).mono ?_
        rintro _ _ ⟨rfl, rfl⟩
        go_wp2
        go_ret
        exact ⟨by rw [HVF.out]; rfl, HBX.out⟩
    · obtain rfl : k = len := by omega
      have i0 : ¬ (k : Int) < (k : Int) := by omega
      have HVV := Lib.hid (HY.out (by rw [← HL.out]; exact hval.out))
      clear hbel
      go_wp2
      go_ret
      exact ⟨by rw [HVV.out]; rfl, HB.out⟩
theorem mayBe_any (gen : Int) (L : List Ext) (len cap : Nat) (hlen : len = L.length) (a : Option Addr) (w : World) (hr : Exs w a L) :
    Calls Try.prog 22 #[.int .i64 gen, .slice a len cap] w fun e w' => e = .returned (.bool (decide (Recd gen L))) ∧ Below w.heap.size w w' := by
  by_cases h : ¬ (0 ≤ gen ∧ gen ≤ 1099511627775) ∨ 8 < len
  · exact (mayBe_no gen L len cap hlen a w h).mono fun e w' h => ⟨h.1, h.2 ▸ Below.refl _ _⟩
  · have h1 : (0 ≤ gen ∧ gen ≤ 1099511627775) ∧ len ≤ 8 := by
      refine ⟨?_, by omega⟩
      by_cases x : 0 ≤ gen ∧ gen ≤ 1099511627775
      · exact x
      · exact absurd (.inl x) h
    exact mayBe_loop gen L len cap hlen a w hr h1.1 h1.2
end RT
end Go.Proofs.Ytdjlflinepefbaa
