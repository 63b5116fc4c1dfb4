/- What package wear's inUse, above, Gap and Cold answer, and scoriaref08's bounds, Gap and Cold. No condition but those that each theorem names. -/
import Derived.Test.YtomncnelkkmalacWrN
import Derived.Test.YtomncnelkkmalacWrT
namespace Go.Proofs.Ytomncnelkkmalac
open Go.RowKit
namespace WR
open MM
set_option linter.unusedVariables false
set_option linter.unusedSimpArgs false

theorem inUse_0 (b : Bk) (h : b.st = 0) (w : World) : Calls Try.prog 15 #[.agg #[.int .i64 b.st, .int .i64 b.va, .int .i64 b.wo]] w fun e w' => e = .returned (.bool true) ∧ Below w.heap.size w w' := by
  have HF := Lib.hid (isFree_any b)
  have HG := Lib.hid (isFull_any b)
  rw [show decide (isFree b) = true from decide_eq_true h] at HF
  clear h
  go_enter Try.func15, Try.ntmps15
  have c0 := (Blk.new w 33 #[.int .i64 b.st, .int .i64 b.va, .int .i64 b.wo]).cell 0
  go_wp2_with fail
  refine (HF.out _).mono ?_
  rintro r w1 ⟨rfl, hb1⟩
  have B1 := Lib.hid (below_kept (below_box w _) hb1)
  clear hb1
  go_wp2
  go_ret
  exact ⟨rfl, B1.out⟩
theorem inUse_2 (b : Bk) (h : ¬ b.st = 0) (h2 : b.st = 2) (w : World) : Calls Try.prog 15 #[.agg #[.int .i64 b.st, .int .i64 b.va, .int .i64 b.wo]] w fun e w' => e = .returned (.bool true) ∧ Below w.heap.size w w' := by
  have HF := Lib.hid (isFree_any b)
  have HG := Lib.hid (isFull_any b)
  rw [show decide (isFree b) = false from decide_eq_false h] at HF
  rw [show decide (isFull b) = true from decide_eq_true h2] at HG
  clear h h2
  go_enter Try.func15, Try.ntmps15
  have c0 := (Blk.new w 33 #[.int .i64 b.st, .int .i64 b.va, .int .i64 b.wo]).cell 0
  go_wp2_with fail
  refine (HF.out _).mono ?_
  rintro r w1 ⟨rfl, hb1⟩
  have B1 := Lib.hid (below_kept (below_box w _) hb1)
  have K1 := Lib.hid ((Blk.new w 33 #[.int .i64 b.st, .int .i64 b.va, .int .i64 b.wo]).below hb1 (Blk.new w 33 #[.int .i64 b.st, .int .i64 b.va, .int .i64 b.wo]).lt)
  obtain ⟨x0, x1, x2⟩ := wcells3 K1.out
  clear hb1
  go_wp2_with fail
  refine (HG.out _).mono ?_
  rintro r w2 ⟨rfl, hb2⟩
  have B2 := Lib.hid (below_kept B1.out hb2)
  clear hb2
  go_wp2
  go_ret
  exact ⟨rfl, B2.out⟩
theorem inUse_1 (b : Bk) (h : ¬ b.st = 0) (h2 : ¬ b.st = 2) (h1 : b.st = 1) (w : World) : Calls Try.prog 15 #[.agg #[.int .i64 b.st, .int .i64 b.va, .int .i64 b.wo]] w fun e w' => e = .returned (.bool true) ∧ Below w.heap.size w w' := by
  have HF := Lib.hid (isFree_any b)
  have HG := Lib.hid (isFull_any b)
  rw [show decide (isFree b) = false from decide_eq_false h] at HF
  rw [show decide (isFull b) = false from decide_eq_false h2] at HG
  have s1 : (b.st == 1) = true := beq_iff_eq.2 h1
  clear h h2 h1
  go_enter Try.func15, Try.ntmps15
  have c0 := (Blk.new w 33 #[.int .i64 b.st, .int .i64 b.va, .int .i64 b.wo]).cell 0
  go_wp2_with fail
  refine (HF.out _).mono ?_
  rintro r w1 ⟨rfl, hb1⟩
  have B1 := Lib.hid (below_kept (below_box w _) hb1)
  have K1 := Lib.hid ((Blk.new w 33 #[.int .i64 b.st, .int .i64 b.va, .int .i64 b.wo]).below hb1 (Blk.new w 33 #[.int .i64 b.st, .int .i64 b.va, .int .i64 b.wo]).lt)
  obtain ⟨x0, x1, x2⟩ := wcells3 K1.out
  clear hb1
  go_wp2_with fail
  refine (HG.out _).mono ?_
  rintro r w2 ⟨rfl, hb2⟩
  have B2 := Lib.hid (below_kept B1.out hb2)
  have K2 := Lib.hid (K1.out.below hb2 K1.out.lt)
  clear x0 x1 x2
  obtain ⟨x0, x1, x2⟩ := wcells3 K2.out
  clear hb2
  go_wp2
  go_ret
  exact ⟨rfl, B2.out⟩
theorem inUse_n (b : Bk) (h : ¬ b.st = 0) (h2 : ¬ b.st = 2) (h1 : ¬ b.st = 1) (w : World) : Calls Try.prog 15 #[.agg #[.int .i64 b.st, .int .i64 b.va, .int .i64 b.wo]] w fun e w' => e = .returned (.bool false) ∧ Below w.heap.size w w' := by
  have HF := Lib.hid (isFree_any b)
  have HG := Lib.hid (isFull_any b)
  rw [show decide (isFree b) = false from decide_eq_false h] at HF
  rw [show decide (isFull b) = false from decide_eq_false h2] at HG
  have s1 : (b.st == 1) = false := beq_eq_false_iff_ne.2 h1
  clear h h2 h1
  go_enter Try.func15, Try.ntmps15
  have c0 := (Blk.new w 33 #[.int .i64 b.st, .int .i64 b.va, .int .i64 b.wo]).cell 0
  go_wp2_with fail
  refine (HF.out _).mono ?_
  rintro r w1 ⟨rfl, hb1⟩
  have B1 := Lib.hid (below_kept (below_box w _) hb1)
  have K1 := Lib.hid ((Blk.new w 33 #[.int .i64 b.st, .int .i64 b.va, .int .i64 b.wo]).below hb1 (Blk.new w 33 #[.int .i64 b.st, .int .i64 b.va, .int .i64 b.wo]).lt)
  obtain ⟨x0, x1, x2⟩ := wcells3 K1.out
  clear hb1
  go_wp2_with fail
  refine (HG.out _).mono ?_
  rintro r w2 ⟨rfl, hb2⟩
  have B2 := Lib.hid (below_kept B1.out hb2)
  have K2 := Lib.hid (K1.out.below hb2 K1.out.lt)
  clear x0 x1 x2
  obtain ⟨x0, x1, x2⟩ := wcells3 K2.out
  clear hb2
  go_wp2
  go_ret
  exact ⟨rfl, B2.out⟩
theorem inUse_any (b : Bk) (w : World) : Calls Try.prog 15 #[.agg #[.int .i64 b.st, .int .i64 b.va, .int .i64 b.wo]] w fun e w' => e = .returned (.bool (decide (inUse b))) ∧ Below w.heap.size w w' := by
  by_cases h : b.st = 0
  · rw [show decide (inUse b) = true from decide_eq_true (.inl h)]; exact inUse_0 b h w
  · by_cases h2 : b.st = 2
    · rw [show decide (inUse b) = true from decide_eq_true (.inr (.inl h2))]; exact inUse_2 b h h2 w
    · by_cases h1 : b.st = 1
      · rw [show decide (inUse b) = true from decide_eq_true (.inr (.inr h1))]; exact inUse_1 b h h2 h1 w
      · rw [show decide (inUse b) = false from decide_eq_false (by unfold inUse; omega)]; exact inUse_n b h h2 h1 w
set_option maxHeartbeats 4000000 in
theorem above_any (L : List Bk) (len cap : Nat) (hlen : len = L.length) (hm : len ≤ 4611686018427387904) (a : Option Addr) (g : Bk) (w : World) (hr : Bks w a L) (hw : ∀ e ∈ L, WfB e) (hg : WfB g) :
    Calls Try.prog 17 #[.slice a len cap, .agg #[.int .i64 g.st, .int .i64 g.va, .int .i64 g.wo]] w fun r w' => ∃ m : Int, r = .returned (.int .i64 (m - wn g)) ∧ Mx L len (wn g) m ∧ Below w.heap.size w w' := by
  have HR := Lib.hid hr
  have HL := Lib.hid hlen
  have HWF := Lib.hid hw
  have HG := Lib.hid (worn_any g.st g.va g.wo)
  have hgb := wn_le hg
  have hg0 := wn_nonneg g
  obtain ⟨u, hu⟩ : ∃ u, u = wn g := ⟨_, rfl⟩
  rw [← hu] at HG hgb hg0 ⊢
  have c0 := (Blk.new w 33 #[.int .i64 g.st, .int .i64 g.va, .int .i64 g.wo]).cell 0
  have c1 := (Blk.new w 33 #[.int .i64 g.st, .int .i64 g.va, .int .i64 g.wo]).cell 1
  have c2 := (Blk.new w 33 #[.int .i64 g.st, .int .i64 g.va, .int .i64 g.wo]).cell 2
  have hWk : Wk w w.heap.size g.st g.va g.wo (w.alloc (.cells #[.int .i64 g.st, .int .i64 g.va, .int .i64 g.wo] 33)) := ⟨Blk.new w _ _, Nat.le_refl _, below_box w _⟩
  have HWK := Lib.hid hWk
  clear hr hlen hw hWk hu hg
  go_enter Try.func17, Try.ntmps17
  go_wp2_with fail
  refine (HG.out _).mono ?_
  rintro r w1 ⟨rfl, hb1⟩
  have HW1 := Lib.hid (HWK.out.below hb1)
  clear hb1 HWK c0 c1 c2
  go_wp2
  go_loopw [5, 12] (fun x i wr => ∃ (k : Nat) (m : Int), k ≤ len ∧ i = .int .i64 k ∧ x = .int .i64 m ∧ Hid (Mx L k u m) ∧ Wk w w.heap.size g.st g.va g.wo wr) (fun _ i _ => len - (intOf i).toNat)
  case atStart => exact ⟨0, u, Nat.zero_le _, rfl, rfl, Lib.hid (mx_zero L u), HW1.out⟩
  case round =>
    obtain ⟨k, m, hk, rfl, rfl, hq, hwk⟩ := hrel
    have HK := Lib.hid hwk
    by_cases hlt : k < len
    · obtain ⟨e, he⟩ : ∃ e, L[k]? = some e := ⟨_, List.getElem?_eq_getElem (by rw [← HL.out]; exact hlt)⟩
      obtain ⟨b, off, rfl, hb, hc⟩ := HR.out.get he
      obtain ⟨q0, q1, q2⟩ := (hc k e he).kept hwk.bel hb
      have HE := Lib.hid he
      have HU := Lib.hid (inUse_any e)
      have HV := Lib.hid (worn_any e.st e.va e.wo)
      have t1 : (k : Int) < (len : Int) := by omega
      have t2 : (0 : Int) ≤ (k : Int) := by omega
      have hE1 : Hid (Blk (wr.alloc (.cells #[.int .i64 e.st, .int .i64 e.va, .int .i64 e.wo] 33)) wr.heap.size 33 #[.int .i64 e.st, .int .i64 e.va, .int .i64 e.wo]) := Lib.hid (Blk.new wr _ _)
      have hW1 := Lib.hid (HK.out.below (below_box wr (.cells #[.int .i64 e.st, .int .i64 e.va, .int .i64 e.wo] 33)))
      clear hc he hwk
      have p0 := (Blk.new wr 33 #[.int .i64 e.st, .int .i64 e.va, .int .i64 e.wo]).cell 0
      have p1 := (Blk.new wr 33 #[.int .i64 e.st, .int .i64 e.va, .int .i64 e.wo]).cell 1
      have p2 := (Blk.new wr 33 #[.int .i64 e.st, .int .i64 e.va, .int .i64 e.wo]).cell 2
      by_cases hp : inUse e
      · rw [decide_eq_true hp] at HU
        have HP := Lib.hid hp
        clear hp
        by_cases hl : m < wn e
        · have HN := Lib.hid (mx_up hq.out HE.out HP.out hl)
          obtain ⟨v, hv⟩ : ∃ v, v = wn e := ⟨_, rfl⟩
          have hV2 : wn ⟨e.st, e.va, e.wo⟩ = v := hv.symm
          rw [hV2] at HV
          rw [← hv] at hl HN
          clear hv hV2
          go_wp2_with fail
          refine (HU.out _).mono ?_
          rintro r w1 ⟨rfl, hb1⟩
          have K1 := Lib.hid (hW1.out.below hb1)
          have E1 := Lib.hid (hE1.out.below hb1 hE1.out.lt)
          clear hb1
          obtain ⟨x0, x1, x2⟩ := wcells3 E1.out
          go_wp2_with fail
          refine (HV.out _).mono ?_
          rintro r w2 ⟨rfl, hb2⟩
          have K2 := Lib.hid (K1.out.below hb2)
          clear hb2 x0 x1 x2
          go_wp2
          go_roundw
          case rel => exact ⟨k + 1, v, by omega, by go_num, rfl, HN, K2.out⟩
          case measure => simp [intOf] <;> omega
        · have HN := Lib.hid (mx_skip hq.out HE.out (fun _ => by omega))
          obtain ⟨v, hv⟩ : ∃ v, v = wn e := ⟨_, rfl⟩
          have hV2 : wn ⟨e.st, e.va, e.wo⟩ = v := hv.symm
          rw [hV2] at HV
          rw [← hv] at hl
          clear hv hV2
          go_wp2_with fail
          refine (HU.out _).mono ?_
          rintro r w1 ⟨rfl, hb1⟩
          have K1 := Lib.hid (hW1.out.below hb1)
          have E1 := Lib.hid (hE1.out.below hb1 hE1.out.lt)
          clear hb1
          obtain ⟨x0, x1, x2⟩ := wcells3 E1.out
          go_wp2_with fail
          refine (HV.out _).mono ?_
          rintro r w2 ⟨rfl, hb2⟩
          have K2 := Lib.hid (K1.out.below hb2)
          clear hb2 x0 x1 x2
          go_wp2
          go_roundw
          case rel => exact ⟨k + 1, m, by omega, by go_num, rfl, HN, K2.out⟩
          case measure => simp [intOf] <;> omega
      · rw [decide_eq_false hp] at HU
        have HN := Lib.hid (mx_skip hq.out HE.out (fun h => absurd h hp))
        clear hp
        go_wp2_with fail
        refine (HU.out _).mono ?_
        rintro r w1 ⟨rfl, hb1⟩
        have K1 := Lib.hid (hW1.out.below hb1)
        have E1 := Lib.hid (hE1.out.below hb1 hE1.out.lt)
        clear hb1
        have K2 := Lib.hid K1.out
        go_wp2
        go_roundw
        case rel => exact ⟨k + 1, m, by omega, by go_num, rfl, HN, K2.out⟩
        case measure => simp [intOf] <;> omega
    · obtain rfl : k = len := by omega
      have i0 : ¬ (k : Int) < (k : Int) := by omega
      obtain ⟨x0, x1, x2⟩ := wcells3 hwk.blk
      have hm2 := mx_bound hq.out HWF.out hgb
      have hm1 := hq.out.1
      have e1 : IntKind.i64.wrap (m - u) = m - u := IntWalk.i64_in _ (by omega)
      clear hlt hwk
      go_wp2_with fail
      refine (HG.out _).mono ?_
      rintro r w2 ⟨rfl, hb2⟩
      have K2 := Lib.hid (HK.out.below hb2)
      clear hb2 x0 x1 x2
      go_wp2
      go_ret
      exact ⟨m, rfl, hq.out, K2.out.bel⟩
end WR
end Go.Proofs.Ytomncnelkkmalac
