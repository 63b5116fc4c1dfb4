/- What package wear's Gap and Cold answer, and scoriaref08's bounds, Gap and Cold. No condition but those that each theorem names. -/
import Derived.Test.YtomncnelkkmalacWrU
namespace Go.Proofs.Ytomncnelkkmalac
open Go.RowKit
namespace WR
open MM
set_option linter.unusedVariables false
set_option linter.unusedSimpArgs false

def BoE (L : List Bk) (len : Nat) (w : World) (r : Ending) (w' : World) : Prop := ∃ (lo hi : Int) (so : Bool), r = .returned (.tuple #[.int .i64 lo, .int .i64 hi, .bool so]) ∧ Bo L len lo hi so ∧ Below w.heap.size w w'
set_option maxHeartbeats 4000000 in
theorem bounds_any (L : List Bk) (len cap : Nat) (hlen : len = L.length) (hm : len ≤ 4611686018427387904) (a : Option Addr) (w : World) (hr : Bks w a L) (hw : ∀ e ∈ L, WfB e) :
    Calls Try.prog 18 #[.slice a len cap] w fun r w' => BoE L len w r w' := by
  have HR := Lib.hid hr
  have HL := Lib.hid hlen
  have HWF := Lib.hid hw
  clear hw
  clear hr hlen
  go_enter Try.func18, Try.ntmps18
  go_wp2
  go_loopw [5, 6, 7, 8] (fun x y z i wr => ∃ (k : Nat) (lo hi : Int) (so : Bool), k ≤ len ∧ i = .int .i64 k ∧ x = .int .i64 lo ∧ y = .int .i64 hi ∧ z = .bool so ∧ Hid (Bo L k lo hi so) ∧ Below w.heap.size w wr) (fun _ _ _ i _ => len - (intOf i).toNat)
  case atStart => exact ⟨0, 0, 0, false, Nat.zero_le _, rfl, rfl, rfl, rfl, Lib.hid (.inl ⟨rfl, rfl, rfl, fun i x hi => by omega⟩), Below.refl _ _⟩
  case round =>
    obtain ⟨k, lo, hi, so, hk, rfl, rfl, rfl, rfl, hq, hbel⟩ := hrel
    have HBE := Lib.hid hbel
    by_cases hlt : k < len
    · obtain ⟨e, he⟩ : ∃ e, L[k]? = some e := ⟨_, List.getElem?_eq_getElem (by rw [← HL.out]; exact hlt)⟩
      obtain ⟨b, off, rfl, hb, hc⟩ := HR.out.get he
      have P1 := Lib.hid (hc k e he)
      have HE := Lib.hid he
      have HCN := Lib.hid hc
      have HE1 := Lib.hid (rworn_any e)
      have t1 : (k : Int) < (len : Int) := by omega
      have t2 : (0 : Int) ≤ (k : Int) := by omega
      clear hc he hbel
      obtain ⟨q0, q1, q2⟩ := P1.out.kept HBE.out hb
      by_cases hp : inUse e
      · have s0 : decide (e.st < 0) = false := decide_eq_false (by unfold inUse at hp; omega)
        have s1 : decide (2 < e.st) = false := decide_eq_false (by unfold inUse at hp; omega)
        have HP := Lib.hid hp
        clear hp
        rcases so with _ | _
        · have HN := Lib.hid (bo_first hq.out HE.out HP.out)
          obtain ⟨u, hu⟩ : ∃ u, u = wn e := ⟨_, rfl⟩
          rw [← hu] at HE1 HN
          clear hu
          go_wp2_with fail
          refine (HE1.out _).mono ?_
          rintro r w1 ⟨rfl, rfl⟩
          go_wp2
          go_roundw
          case rel => exact ⟨k + 1, u, u, true, by omega, by go_num, rfl, rfl, rfl, HN, HBE.out⟩
          case measure => simp [intOf] <;> omega
        · by_cases hl : wn e < lo
          · by_cases hh : hi < wn e
            · have HN := Lib.hid (bo_next hq.out HE.out HP.out (.inl ⟨hl, rfl⟩) (.inl ⟨hh, rfl⟩))
              obtain ⟨u, hu⟩ : ∃ u, u = wn e := ⟨_, rfl⟩
              rw [← hu] at HE1 HN hl hh
              clear hu
              go_wp2_with fail
              refine (HE1.out _).mono ?_
              rintro r w1 ⟨rfl, rfl⟩
              go_wp2
              go_roundw
              case rel => exact ⟨k + 1, u, u, true, by omega, by go_num, rfl, rfl, rfl, HN, HBE.out⟩
              case measure => simp [intOf] <;> omega
            · have HN := Lib.hid (bo_next hq.out HE.out HP.out (.inl ⟨hl, rfl⟩) (.inr ⟨hh, rfl⟩))
              obtain ⟨u, hu⟩ : ∃ u, u = wn e := ⟨_, rfl⟩
              rw [← hu] at HE1 HN hl hh
              have d2 : decide (hi < u) = false := decide_eq_false hh
              clear hu
              go_wp2_with fail
              refine (HE1.out _).mono ?_
              rintro r w1 ⟨rfl, rfl⟩
              go_wp2
              go_roundw
              case rel => exact ⟨k + 1, u, hi, true, by omega, by go_num, rfl, rfl, rfl, HN, HBE.out⟩
              case measure => simp [intOf] <;> omega
          · by_cases hh : hi < wn e
            · have HN := Lib.hid (bo_next hq.out HE.out HP.out (.inr ⟨hl, rfl⟩) (.inl ⟨hh, rfl⟩))
              obtain ⟨u, hu⟩ : ∃ u, u = wn e := ⟨_, rfl⟩
              rw [← hu] at HE1 HN hl hh
              have d1 : decide (u < lo) = false := decide_eq_false hl
              clear hu
              go_wp2_with fail
              refine (HE1.out _).mono ?_
              rintro r w1 ⟨rfl, rfl⟩
              go_wp2
              go_roundw
              case rel => exact ⟨k + 1, lo, u, true, by omega, by go_num, rfl, rfl, rfl, HN, HBE.out⟩
              case measure => simp [intOf] <;> omega
            · have HN := Lib.hid (bo_next hq.out HE.out HP.out (.inr ⟨hl, rfl⟩) (.inr ⟨hh, rfl⟩))
              obtain ⟨u, hu⟩ : ∃ u, u = wn e := ⟨_, rfl⟩
              rw [← hu] at HE1 hl hh
              have d1 : decide (u < lo) = false := decide_eq_false hl
              have d2 : decide (hi < u) = false := decide_eq_false hh
              clear hu
              go_wp2_with fail
              refine (HE1.out _).mono ?_
              rintro r w1 ⟨rfl, rfl⟩
              go_wp2
              go_roundw
              case rel => exact ⟨k + 1, lo, hi, true, by omega, by go_num, rfl, rfl, rfl, HN, HBE.out⟩
              case measure => simp [intOf] <;> omega
      · have HN := Lib.hid (bo_skip hq.out HE.out hp)
        by_cases h0 : e.st < 0
        · have s0 : decide (e.st < 0) = true := decide_eq_true h0
          clear hp
          go_wp2
          go_roundw
          case rel => exact ⟨k + 1, lo, hi, so, by omega, by go_num, rfl, rfl, rfl, HN, HBE.out⟩
          case measure => simp [intOf] <;> omega
        · have s0 : decide (e.st < 0) = false := decide_eq_false h0
          have s1 : 2 < e.st := by unfold inUse at hp; omega
          clear hp
          go_wp2
          go_roundw
          case rel => exact ⟨k + 1, lo, hi, so, by omega, by go_num, rfl, rfl, rfl, HN, HBE.out⟩
          case measure => simp [intOf] <;> omega
    · obtain rfl : k = len := by omega
      have i0 : ¬ (k : Int) < (k : Int) := by omega
      go_wp2
      go_ret3
      exact ⟨lo, hi, so, rfl, hq.out, hbel⟩
theorem rgap_any (L : List Bk) (len cap : Nat) (hlen : len = L.length) (hm : len ≤ 4611686018427387904) (a : Option Addr) (w : World) (hr : Bks w a L) (hw : ∀ e ∈ L, WfB e) :
    Calls Try.prog 8 #[.slice a len cap] w fun r w' => ∃ q : Int, r = .returned (.int .i64 q) ∧ Gp L len q ∧ Below w.heap.size w w' := by
  have HC := Lib.hid (bounds_any L len cap hlen hm a w hr hw)
  have HWF := Lib.hid hw
  clear hr hlen hw
  go_enter Try.func8, Try.ntmps8
  go_wp2_with fail
  refine HC.out.mono ?_
  rintro r w1 ⟨lo, hi, so, rfl, hq, hb⟩
  have HQ := Lib.hid hq
  have HB := Lib.hid hb
  obtain ⟨x0, x1, x2, x3⟩ := bo_wf hq HWF.out
  have e1 : IntKind.i64.wrap (hi - lo) = hi - lo := IntWalk.i64_in _ (by omega)
  clear hq hb HC
  go_wp2
  go_ret
  exact ⟨hi - lo, rfl, bo_gap HQ.out, HB.out⟩
theorem gap_any (L : List Bk) (len cap : Nat) (hlen : len = L.length) (hm : len ≤ 4611686018427387904) (a : Option Addr) (w : World) (hr : Bks w a L) (hw : ∀ e ∈ L, WfB e) :
    Calls Try.prog 7 #[.slice a len cap] w fun r w' => ∃ q : Int, r = .returned (.int .i64 q) ∧ Gp L len q ∧ Below w.heap.size w w' := by
  have HX := Lib.hid (least_use L len cap hlen hm a w hr (fun b w => inUse_any b w) (fun a b w => byWorn_any _ _ _ _ _ _ w))
  have HC := Lib.hid (fun (y : Bk) (hy : WfB y) w1 (h : Below w.heap.size w w1) => above_any L len cap hlen hm a y w1 (hr.below h) hw hy)
  have HR := Lib.hid hr
  have HWF := Lib.hid hw
  have HL := Lib.hid hlen
  clear hr hlen hw
  go_enter Try.func7, Try.ntmps7
  go_wp2_with fail
  refine HX.out.mono ?_
  rintro r w1 ⟨q, rfl, hq, hb1⟩
  have HQ := Lib.hid hq
  have HB := Lib.hid hb1
  rcases least_lt hq with h0 | ⟨j, y, h0, hj, hy, hu⟩
  · subst h0
    clear hq hb1 HX
    go_wp2
    go_ret
    exact ⟨0, rfl, .inl ⟨rfl, by
      rcases HQ.out with ⟨_, h2⟩ | ⟨j, y, h1, _⟩
      · exact h2
      · omega⟩, HB.out⟩
  · subst h0
    obtain ⟨b, off, rfl, hb, hc⟩ := HR.out.get hy
    obtain ⟨q0, q1, q2⟩ := (hc j y hy).kept hb1 hb
    have e1 : ((j : Int) == -1) = false := beq_eq_false_iff_ne.2 (by omega)
    have e2 : (0 : Int) ≤ (j : Int) := by omega
    have e3 : (j : Int) < (len : Int) := by omega
    have HJ := Lib.hid hj
    have HY := Lib.hid hy
    have HU := Lib.hid hu
    have HCY := Lib.hid (HC.out y (HWF.out y (List.mem_of_getElem? hy)))
    clear hq hb1 hc hy hu HX HC hj
    go_wp2_with fail
    refine (HCY.out _ HB.out).mono ?_
    rintro r w2 ⟨m, rfl, hmx, hb2⟩
    have HM := Lib.hid hmx
    have HB2 := Lib.hid (below_kept HB.out hb2)
    clear hmx hb2 HCY q0 q1 q2
    go_wp2
    go_ret
    exact ⟨m - wn y, rfl, .inr ⟨wn y, m, minu_least HQ.out HY.out, mx_max HM.out HJ.out HY.out HU.out, rfl⟩, HB2.out⟩
set_option maxHeartbeats 4000000 in
theorem rcold_any (L : List Bk) (len cap : Nat) (hlen : len = L.length) (hm : len ≤ 4611686018427387904) (a : Option Addr) (gap : Int) (w : World) (hr : Bks w a L) (hw : ∀ e ∈ L, WfB e) :
    Calls Try.prog 11 #[.slice a len cap, .int .i64 gap] w fun r w' => ∃ q : Int, r = .returned (.int .i64 q) ∧ Cd L len gap q ∧ Below w.heap.size w w' := by
  have HR := Lib.hid hr
  have HL := Lib.hid hlen
  have HC := Lib.hid (bounds_any L len cap hlen hm a w hr hw)
  have HWF := Lib.hid hw
  clear hw
  clear hr hlen
  go_enter Try.func11, Try.ntmps11
  go_wp2_with fail
  refine HC.out.mono ?_
  rintro r w1 ⟨lo, hi, so, rfl, hqb, hb1⟩
  have HQB := Lib.hid hqb
  have HB1 := Lib.hid hb1
  clear hqb hb1 HC
  go_wp2
  go_loopw [8, 9] (fun x i wr => ∃ (k : Nat) (q : Int), k ≤ len ∧ i = .int .i64 k ∧ x = .int .i64 q ∧ Hid (Least isFull LtW L k q) ∧ Below w.heap.size w wr) (fun _ i _ => len - (intOf i).toNat)
  case atStart => exact ⟨0, -1, Nat.zero_le _, rfl, rfl, Lib.hid (least_zero _ _ L), HB1.out⟩
  case round =>
    obtain ⟨k, q, hk, rfl, rfl, hq, hbel⟩ := hrel
    have HBE := Lib.hid hbel
    by_cases hlt : k < len
    · obtain ⟨e, he⟩ : ∃ e, L[k]? = some e := ⟨_, List.getElem?_eq_getElem (by rw [← HL.out]; exact hlt)⟩
      obtain ⟨b, off, rfl, hb, hc⟩ := HR.out.get he
      have P1 := Lib.hid (hc k e he)
      have HE := Lib.hid he
      have HCN := Lib.hid hc
      have HE1 := Lib.hid (rworn_any e)
      have t1 : (k : Int) < (len : Int) := by omega
      have t2 : (0 : Int) ≤ (k : Int) := by omega
      clear hc he hbel
      by_cases hp : isFull e
      · have s0 : (e.st == 2) = true := beq_iff_eq.2 hp
        have HP := Lib.hid hp
        clear hp
        rcases least_lt hq.out with hq1 | ⟨j, y, hqj, hjk, hy, _⟩
        · subst hq1
          have hNE : Nonempty (Wd (Below w.heap.size w)) := ⟨⟨_, HBE.out⟩⟩
          have c0 := fun x : Wd (Below w.heap.size w) => (x.ok.cell (p := ⟨b, off + k * 3, none⟩) hb).trans P1.out.1
          have c1 := fun x : Wd (Below w.heap.size w) => (x.ok.cell (p := ⟨b, off + k * 3 + 1, none⟩) hb).trans P1.out.2.1
          have c2 := fun x : Wd (Below w.heap.size w) => (x.ok.cell (p := ⟨b, off + k * 3 + 2, none⟩) hb).trans P1.out.2.2
          go_wp2
          refine wp_region_inv (Below w.heap.size w) (by kernel_rfl) (by kernel_rfl) HBE.out.drew ?_
          repeat (go_big_quiet_step (first | (go_at_call 20; with_reducible refine inv_call_same _ (HE1.out _))))
          refine wpQuiet_nil ?_
          intro _ hw'
          obtain ⟨⟨w9, h9⟩, hw''⟩ := hw'
          subst hw''
          have H9 := Lib.hid h9
          clear h9 c0 c1 c2
          go_wp2
          go_roundw
          case rel => exact ⟨k + 1, (k : Int), by omega, by go_num, rfl, Lib.hid (least_first ordW hq.out HE.out HP.out), H9.out⟩
          case measure => simp [intOf] <;> omega
        · subst hqj
          have P0 := Lib.hid (HCN.out j y hy)
          have HY := Lib.hid hy
          have HE2 := Lib.hid (rworn_any y)
          have e1 : decide ((j : Int) < 0) = false := decide_eq_false (by omega)
          have e2 : (0 : Int) ≤ (j : Int) := by omega
          have e3 : (j : Int) < (len : Int) := by have := (List.getElem?_eq_some_iff.1 hy).1; rw [← HL.out] at this; omega
          have hwe : ∃ u, u = wn e := ⟨_, rfl⟩
          have hwy : ∃ u, u = wn y := ⟨_, rfl⟩
          clear hy
          by_cases hl : wn e < wn y
          · have HLT : Hid (LtW e y) := Lib.hid hl
            obtain ⟨u, hu⟩ := hwe
            obtain ⟨v, hv⟩ := hwy
            rw [← hu] at HE1 hl
            rw [← hv] at HE2 hl
            clear hu hv
            have d3 : decide (u < v) = true := decide_eq_true hl
            have hNE : Nonempty (Wd (Below w.heap.size w)) := ⟨⟨_, HBE.out⟩⟩
            have c0 := fun x : Wd (Below w.heap.size w) => (x.ok.cell (p := ⟨b, off + k * 3, none⟩) hb).trans P1.out.1
            have c1 := fun x : Wd (Below w.heap.size w) => (x.ok.cell (p := ⟨b, off + k * 3 + 1, none⟩) hb).trans P1.out.2.1
            have c2 := fun x : Wd (Below w.heap.size w) => (x.ok.cell (p := ⟨b, off + k * 3 + 2, none⟩) hb).trans P1.out.2.2
            have d0 := fun x : Wd (Below w.heap.size w) => (x.ok.cell (p := ⟨b, off + j * 3, none⟩) hb).trans P0.out.1
            have d1 := fun x : Wd (Below w.heap.size w) => (x.ok.cell (p := ⟨b, off + j * 3 + 1, none⟩) hb).trans P0.out.2.1
            have d2 := fun x : Wd (Below w.heap.size w) => (x.ok.cell (p := ⟨b, off + j * 3 + 2, none⟩) hb).trans P0.out.2.2
            go_wp2
            refine wp_region_inv (Below w.heap.size w) (by kernel_rfl) (by kernel_rfl) HBE.out.drew ?_
            repeat (go_big_quiet_step (first | (go_at_call 20; with_reducible refine inv_call_same _ (HE1.out _)) | (go_at_call 20; with_reducible refine inv_call_same _ (HE2.out _))))
            refine wpQuiet_nil ?_
            intro _ hw'
            obtain ⟨⟨w9, h9⟩, hw''⟩ := hw'
            subst hw''
            have H9 := Lib.hid h9
            clear h9 c0 c1 c2 d0 d1 d2
            go_wp2
            go_roundw
            case rel => exact ⟨k + 1, (k : Int), by omega, by go_num, rfl, Lib.hid (least_turn ordW hq.out HY.out HE.out HP.out HLT.out), H9.out⟩
            case measure => simp [intOf] <;> omega
          · have HLT : Hid (¬ LtW e y) := Lib.hid hl
            obtain ⟨u, hu⟩ := hwe
            obtain ⟨v, hv⟩ := hwy
            rw [← hu] at HE1 hl
            rw [← hv] at HE2 hl
            clear hu hv
            have d3 : decide (u < v) = false := decide_eq_false hl
            have hNE : Nonempty (Wd (Below w.heap.size w)) := ⟨⟨_, HBE.out⟩⟩
            have c0 := fun x : Wd (Below w.heap.size w) => (x.ok.cell (p := ⟨b, off + k * 3, none⟩) hb).trans P1.out.1
            have c1 := fun x : Wd (Below w.heap.size w) => (x.ok.cell (p := ⟨b, off + k * 3 + 1, none⟩) hb).trans P1.out.2.1
            have c2 := fun x : Wd (Below w.heap.size w) => (x.ok.cell (p := ⟨b, off + k * 3 + 2, none⟩) hb).trans P1.out.2.2
            have d0 := fun x : Wd (Below w.heap.size w) => (x.ok.cell (p := ⟨b, off + j * 3, none⟩) hb).trans P0.out.1
            have d1 := fun x : Wd (Below w.heap.size w) => (x.ok.cell (p := ⟨b, off + j * 3 + 1, none⟩) hb).trans P0.out.2.1
            have d2 := fun x : Wd (Below w.heap.size w) => (x.ok.cell (p := ⟨b, off + j * 3 + 2, none⟩) hb).trans P0.out.2.2
            go_wp2
            refine wp_region_inv (Below w.heap.size w) (by kernel_rfl) (by kernel_rfl) HBE.out.drew ?_
            repeat (go_big_quiet_step (first | (go_at_call 20; with_reducible refine inv_call_same _ (HE1.out _)) | (go_at_call 20; with_reducible refine inv_call_same _ (HE2.out _))))
            refine wpQuiet_nil ?_
            intro _ hw'
            obtain ⟨⟨w9, h9⟩, hw''⟩ := hw'
            subst hw''
            have H9 := Lib.hid h9
            clear h9 c0 c1 c2 d0 d1 d2
            go_wp2
            go_roundw
            case rel => exact ⟨k + 1, (j : Int), by omega, by go_num, rfl, Lib.hid (least_keep hq.out HY.out HE.out HLT.out), H9.out⟩
            case measure => simp [intOf] <;> omega
      · have s0 : (e.st == 2) = false := beq_eq_false_iff_ne.2 hp
        have HP := Lib.hid hp
        clear hp
        have hNE : Nonempty (Wd (Below w.heap.size w)) := ⟨⟨_, HBE.out⟩⟩
        have c0 := fun x : Wd (Below w.heap.size w) => (x.ok.cell (p := ⟨b, off + k * 3, none⟩) hb).trans P1.out.1
        have c1 := fun x : Wd (Below w.heap.size w) => (x.ok.cell (p := ⟨b, off + k * 3 + 1, none⟩) hb).trans P1.out.2.1
        have c2 := fun x : Wd (Below w.heap.size w) => (x.ok.cell (p := ⟨b, off + k * 3 + 2, none⟩) hb).trans P1.out.2.2
        go_wp2
        refine wp_region_inv (Below w.heap.size w) (by kernel_rfl) (by kernel_rfl) HBE.out.drew ?_
        repeat (go_big_quiet_step (first | (go_at_call 20; with_reducible refine inv_call_same _ (HE1.out _))))
        refine wpQuiet_nil ?_
        intro _ hw'
        obtain ⟨⟨w9, h9⟩, hw''⟩ := hw'
        subst hw''
        have H9 := Lib.hid h9
        clear h9 c0 c1 c2
        go_wp2
        go_roundw
        case rel => exact ⟨k + 1, q, by omega, by go_num, rfl, Lib.hid (least_skip hq.out HE.out HP.out), H9.out⟩
        case measure => simp [intOf] <;> omega
    · obtain rfl : k = len := by omega
      have i0 : ¬ (k : Int) < (k : Int) := by omega
      rcases least_lt hq.out with hq1 | ⟨j, y, hqj, hjk, hy, hf⟩
      · subst hq1
        have HQ := Lib.hid hq.out
        clear hq hlt
        go_wp2
        go_ret
        exact ⟨-1, rfl, ⟨-1, HQ.out, fun _ => rfl, fun j y h => by omega⟩, hbel⟩
      · subst hqj
        obtain ⟨b, off, rfl, hb, hc⟩ := HR.out.get hy
        have P0 := Lib.hid (hc j y hy)
        obtain ⟨p0, p1, p2⟩ := P0.out.kept hbel hb
        have HY := Lib.hid hy
        have HMX : Hid (MaxU L k hi) := Lib.hid (by
          rcases HQB.out with ⟨_, _, _, h4⟩ | ⟨_, _, h3⟩
          · exact absurd (.inr (.inl hf)) (h4 j y hjk hy)
          · exact h3)
        have HE2 := Lib.hid (rworn_any y)
        have HE1 := Lib.hid (rworn_any ⟨0, 0, gap⟩)
        have e1 : (0 : Int) ≤ (j : Int) := by omega
        have e3 : (j : Int) < (k : Int) := by omega
        have hyb := wn_le (HWF.out y (List.mem_of_getElem? hy))
        have hy0 := wn_nonneg y
        have hmb := maxu_wf HMX.out HWF.out
        have e4 : IntKind.i64.wrap (hi - wn y) = hi - wn y := IntWalk.i64_in _ (by omega)
        have HQ := Lib.hid hq.out
        clear hq hlt hc hy hf hjk hmb hyb hy0
        by_cases hl : hi - wn y ≤ wn ⟨0, 0, gap⟩
        · have HLT := Lib.hid hl
          obtain ⟨v, hv⟩ : ∃ v, v = wn y := ⟨_, rfl⟩
          obtain ⟨u, hu⟩ : ∃ u, u = wn ⟨0, 0, gap⟩ := ⟨_, rfl⟩
          rw [← hv] at HE2 e4 hl
          rw [← hu] at HE1 hl
          clear hv hu
          have d3 : decide (hi - v ≤ u) = true := decide_eq_true hl
          go_wp2_with fail
          refine (HE2.out _).mono ?_
          rintro r w8 ⟨rfl, rfl⟩
          go_wp2_with fail
          refine (HE1.out _).mono ?_
          rintro r w9 ⟨rfl, rfl⟩
          clear p0 p1 p2
          go_wp2
          go_ret
          exact ⟨-1, rfl, ⟨(j : Int), HQ.out, fun _ => rfl, fun i x h1 h2 => by
            obtain rfl : i = j := by omega
            rw [HY.out] at h2; injection h2 with h2; subst h2
            exact ⟨hi, HMX.out, fun _ => rfl, fun h => absurd HLT.out h⟩⟩, hbel⟩
        · have HLT := Lib.hid hl
          obtain ⟨v, hv⟩ : ∃ v, v = wn y := ⟨_, rfl⟩
          obtain ⟨u, hu⟩ : ∃ u, u = wn ⟨0, 0, gap⟩ := ⟨_, rfl⟩
          rw [← hv] at HE2 e4 hl
          rw [← hu] at HE1 hl
          clear hv hu
          have d3 : decide (hi - v ≤ u) = false := decide_eq_false hl
          go_wp2_with fail
          refine (HE2.out _).mono ?_
          rintro r w8 ⟨rfl, rfl⟩
          go_wp2_with fail
          refine (HE1.out _).mono ?_
          rintro r w9 ⟨rfl, rfl⟩
          clear p0 p1 p2
          go_wp2
          go_ret
          exact ⟨(j : Int), rfl, ⟨(j : Int), HQ.out, fun h => by omega, fun i x h1 h2 => by
            obtain rfl : i = j := by omega
            rw [HY.out] at h2; injection h2 with h2; subst h2
            exact ⟨hi, HMX.out, fun h => absurd h (by have := HLT.out; omega), fun _ => rfl⟩⟩, hbel⟩
theorem cold_any (L : List Bk) (len cap : Nat) (hlen : len = L.length) (hm : len ≤ 4611686018427387904) (a : Option Addr) (gap : Int) (w : World) (hr : Bks w a L) (hw : ∀ e ∈ L, WfB e) :
    Calls Try.prog 10 #[.slice a len cap, .int .i64 gap] w fun r w' => ∃ q : Int, r = .returned (.int .i64 q) ∧ Cd L len gap q ∧ Below w.heap.size w w' := by
  have HX := Lib.hid (least_fullW L len cap hlen hm a w hr (fun b w => isFull_any b w) (fun a b w => byWorn_any _ _ _ _ _ _ w))
  have HC := Lib.hid (fun (y : Bk) (hy : WfB y) w1 (h : Below w.heap.size w w1) => above_any L len cap hlen hm a y w1 (hr.below h) hw hy)
  have HR := Lib.hid hr
  have HWF := Lib.hid hw
  have HL := Lib.hid hlen
  clear hr hlen hw
  go_enter Try.func10, Try.ntmps10
  go_wp2_with fail
  refine HX.out.mono ?_
  rintro r w1 ⟨q, rfl, hq, hb1⟩
  have HQ := Lib.hid hq
  have HB := Lib.hid hb1
  rcases least_lt hq with h0 | ⟨j, y, h0, hj, hy, hu⟩
  · subst h0
    clear hq hb1 HX
    go_wp2
    go_ret
    exact ⟨-1, rfl, ⟨-1, HQ.out, fun _ => rfl, fun j y h => by omega⟩, HB.out⟩
  · subst h0
    obtain ⟨b, off, rfl, hb, hc⟩ := HR.out.get hy
    obtain ⟨q0, q1, q2⟩ := (hc j y hy).kept hb1 hb
    have e1 : ((j : Int) == -1) = false := beq_eq_false_iff_ne.2 (by omega)
    have e2 : (0 : Int) ≤ (j : Int) := by omega
    have e3 : (j : Int) < (len : Int) := by omega
    have HJ := Lib.hid hj
    have HY := Lib.hid hy
    have HU := Lib.hid hu
    have HCY := Lib.hid (HC.out y (HWF.out y (List.mem_of_getElem? hy)))
    clear hq hb1 hc hy hu HX HC hj
    go_wp2_with fail
    refine (HCY.out _ HB.out).mono ?_
    rintro r w2 ⟨m, rfl, hmx, hb2⟩
    have HM := Lib.hid hmx
    have HB2 := Lib.hid (below_kept HB.out hb2)
    clear hmx hb2 HCY q0 q1 q2
    by_cases hk : gap < 0
    · have hu : wn ⟨0, 0, gap⟩ = 0 := if_pos hk
      have hk' : (0 : Int) > gap := hk
      by_cases hl : m - wn y ≤ 0
      · have HLT : Hid (m - wn y ≤ wn ⟨0, 0, gap⟩) := Lib.hid (by rw [hu]; exact hl)
        obtain ⟨v, hv⟩ : ∃ v, v = m - wn y := ⟨_, rfl⟩
        have HV := Lib.hid hv
        rw [← hv] at hl ⊢
        have d3 : decide (v ≤ 0) = true := decide_eq_true hl
        clear hv hu
        go_wp2
        go_ret
        exact ⟨-1, rfl, ⟨(j : Int), HQ.out, fun h => by rfl, fun i x h1 h2 => by
          obtain rfl : i = j := by omega
          rw [HY.out] at h2; injection h2 with h2; subst h2
          exact ⟨m, mx_max HM.out HJ.out HY.out (.inr (.inl HU.out)), fun _ => rfl, fun h => absurd HLT.out h⟩⟩, HB2.out⟩
      · have HLT : Hid (¬ m - wn y ≤ wn ⟨0, 0, gap⟩) := Lib.hid (by rw [hu]; exact hl)
        obtain ⟨v, hv⟩ : ∃ v, v = m - wn y := ⟨_, rfl⟩
        have HV := Lib.hid hv
        rw [← hv] at hl ⊢
        have d3 : decide (v ≤ 0) = false := decide_eq_false hl
        clear hv hu
        go_wp2
        go_ret
        exact ⟨(j : Int), rfl, ⟨(j : Int), HQ.out, fun h => by omega, fun i x h1 h2 => by
          obtain rfl : i = j := by omega
          rw [HY.out] at h2; injection h2 with h2; subst h2
          exact ⟨m, mx_max HM.out HJ.out HY.out (.inr (.inl HU.out)), fun h => absurd h (by have := HLT.out; omega), fun _ => rfl⟩⟩, HB2.out⟩
    · have hu : wn ⟨0, 0, gap⟩ = gap := if_neg hk
      by_cases hl : m - wn y ≤ gap
      · have HLT : Hid (m - wn y ≤ wn ⟨0, 0, gap⟩) := Lib.hid (by rw [hu]; exact hl)
        obtain ⟨v, hv⟩ : ∃ v, v = m - wn y := ⟨_, rfl⟩
        have HV := Lib.hid hv
        rw [← hv] at hl ⊢
        have d3 : decide (v ≤ gap) = true := decide_eq_true hl
        clear hv hu
        go_wp2
        go_ret
        exact ⟨-1, rfl, ⟨(j : Int), HQ.out, fun h => by rfl, fun i x h1 h2 => by
          obtain rfl : i = j := by omega
          rw [HY.out] at h2; injection h2 with h2; subst h2
          exact ⟨m, mx_max HM.out HJ.out HY.out (.inr (.inl HU.out)), fun _ => rfl, fun h => absurd HLT.out h⟩⟩, HB2.out⟩
      · have HLT : Hid (¬ m - wn y ≤ wn ⟨0, 0, gap⟩) := Lib.hid (by rw [hu]; exact hl)
        obtain ⟨v, hv⟩ : ∃ v, v = m - wn y := ⟨_, rfl⟩
        have HV := Lib.hid hv
        rw [← hv] at hl ⊢
        have d3 : decide (v ≤ gap) = false := decide_eq_false hl
        clear hv hu
        go_wp2
        go_ret
        exact ⟨(j : Int), rfl, ⟨(j : Int), HQ.out, fun h => by omega, fun i x h1 h2 => by
          obtain rfl : i = j := by omega
          rw [HY.out] at h2; injection h2 with h2; subst h2
          exact ⟨m, mx_max HM.out HJ.out HY.out (.inr (.inl HU.out)), fun h => absurd h (by have := HLT.out; omega), fun _ => rfl⟩⟩, HB2.out⟩
end WR
end Go.Proofs.Ytomncnelkkmalac
