/- What scoriaref08's worn, Pick, Victim and Count answer, and scorialaw08's refs. No condition but those that each theorem names. -/
import Derived.Test.YtomncnelkkmalabWrL


namespace Go.Proofs.Ytomncnelkkmalab
open Go.RowKit
namespace WR
open MM
set_option linter.unusedVariables false
set_option linter.unusedSimpArgs false

theorem rworn_any (b : Bk) (w : World) : Calls Try.prog 47 #[.int .i64 b.wo] w fun e w' => e = .returned (.int .i64 (wn b)) ∧ w = w' := by
  obtain ⟨x, hx⟩ : ∃ x, x = b.wo := ⟨_, rfl⟩
  obtain ⟨q, hq⟩ : ∃ q, q = wn b := ⟨_, rfl⟩
  have h0 : q = if x < 0 then 0 else x := by rw [hq, hx]; rfl
  rw [← hq, ← hx]
  clear hq hx
  by_cases hk : x < 0
  · rw [if_pos hk] at h0
    subst h0
    go_enter Try.func47, Try.ntmps47
    go_wp2
    go_ret
    exact ⟨rfl, rfl⟩
  · rw [if_neg hk] at h0
    subst h0
    go_enter Try.func47, Try.ntmps47
    go_wp2
    go_ret
    exact ⟨rfl, rfl⟩
set_option maxHeartbeats 4000000 in
theorem rpick_any (L : List Bk) (len cap : Nat) (hlen : len = L.length) (hm : len ≤ 4611686018427387904) (a : Option Addr) (w : World) (hr : Bks w a L) :
    Calls Try.prog 24 #[.slice a len cap] w fun r w' => ∃ q : Int, r = .returned (.int .i64 q) ∧ Least isFree LtW L len q ∧ Below w.heap.size w w' := by
  have HR := Lib.hid hr
  have HL := Lib.hid hlen
  have hS : Hid (Up isFree LtW L len (-1)) := Lib.hid (by rw [hlen]; exact up_start _ _ L)
  have e0 : IntKind.i64.wrap ((len : Int) - 1) = (len : Int) - 1 := IntWalk.i64_in _ (by omega)
  clear hr hlen
  go_enter Try.func24, Try.ntmps24
  go_wp2
  go_loopw [3, 4] (fun x i wr => ∃ (k : Nat) (q : Int), k ≤ len ∧ i = .int .i64 ((k : Int) - 1) ∧ x = .int .i64 q ∧ Hid (Up isFree LtW L k q) ∧ Below w.heap.size w wr) (fun _ i _ => ((intOf i) + 1).toNat)
  case atStart => exact ⟨len, -1, Nat.le_refl _, rfl, rfl, hS, Below.refl _ _⟩
  case round =>
    obtain ⟨k, q, hk, hi, rfl, hq, hbel⟩ := hrel
    have HBE := Lib.hid hbel
    rcases k with _ | k
    · have hi' := hi.trans (show Value.int .i64 (((0 : Nat) : Int) - 1) = .int .i64 (-1) from rfl)
      clear hi
      subst hi'
      go_wp2
      go_ret
      exact ⟨q, rfl, by rw [HL.out]; exact up_least hq.out, hbel⟩
    · have hi' := hi.trans (show Value.int .i64 (((k + 1 : Nat) : Int) - 1) = .int .i64 (k : Int) from by congr 1; omega)
      clear hi
      subst hi'
      have hlt : k < len := by omega
      have e4 : IntKind.i64.wrap ((k : Int) - 1) = (k : Int) - 1 := IntWalk.i64_in _ (by omega)
      obtain ⟨e, he⟩ : ∃ e, L[k]? = some e := ⟨_, List.getElem?_eq_getElem (by rw [← HL.out]; exact hlt)⟩
      obtain ⟨b, off, rfl, hb, hc⟩ := HR.out.get he
      have P1 := Lib.hid (hc k e he)
      have HE := Lib.hid he
      have HCN := Lib.hid hc
      have HE1 := Lib.hid (rworn_any e)
      have t1 : (k : Int) < (len : Int) := by omega
      have t2 : (0 : Int) ≤ (k : Int) := by omega
      clear hc he hbel
      by_cases hp : isFree e
      · have s0 : (e.st == 0) = true := beq_iff_eq.2 hp
        have HP := Lib.hid hp
        clear hp
        rcases up_lt hq.out with hq1 | ⟨j, y, hqj, hy⟩
        · subst hq1
          have hNE : Nonempty (Wd (Below w.heap.size w)) := ⟨⟨_, HBE.out⟩⟩
          have c0 := fun x : Wd (Below w.heap.size w) => (x.ok.cell (p := ⟨b, off + k * 3, none⟩) hb).trans P1.out.1
          have c1 := fun x : Wd (Below w.heap.size w) => (x.ok.cell (p := ⟨b, off + k * 3 + 1, none⟩) hb).trans P1.out.2.1
          have c2 := fun x : Wd (Below w.heap.size w) => (x.ok.cell (p := ⟨b, off + k * 3 + 2, none⟩) hb).trans P1.out.2.2
          go_wp2
          refine wp_region_inv (Below w.heap.size w) (by kernel_rfl) (by kernel_rfl) HBE.out.drew ?_
          repeat (go_big_quiet_step (first | (go_at_call 47; with_reducible refine inv_call_same _ (HE1.out _))))
          refine wpQuiet_nil ?_
          intro _ hw'
          obtain ⟨⟨w9, h9⟩, hw''⟩ := hw'
          subst hw''
          have H9 := Lib.hid h9
          clear h9 c0 c1 c2
          go_wp2
          go_roundw
          case rel => exact ⟨k, (k : Int), by omega, by go_num, rfl, Lib.hid (up_first ordW hq.out HE.out HP.out), H9.out⟩
          case measure => simp [intOf] <;> omega
        · subst hqj
          have P0 := Lib.hid (HCN.out j y hy)
          have HY := Lib.hid hy
          have HE2 := Lib.hid (rworn_any y)
          have e1 : decide ((j : Int) < 0) = false := decide_eq_false (by omega)
          have e2 : (0 : Int) ≤ (j : Int) := by omega
          have e3 : (j : Int) < (len : Int) := by have := (List.getElem?_eq_some_iff.1 hy).1; rw [← HL.out] at this; omega
          have hwe : ∃ u, u = wn e := ⟨_, rfl⟩
          have hwy : ∃ u, u = wn y := ⟨_, rfl⟩
          clear hy
          by_cases hl : wn e ≤ wn y
          · have HLT : Hid (¬ LtW y e) := Lib.hid (by unfold LtW; omega)
            obtain ⟨u, hu⟩ := hwe
            obtain ⟨v, hv⟩ := hwy
            rw [← hu] at HE1 hl
            rw [← hv] at HE2 hl
            clear hu hv
            have e5 : decide (u ≤ v) = true := decide_eq_true hl
            have hNE : Nonempty (Wd (Below w.heap.size w)) := ⟨⟨_, HBE.out⟩⟩
            have c0 := fun x : Wd (Below w.heap.size w) => (x.ok.cell (p := ⟨b, off + k * 3, none⟩) hb).trans P1.out.1
            have c1 := fun x : Wd (Below w.heap.size w) => (x.ok.cell (p := ⟨b, off + k * 3 + 1, none⟩) hb).trans P1.out.2.1
            have c2 := fun x : Wd (Below w.heap.size w) => (x.ok.cell (p := ⟨b, off + k * 3 + 2, none⟩) hb).trans P1.out.2.2
            have d0 := fun x : Wd (Below w.heap.size w) => (x.ok.cell (p := ⟨b, off + j * 3, none⟩) hb).trans P0.out.1
            have d1 := fun x : Wd (Below w.heap.size w) => (x.ok.cell (p := ⟨b, off + j * 3 + 1, none⟩) hb).trans P0.out.2.1
            have d2 := fun x : Wd (Below w.heap.size w) => (x.ok.cell (p := ⟨b, off + j * 3 + 2, none⟩) hb).trans P0.out.2.2
            go_wp2
            refine wp_region_inv (Below w.heap.size w) (by kernel_rfl) (by kernel_rfl) HBE.out.drew ?_
            repeat (go_big_quiet_step (first | (go_at_call 47; with_reducible refine inv_call_same _ (HE1.out _)) | (go_at_call 47; with_reducible refine inv_call_same _ (HE2.out _))))
            refine wpQuiet_nil ?_
            intro _ hw'
            obtain ⟨⟨w9, h9⟩, hw''⟩ := hw'
            subst hw''
            have H9 := Lib.hid h9
            clear h9 c0 c1 c2 d0 d1 d2
            go_wp2
            go_roundw
            case rel => exact ⟨k, (k : Int), by omega, by go_num, rfl, Lib.hid (up_turn ordW hq.out HY.out HE.out HP.out HLT.out), H9.out⟩
            case measure => simp [intOf] <;> omega
          · have HLT : Hid (LtW y e) := Lib.hid (by unfold LtW; omega)
            obtain ⟨u, hu⟩ := hwe
            obtain ⟨v, hv⟩ := hwy
            rw [← hu] at HE1 hl
            rw [← hv] at HE2 hl
            clear hu hv
            have e5 : decide (u ≤ v) = false := decide_eq_false hl
            have hNE : Nonempty (Wd (Below w.heap.size w)) := ⟨⟨_, HBE.out⟩⟩
            have c0 := fun x : Wd (Below w.heap.size w) => (x.ok.cell (p := ⟨b, off + k * 3, none⟩) hb).trans P1.out.1
            have c1 := fun x : Wd (Below w.heap.size w) => (x.ok.cell (p := ⟨b, off + k * 3 + 1, none⟩) hb).trans P1.out.2.1
            have c2 := fun x : Wd (Below w.heap.size w) => (x.ok.cell (p := ⟨b, off + k * 3 + 2, none⟩) hb).trans P1.out.2.2
            have d0 := fun x : Wd (Below w.heap.size w) => (x.ok.cell (p := ⟨b, off + j * 3, none⟩) hb).trans P0.out.1
            have d1 := fun x : Wd (Below w.heap.size w) => (x.ok.cell (p := ⟨b, off + j * 3 + 1, none⟩) hb).trans P0.out.2.1
            have d2 := fun x : Wd (Below w.heap.size w) => (x.ok.cell (p := ⟨b, off + j * 3 + 2, none⟩) hb).trans P0.out.2.2
            go_wp2
            refine wp_region_inv (Below w.heap.size w) (by kernel_rfl) (by kernel_rfl) HBE.out.drew ?_
            repeat (go_big_quiet_step (first | (go_at_call 47; with_reducible refine inv_call_same _ (HE1.out _)) | (go_at_call 47; with_reducible refine inv_call_same _ (HE2.out _))))
            refine wpQuiet_nil ?_
            intro _ hw'
            obtain ⟨⟨w9, h9⟩, hw''⟩ := hw'
            subst hw''
            have H9 := Lib.hid h9
            clear h9 c0 c1 c2 d0 d1 d2
            go_wp2
            go_roundw
            case rel => exact ⟨k, (j : Int), by omega, by go_num, rfl, Lib.hid (up_keep ordW hq.out HY.out HE.out HLT.out), H9.out⟩
            case measure => simp [intOf] <;> omega
      · have s0 : (e.st == 0) = false := beq_eq_false_iff_ne.2 hp
        have HP := Lib.hid hp
        clear hp
        have hNE : Nonempty (Wd (Below w.heap.size w)) := ⟨⟨_, HBE.out⟩⟩
        have c0 := fun x : Wd (Below w.heap.size w) => (x.ok.cell (p := ⟨b, off + k * 3, none⟩) hb).trans P1.out.1
        have c1 := fun x : Wd (Below w.heap.size w) => (x.ok.cell (p := ⟨b, off + k * 3 + 1, none⟩) hb).trans P1.out.2.1
        have c2 := fun x : Wd (Below w.heap.size w) => (x.ok.cell (p := ⟨b, off + k * 3 + 2, none⟩) hb).trans P1.out.2.2
        go_wp2
        refine wp_region_inv (Below w.heap.size w) (by kernel_rfl) (by kernel_rfl) HBE.out.drew ?_
        repeat (go_big_quiet_step (first | (go_at_call 47; with_reducible refine inv_call_same _ (HE1.out _))))
        refine wpQuiet_nil ?_
        intro _ hw'
        obtain ⟨⟨w9, h9⟩, hw''⟩ := hw'
        subst hw''
        have H9 := Lib.hid h9
        clear h9 c0 c1 c2
        go_wp2
        go_roundw
        case rel => exact ⟨k, q, by omega, by go_num, rfl, Lib.hid (up_skip hq.out HE.out HP.out), H9.out⟩
        case measure => simp [intOf] <;> omega
/-- The block that is to be emptied (-1: none). -/
def Vic (L : List Bk) (k : Nat) (q : Int) : Prop := ∃ q1, First strands L k q1 ∧ (¬ q1 = -1 → q = q1) ∧ (q1 = -1 → Least isFull LtV L k q)
theorem first_uniq {p : Bk → Prop} {l : List Bk} {k : Nat} {r s : Int} (h : First p l k r) (h' : First p l k s) : r = s := by
  rcases h with ⟨h1, h2⟩ | ⟨j, y, h1, h2, h3, h4, h5⟩
  · rcases h' with ⟨g1, g2⟩ | ⟨i, x, g1, g2, g3, g4, g5⟩
    · rw [h1, g1]
    · exact absurd g4 (h2 i x g2 g3)
  · rcases h' with ⟨g1, g2⟩ | ⟨i, x, g1, g2, g3, g4, g5⟩
    · exact absurd h4 (g2 j y h2 h3)
    · rcases Nat.lt_trichotomy i j with c | c | c
      · exact absurd g4 (h5 i x c g3)
      · omega
      · exact absurd h4 (g5 j y c h3)
theorem vic_uniq {L : List Bk} {k : Nat} {r s : Int} (h : Vic L k r) (h' : Vic L k s) : r = s := by
  obtain ⟨q1, a1, a2, a3⟩ := h
  obtain ⟨q2, b1, b2, b3⟩ := h'
  obtain rfl := first_uniq a1 b1
  by_cases c : q1 = -1
  · exact least_uniq (a3 c) (b3 c)
  · rw [a2 c, b2 c]
set_option maxHeartbeats 4000000 in
theorem rvictim_any (L : List Bk) (len cap : Nat) (hlen : len = L.length) (hm : len ≤ 4611686018427387904) (a : Option Addr) (w : World) (hr : Bks w a L) :
    Calls Try.prog 29 #[.slice a len cap] w fun r w' => ∃ q : Int, r = .returned (.int .i64 q) ∧ Vic L len q ∧ Below w.heap.size w w' := by
  have HR := Lib.hid hr
  have HL := Lib.hid hlen
  clear hr hlen
  go_enter Try.func29, Try.ntmps29
  go_wp2
  go_loopw [3] (fun i wr => ∃ k : Nat, k ≤ len ∧ i = .int .i64 k ∧ Hid (∀ (i : Nat) (x : Bk), i < k → L[i]? = some x → ¬ strands x) ∧ Below w.heap.size w wr) (fun i _ => len - (intOf i).toNat)
  case atStart => exact ⟨0, Nat.zero_le _, rfl, Lib.hid (fun i x hi => by omega), Below.refl _ _⟩
  case round =>
    obtain ⟨k, hk, rfl, hno, hbel⟩ := hrel
    have HBE := Lib.hid hbel
    by_cases hlt : k < len
    · obtain ⟨e, he⟩ : ∃ e, L[k]? = some e := ⟨_, List.getElem?_eq_getElem (by rw [← HL.out]; exact hlt)⟩
      obtain ⟨b, off, rfl, hb, hc⟩ := HR.out.get he
      have P1 := Lib.hid (hc k e he)
      have HE := Lib.hid he
      have HCN := Lib.hid hc
      have HE1 := Lib.hid (rworn_any e)
      have t1 : (k : Int) < (len : Int) := by omega
      have t2 : (0 : Int) ≤ (k : Int) := by omega
      clear hc he hbel
      obtain ⟨q0, q1, q2⟩ := P1.out.kept HBE.out hb
      by_cases hp : e.st = 3
      · have s0 : (e.st == 3) = true := beq_iff_eq.2 hp
        by_cases hv : 0 < e.va
        · have HP := Lib.hid (show strands e from ⟨hp, hv⟩)
          have s1 : decide (0 < e.va) = true := decide_eq_true hv
          clear hp
          go_wp2
          go_ret
          exact ⟨(k : Int), rfl, ⟨k, .inr ⟨k, e, rfl, hlt, HE.out, HP.out, hno.out⟩, fun _ => rfl, fun h => by omega⟩, HBE.out⟩
        · have HP := Lib.hid (fun h : strands e => hv h.2)
          have s1 : decide (0 < e.va) = false := decide_eq_false hv
          clear hp
          go_wp2
          go_roundw
          case rel => exact ⟨k + 1, by omega, by go_num, Lib.hid (fun i x hi hx => by
            rcases at_last HE.out hi hx with c | rfl
            · exact hno.out i x c hx
            · exact HP.out), HBE.out⟩
          case measure => simp [intOf] <;> omega
      · have s0 : (e.st == 3) = false := beq_eq_false_iff_ne.2 hp
        have HP := Lib.hid (fun h : strands e => hp h.1)
        clear hp
        go_wp2
        go_roundw
        case rel => exact ⟨k + 1, by omega, by go_num, Lib.hid (fun i x hi hx => by
          rcases at_last HE.out hi hx with c | rfl
          · exact hno.out i x c hx
          · exact HP.out), HBE.out⟩
        case measure => simp [intOf] <;> omega
    · obtain rfl : k = len := by omega
      have i0 : ¬ (k : Int) < (k : Int) := by omega
      have HNO := Lib.hid hno.out
      clear hno hlt
      go_wp2
      go_loopw [4, 5] (fun x i wr => ∃ (m : Nat) (q : Int), m ≤ k ∧ i = .int .i64 m ∧ x = .int .i64 q ∧ Hid (Least isFull LtV L m q) ∧ Below w.heap.size w wr) (fun _ i _ => k - (intOf i).toNat)
      case atStart => exact ⟨0, -1, Nat.zero_le _, rfl, rfl, Lib.hid (least_zero _ _ L), HBE.out⟩
      case round =>
        obtain ⟨m, q, hm2, rfl, rfl, hq, hbel⟩ := hrel
        have HBE := Lib.hid hbel
        by_cases hlt2 : m < k
        · obtain ⟨e, he⟩ : ∃ e, L[m]? = some e := ⟨_, List.getElem?_eq_getElem (by rw [← HL.out]; exact hlt2)⟩
          obtain ⟨b, off, rfl, hb, hc⟩ := HR.out.get he
          have P1 := Lib.hid (hc m e he)
          have HE := Lib.hid he
          have HCN := Lib.hid hc
          have HE1 := Lib.hid (rworn_any e)
          have t1 : (m : Int) < (k : Int) := by omega
          have t2 : (0 : Int) ≤ (m : Int) := by omega
          clear hc he hbel
          obtain ⟨q0, q1, q2⟩ := P1.out.kept HBE.out hb
          by_cases hp : isFull e
          · have s0 : (e.st == 2) = true := beq_iff_eq.2 hp
            have HP := Lib.hid hp
            clear hp
            rcases least_lt hq.out with hq1 | ⟨j, y, hqj, hjk, hy, _⟩
            · subst hq1
              go_wp2
              have hNE : Nonempty (Wd (Below w.heap.size w)) := ⟨⟨_, HBE.out⟩⟩
              have c0 := fun x : Wd (Below w.heap.size w) => (x.ok.cell (p := ⟨b, off + m * 3, none⟩) hb).trans P1.out.1
              have c1 := fun x : Wd (Below w.heap.size w) => (x.ok.cell (p := ⟨b, off + m * 3 + 1, none⟩) hb).trans P1.out.2.1
              have c2 := fun x : Wd (Below w.heap.size w) => (x.ok.cell (p := ⟨b, off + m * 3 + 2, none⟩) hb).trans P1.out.2.2
              refine wp_region_inv (Below w.heap.size w) (by kernel_rfl) (by kernel_rfl) HBE.out.drew ?_
              repeat (go_big_quiet_step (first | (go_at_call 47; with_reducible refine inv_call_same _ (HE1.out _))))
              refine wpQuiet_nil ?_
              intro _ hw'
              obtain ⟨⟨w9, h9⟩, hw''⟩ := hw'
              subst hw''
              have H9 := Lib.hid h9
              clear h9 c0 c1 c2
              go_wp2
              go_roundw
              case rel => exact ⟨m + 1, (m : Int), by omega, by go_num, rfl, Lib.hid (least_first ordV hq.out HE.out HP.out), H9.out⟩
              case measure => simp [intOf] <;> omega
            · subst hqj
              have P0 := Lib.hid (HCN.out j y hy)
              have HY := Lib.hid hy
              have HE2 := Lib.hid (rworn_any y)
              have e1 : decide ((j : Int) < 0) = false := decide_eq_false (by omega)
              have e2 : (0 : Int) ≤ (j : Int) := by omega
              have e3 : (j : Int) < (k : Int) := by have := (List.getElem?_eq_some_iff.1 hy).1; rw [← HL.out] at this; omega
              have hwe : ∃ u, u = wn e := ⟨_, rfl⟩
              have hwy : ∃ u, u = wn y := ⟨_, rfl⟩
              clear hy
              by_cases ha : e.va < y.va
              · have HLT : Hid (LtV e y) := Lib.hid (.inl ha)
                have d1 : decide (e.va < y.va) = true := decide_eq_true ha
                have hNE : Nonempty (Wd (Below w.heap.size w)) := ⟨⟨_, HBE.out⟩⟩
                have c0 := fun x : Wd (Below w.heap.size w) => (x.ok.cell (p := ⟨b, off + m * 3, none⟩) hb).trans P1.out.1
                have c1 := fun x : Wd (Below w.heap.size w) => (x.ok.cell (p := ⟨b, off + m * 3 + 1, none⟩) hb).trans P1.out.2.1
                have c2 := fun x : Wd (Below w.heap.size w) => (x.ok.cell (p := ⟨b, off + m * 3 + 2, none⟩) hb).trans P1.out.2.2
                have d0 := fun x : Wd (Below w.heap.size w) => (x.ok.cell (p := ⟨b, off + j * 3, none⟩) hb).trans P0.out.1
                have d1 := fun x : Wd (Below w.heap.size w) => (x.ok.cell (p := ⟨b, off + j * 3 + 1, none⟩) hb).trans P0.out.2.1
                have d2 := fun x : Wd (Below w.heap.size w) => (x.ok.cell (p := ⟨b, off + j * 3 + 2, none⟩) hb).trans P0.out.2.2
                go_wp2
                refine wp_region_inv (Below w.heap.size w) (by kernel_rfl) (by kernel_rfl) HBE.out.drew ?_
                repeat (go_big_quiet_step (first | (go_at_call 47; with_reducible refine inv_call_same _ (HE1.out _)) | (go_at_call 47; with_reducible refine inv_call_same _ (HE2.out _))))
                refine wpQuiet_nil ?_
                intro _ hw'
                obtain ⟨⟨w9, h9⟩, hw''⟩ := hw'
                subst hw''
                have H9 := Lib.hid h9
                clear h9 c0 c1 c2 d0 d1 d2
                go_wp2
                go_roundw
                case rel => exact ⟨m + 1, (m : Int), by omega, by go_num, rfl, Lib.hid (least_turn ordV hq.out HY.out HE.out HP.out HLT.out), H9.out⟩
                case measure => simp [intOf] <;> omega
              · have d1 : decide (e.va < y.va) = false := decide_eq_false ha
                by_cases hb2 : e.va = y.va
                · have d2 : (e.va == y.va) = true := beq_iff_eq.2 hb2
                  by_cases hl : wn e < wn y
                  · have HLT : Hid (LtV e y) := Lib.hid (.inr ⟨hb2, hl⟩)
                    clear hb2
                    obtain ⟨u, hu⟩ := hwe
                    obtain ⟨v, hv⟩ := hwy
                    rw [← hu] at HE1 hl
                    rw [← hv] at HE2 hl
                    clear hu hv
                    have d3 : decide (u < v) = true := decide_eq_true hl
                    have hNE : Nonempty (Wd (Below w.heap.size w)) := ⟨⟨_, HBE.out⟩⟩
                    have c0 := fun x : Wd (Below w.heap.size w) => (x.ok.cell (p := ⟨b, off + m * 3, none⟩) hb).trans P1.out.1
                    have c1 := fun x : Wd (Below w.heap.size w) => (x.ok.cell (p := ⟨b, off + m * 3 + 1, none⟩) hb).trans P1.out.2.1
                    have c2 := fun x : Wd (Below w.heap.size w) => (x.ok.cell (p := ⟨b, off + m * 3 + 2, none⟩) hb).trans P1.out.2.2
                    have d0 := fun x : Wd (Below w.heap.size w) => (x.ok.cell (p := ⟨b, off + j * 3, none⟩) hb).trans P0.out.1
                    have d1 := fun x : Wd (Below w.heap.size w) => (x.ok.cell (p := ⟨b, off + j * 3 + 1, none⟩) hb).trans P0.out.2.1
                    have d2 := fun x : Wd (Below w.heap.size w) => (x.ok.cell (p := ⟨b, off + j * 3 + 2, none⟩) hb).trans P0.out.2.2
                    go_wp2
                    refine wp_region_inv (Below w.heap.size w) (by kernel_rfl) (by kernel_rfl) HBE.out.drew ?_
                    repeat (go_big_quiet_step (first | (go_at_call 47; with_reducible refine inv_call_same _ (HE1.out _)) | (go_at_call 47; with_reducible refine inv_call_same _ (HE2.out _))))
                    refine wpQuiet_nil ?_
                    intro _ hw'
                    obtain ⟨⟨w9, h9⟩, hw''⟩ := hw'
                    subst hw''
                    have H9 := Lib.hid h9
                    clear h9 c0 c1 c2 d0 d1 d2
                    go_wp2
                    go_roundw
                    case rel => exact ⟨m + 1, (m : Int), by omega, by go_num, rfl, Lib.hid (least_turn ordV hq.out HY.out HE.out HP.out HLT.out), H9.out⟩
                    case measure => simp [intOf] <;> omega
                  · have HLT : Hid (¬ LtV e y) := Lib.hid (by unfold LtV; omega)
                    clear hb2
                    obtain ⟨u, hu⟩ := hwe
                    obtain ⟨v, hv⟩ := hwy
                    rw [← hu] at HE1 hl
                    rw [← hv] at HE2 hl
                    clear hu hv
                    have d3 : decide (u < v) = false := decide_eq_false hl
                    have hNE : Nonempty (Wd (Below w.heap.size w)) := ⟨⟨_, HBE.out⟩⟩
                    have c0 := fun x : Wd (Below w.heap.size w) => (x.ok.cell (p := ⟨b, off + m * 3, none⟩) hb).trans P1.out.1
                    have c1 := fun x : Wd (Below w.heap.size w) => (x.ok.cell (p := ⟨b, off + m * 3 + 1, none⟩) hb).trans P1.out.2.1
                    have c2 := fun x : Wd (Below w.heap.size w) => (x.ok.cell (p := ⟨b, off + m * 3 + 2, none⟩) hb).trans P1.out.2.2
                    have d0 := fun x : Wd (Below w.heap.size w) => (x.ok.cell (p := ⟨b, off + j * 3, none⟩) hb).trans P0.out.1
                    have d1 := fun x : Wd (Below w.heap.size w) => (x.ok.cell (p := ⟨b, off + j * 3 + 1, none⟩) hb).trans P0.out.2.1
                    have d2 := fun x : Wd (Below w.heap.size w) => (x.ok.cell (p := ⟨b, off + j * 3 + 2, none⟩) hb).trans P0.out.2.2
                    go_wp2
                    refine wp_region_inv (Below w.heap.size w) (by kernel_rfl) (by kernel_rfl) HBE.out.drew ?_
                    repeat (go_big_quiet_step (first | (go_at_call 47; with_reducible refine inv_call_same _ (HE1.out _)) | (go_at_call 47; with_reducible refine inv_call_same _ (HE2.out _))))
                    refine wpQuiet_nil ?_
                    intro _ hw'
                    obtain ⟨⟨w9, h9⟩, hw''⟩ := hw'
                    subst hw''
                    have H9 := Lib.hid h9
                    clear h9 c0 c1 c2 d0 d1 d2
                    go_wp2
                    go_roundw
                    case rel => exact ⟨m + 1, (j : Int), by omega, by go_num, rfl, Lib.hid (least_keep hq.out HY.out HE.out HLT.out), H9.out⟩
                    case measure => simp [intOf] <;> omega
                · have d2 : (e.va == y.va) = false := beq_eq_false_iff_ne.2 hb2
                  have HLT : Hid (¬ LtV e y) := Lib.hid (by unfold LtV; omega)
                  clear hb2
                  have hNE : Nonempty (Wd (Below w.heap.size w)) := ⟨⟨_, HBE.out⟩⟩
                  have c0 := fun x : Wd (Below w.heap.size w) => (x.ok.cell (p := ⟨b, off + m * 3, none⟩) hb).trans P1.out.1
                  have c1 := fun x : Wd (Below w.heap.size w) => (x.ok.cell (p := ⟨b, off + m * 3 + 1, none⟩) hb).trans P1.out.2.1
                  have c2 := fun x : Wd (Below w.heap.size w) => (x.ok.cell (p := ⟨b, off + m * 3 + 2, none⟩) hb).trans P1.out.2.2
                  have d0 := fun x : Wd (Below w.heap.size w) => (x.ok.cell (p := ⟨b, off + j * 3, none⟩) hb).trans P0.out.1
                  have d1 := fun x : Wd (Below w.heap.size w) => (x.ok.cell (p := ⟨b, off + j * 3 + 1, none⟩) hb).trans P0.out.2.1
                  have d2 := fun x : Wd (Below w.heap.size w) => (x.ok.cell (p := ⟨b, off + j * 3 + 2, none⟩) hb).trans P0.out.2.2
                  go_wp2
                  refine wp_region_inv (Below w.heap.size w) (by kernel_rfl) (by kernel_rfl) HBE.out.drew ?_
                  repeat (go_big_quiet_step (first | (go_at_call 47; with_reducible refine inv_call_same _ (HE1.out _)) | (go_at_call 47; with_reducible refine inv_call_same _ (HE2.out _))))
                  refine wpQuiet_nil ?_
                  intro _ hw'
                  obtain ⟨⟨w9, h9⟩, hw''⟩ := hw'
                  subst hw''
                  have H9 := Lib.hid h9
                  clear h9 c0 c1 c2 d0 d1 d2
                  go_wp2
                  go_roundw
                  case rel => exact ⟨m + 1, (j : Int), by omega, by go_num, rfl, Lib.hid (least_keep hq.out HY.out HE.out HLT.out), H9.out⟩
                  case measure => simp [intOf] <;> omega
          · have s0 : (e.st == 2) = false := beq_eq_false_iff_ne.2 hp
            have HP := Lib.hid hp
            clear hp
            go_wp2
            go_roundw
            case rel => exact ⟨m + 1, q, by omega, by go_num, rfl, Lib.hid (least_skip hq.out HE.out HP.out), HBE.out⟩
            case measure => simp [intOf] <;> omega
        · obtain rfl : m = k := by omega
          have i0 : ¬ (m : Int) < (m : Int) := by omega
          go_wp2
          go_ret
          exact ⟨q, rfl, ⟨-1, .inl ⟨rfl, HNO.out⟩, fun h => absurd rfl h, fun _ => hq.out⟩, hbel⟩
end WR
end Go.Proofs.Ytomncnelkkmalab
