/- What package wear's least answers, over any predicate and any comparison that an order makes; slices.IndexFunc over blocks. No condition but those that each theorem names. -/
import Derived.Test.YtomncnelkkmalacWrA
namespace Go.Proofs.Ytomncnelkkmalac
open Go.RowKit
namespace WR
open MM
set_option linter.unusedVariables false
set_option linter.unusedSimpArgs false

/-- A block in a block of its own, all that was there as it was. -/
structure Wk (w : World) (X : Nat) (s v k : Int) (w' : World) : Prop where
  blk : Blk w' X 33 #[.int .i64 s, .int .i64 v, .int .i64 k]
  le : w.heap.size ≤ X
  bel : Below w.heap.size w w'
theorem Wk.below {w : World} {X : Nat} {s v k : Int} {w1 w2 : World} (h : Wk w X s v k w1) (hb : Below w1.heap.size w1 w2) : Wk w X s v k w2 :=
  ⟨h.blk.below hb h.blk.lt, h.le, h.bel.trans (hb.mono (Nat.le_trans h.le (Nat.le_of_lt h.blk.lt)))⟩
/-- What a predicate answers; what a comparison answers. -/
def PredF (fp : FuncId) (p : Bk → Prop) [DecidablePred p] : Prop := ∀ (b : Bk) (w : World), Calls Try.prog fp #[.agg #[.int .i64 b.st, .int .i64 b.va, .int .i64 b.wo]] w fun e w' => e = .returned (.bool (decide (p b))) ∧ Below w.heap.size w w'
def CmpF (fc : FuncId) (c : Bk → Bk → Int) : Prop := ∀ (a b : Bk) (w : World), Calls Try.prog fc #[.agg #[.int .i64 a.st, .int .i64 a.va, .int .i64 a.wo], .agg #[.int .i64 b.st, .int .i64 b.va, .int .i64 b.wo]] w fun e w' => e = .returned (.int .i64 (c a b)) ∧ Below w.heap.size w w'

set_option maxHeartbeats 4000000 in
theorem least_free (L : List Bk) (len cap : Nat) (hlen : len = L.length) (hm : len ≤ 4611686018427387904) (a : Option Addr) (w : World) (hr : Bks w a L) (hP : PredF 21 isFree) (hC : CmpF 16 cmpW) :
    Calls Try.prog 14 #[.slice a len cap, .func (.func 21) #[] #[], .func (.func 16) #[] #[]] w fun r w' => ∃ q : Int, r = .returned (.int .i64 q) ∧ Least isFree LtW L len q ∧ Below w.heap.size w w' := by
  have HR := Lib.hid hr
  have HL := Lib.hid hlen
  have HPP := Lib.hid hP
  have HCC := Lib.hid hC
  clear hr hlen hP hC
  go_enter Try.func14, Try.ntmps14
  go_wp2
  go_loopw [7, 12] (fun x i wr => ∃ (k : Nat) (q : Int), k ≤ len ∧ i = .int .i64 k ∧ x = .int .i64 q ∧ Hid (Least isFree LtW L k q) ∧ Below w.heap.size w wr) (fun _ i _ => len - (intOf i).toNat)
  case atStart => exact ⟨0, -1, Nat.zero_le _, rfl, rfl, Lib.hid (least_zero _ _ L), Below.refl _ _⟩
  case round =>
    obtain ⟨k, q, hk, rfl, rfl, hq, hbel⟩ := hrel
    have HBE := Lib.hid hbel
    by_cases hlt : k < len
    · obtain ⟨e, he⟩ : ∃ e, L[k]? = some e := ⟨_, List.getElem?_eq_getElem (by rw [← HL.out]; exact hlt)⟩
      obtain ⟨b, off, rfl, hb, hc⟩ := HR.out.get he
      obtain ⟨q0, q1, q2⟩ := (hc k e he).kept hbel hb
      have HP := Lib.hid (HPP.out e)
      have HE := Lib.hid he
      have HCN := Lib.hid hc
      have t1 : (k : Int) < (len : Int) := by omega
      have t2 : (0 : Int) ≤ (k : Int) := by omega
      clear hc he hbel
      by_cases hp : isFree e
      · rw [decide_eq_true hp] at HP
        rcases least_lt hq.out with hq1 | ⟨j, y, hqj, hjk, hy, _⟩
        · subst hq1
          go_wp2
          have hI : Wk w wr.heap.size e.st e.va e.wo ((wr.alloc (.cells #[.int .i64 e.st, .int .i64 e.va, .int .i64 e.wo] 33)).drew) := ⟨Blk.new wr _ _, HBE.out.size, (HBE.out.alloc HBE.out.size _).drew⟩
          have hNE : Nonempty (Wd (Wk w wr.heap.size e.st e.va e.wo)) := ⟨⟨_, hI⟩⟩
          have c0 := fun x : Wd (Wk w wr.heap.size e.st e.va e.wo) => (wcells3 x.ok.blk).1
          have c1 := fun x : Wd (Wk w wr.heap.size e.st e.va e.wo) => (wcells3 x.ok.blk).2.1
          have c2 := fun x : Wd (Wk w wr.heap.size e.st e.va e.wo) => (wcells3 x.ok.blk).2.2
          have HI := Lib.hid hI
          clear hI
          refine wp_region_inv (Wk w wr.heap.size e.st e.va e.wo) (by kernel_rfl) (by kernel_rfl) HI.out ?_
          repeat (go_big_quiet_step (first | (go_at_call 21; with_reducible refine inv_call _ (fun _ _ => Wk.below) (HP.out _))))
          refine wpQuiet_nil ?_
          intro _ hw'
          obtain ⟨⟨w9, h9⟩, hw''⟩ := hw'
          subst hw''
          have H9 := Lib.hid h9.bel
          clear h9 c0 c1 c2 HI
          go_wp2
          go_roundw
          case rel => exact ⟨k + 1, (k : Int), by omega, by go_num, rfl, Lib.hid (least_first ordW hq.out HE.out hp), H9.out⟩
          case measure => simp [intOf]; omega
        · subst hqj
          have P0 := Lib.hid (HCN.out j y hy)
          have HY := Lib.hid hy
          have HC := Lib.hid (HCC.out e y)
          have e1 : ((j : Int) == -1) = false := by rw [beq_eq_false_iff_ne]; omega
          have e2 : (0 : Int) ≤ (j : Int) := by omega
          have e3 : (j : Int) < (len : Int) := by omega
          clear hy
          by_cases hl : cmpW e y < 0
          · have e4 : decide (cmpW e y < 0) = true := decide_eq_true hl
            have HLT := Lib.hid (cmpW_neg.1 hl)
            obtain ⟨z, hz⟩ : ∃ z, z = cmpW e y := ⟨_, rfl⟩
            rw [← hz] at HC e4 hl
            clear hz
            go_wp2
            have hI : Wk w wr.heap.size e.st e.va e.wo ((wr.alloc (.cells #[.int .i64 e.st, .int .i64 e.va, .int .i64 e.wo] 33)).drew) := ⟨Blk.new wr _ _, HBE.out.size, (HBE.out.alloc HBE.out.size _).drew⟩
            have hNE : Nonempty (Wd (Wk w wr.heap.size e.st e.va e.wo)) := ⟨⟨_, hI⟩⟩
            have c0 := fun x : Wd (Wk w wr.heap.size e.st e.va e.wo) => (wcells3 x.ok.blk).1
            have c1 := fun x : Wd (Wk w wr.heap.size e.st e.va e.wo) => (wcells3 x.ok.blk).2.1
            have c2 := fun x : Wd (Wk w wr.heap.size e.st e.va e.wo) => (wcells3 x.ok.blk).2.2
            have d0 := fun x : Wd (Wk w wr.heap.size e.st e.va e.wo) => (x.ok.bel.cell (p := ⟨b, off + j * 3, none⟩) hb).trans P0.out.1
            have d1 := fun x : Wd (Wk w wr.heap.size e.st e.va e.wo) => (x.ok.bel.cell (p := ⟨b, off + j * 3 + 1, none⟩) hb).trans P0.out.2.1
            have d2 := fun x : Wd (Wk w wr.heap.size e.st e.va e.wo) => (x.ok.bel.cell (p := ⟨b, off + j * 3 + 2, none⟩) hb).trans P0.out.2.2
            have HI := Lib.hid hI
            clear hI
            refine wp_region_inv (Wk w wr.heap.size e.st e.va e.wo) (by kernel_rfl) (by kernel_rfl) HI.out ?_
            repeat (go_big_quiet_step (first | (go_at_call 21; with_reducible refine inv_call _ (fun _ _ => Wk.below) (HP.out _)) | (go_at_call 16; with_reducible refine inv_call _ (fun _ _ => Wk.below) (HC.out _))))
            refine wpQuiet_nil ?_
            intro _ hw'
            obtain ⟨⟨w9, h9⟩, hw''⟩ := hw'
            subst hw''
            have H9 := Lib.hid h9.bel
            clear h9 c0 c1 c2 d0 d1 d2 HI
            go_wp2
            go_roundw
            case rel => exact ⟨k + 1, (k : Int), by omega, by go_num, rfl, Lib.hid (least_turn ordW hq.out HY.out HE.out hp HLT.out), H9.out⟩
            case measure => simp [intOf]; omega
          · have e4 : decide (cmpW e y < 0) = false := decide_eq_false hl
            have HLT := Lib.hid (fun h => hl (cmpW_neg.2 h))
            obtain ⟨z, hz⟩ : ∃ z, z = cmpW e y := ⟨_, rfl⟩
            rw [← hz] at HC e4 hl
            clear hz
            go_wp2
            have hI : Wk w wr.heap.size e.st e.va e.wo ((wr.alloc (.cells #[.int .i64 e.st, .int .i64 e.va, .int .i64 e.wo] 33)).drew) := ⟨Blk.new wr _ _, HBE.out.size, (HBE.out.alloc HBE.out.size _).drew⟩
            have hNE : Nonempty (Wd (Wk w wr.heap.size e.st e.va e.wo)) := ⟨⟨_, hI⟩⟩
            have c0 := fun x : Wd (Wk w wr.heap.size e.st e.va e.wo) => (wcells3 x.ok.blk).1
            have c1 := fun x : Wd (Wk w wr.heap.size e.st e.va e.wo) => (wcells3 x.ok.blk).2.1
            have c2 := fun x : Wd (Wk w wr.heap.size e.st e.va e.wo) => (wcells3 x.ok.blk).2.2
            have d0 := fun x : Wd (Wk w wr.heap.size e.st e.va e.wo) => (x.ok.bel.cell (p := ⟨b, off + j * 3, none⟩) hb).trans P0.out.1
            have d1 := fun x : Wd (Wk w wr.heap.size e.st e.va e.wo) => (x.ok.bel.cell (p := ⟨b, off + j * 3 + 1, none⟩) hb).trans P0.out.2.1
            have d2 := fun x : Wd (Wk w wr.heap.size e.st e.va e.wo) => (x.ok.bel.cell (p := ⟨b, off + j * 3 + 2, none⟩) hb).trans P0.out.2.2
            have HI := Lib.hid hI
            clear hI
            refine wp_region_inv (Wk w wr.heap.size e.st e.va e.wo) (by kernel_rfl) (by kernel_rfl) HI.out ?_
            repeat (go_big_quiet_step (first | (go_at_call 21; with_reducible refine inv_call _ (fun _ _ => Wk.below) (HP.out _)) | (go_at_call 16; with_reducible refine inv_call _ (fun _ _ => Wk.below) (HC.out _))))
            refine wpQuiet_nil ?_
            intro _ hw'
            obtain ⟨⟨w9, h9⟩, hw''⟩ := hw'
            subst hw''
            have H9 := Lib.hid h9.bel
            clear h9 c0 c1 c2 d0 d1 d2 HI
            go_wp2
            go_roundw
            case rel => exact ⟨k + 1, (j : Int), by omega, by go_num, rfl, Lib.hid (least_keep hq.out HY.out HE.out HLT.out), H9.out⟩
            case measure => simp [intOf]; omega
      · rw [decide_eq_false hp] at HP
        go_wp2
        have hI : Wk w wr.heap.size e.st e.va e.wo ((wr.alloc (.cells #[.int .i64 e.st, .int .i64 e.va, .int .i64 e.wo] 33)).drew) := ⟨Blk.new wr _ _, HBE.out.size, (HBE.out.alloc HBE.out.size _).drew⟩
        have hNE : Nonempty (Wd (Wk w wr.heap.size e.st e.va e.wo)) := ⟨⟨_, hI⟩⟩
        have c0 := fun x : Wd (Wk w wr.heap.size e.st e.va e.wo) => (wcells3 x.ok.blk).1
        have c1 := fun x : Wd (Wk w wr.heap.size e.st e.va e.wo) => (wcells3 x.ok.blk).2.1
        have c2 := fun x : Wd (Wk w wr.heap.size e.st e.va e.wo) => (wcells3 x.ok.blk).2.2
        have HI := Lib.hid hI
        clear hI
        refine wp_region_inv (Wk w wr.heap.size e.st e.va e.wo) (by kernel_rfl) (by kernel_rfl) HI.out ?_
        repeat (go_big_quiet_step (first | (go_at_call 21; with_reducible refine inv_call _ (fun _ _ => Wk.below) (HP.out _))))
        refine wpQuiet_nil ?_
        intro _ hw'
        obtain ⟨⟨w9, h9⟩, hw''⟩ := hw'
        subst hw''
        have H9 := Lib.hid h9.bel
        clear h9 c0 c1 c2 HI
        go_wp2
        go_roundw
        case rel => exact ⟨k + 1, q, by omega, by go_num, rfl, Lib.hid (least_skip hq.out HE.out hp), H9.out⟩
        case measure => simp [intOf]; omega
    · obtain rfl : k = len := by omega
      have i0 : ¬ (k : Int) < (k : Int) := by omega
      go_wp2
      go_ret
      exact ⟨q, rfl, hq.out, hbel⟩

set_option maxHeartbeats 4000000 in
theorem least_fullV (L : List Bk) (len cap : Nat) (hlen : len = L.length) (hm : len ≤ 4611686018427387904) (a : Option Addr) (w : World) (hr : Bks w a L) (hP : PredF 19 isFull) (hC : CmpF 24 cmpV) :
    Calls Try.prog 14 #[.slice a len cap, .func (.func 19) #[] #[], .func (.func 24) #[] #[]] w fun r w' => ∃ q : Int, r = .returned (.int .i64 q) ∧ Least isFull LtV L len q ∧ Below w.heap.size w w' := by
  have HR := Lib.hid hr
  have HL := Lib.hid hlen
  have HPP := Lib.hid hP
  have HCC := Lib.hid hC
  clear hr hlen hP hC
  go_enter Try.func14, Try.ntmps14
  go_wp2
  go_loopw [7, 12] (fun x i wr => ∃ (k : Nat) (q : Int), k ≤ len ∧ i = .int .i64 k ∧ x = .int .i64 q ∧ Hid (Least isFull LtV L k q) ∧ Below w.heap.size w wr) (fun _ i _ => len - (intOf i).toNat)
  case atStart => exact ⟨0, -1, Nat.zero_le _, rfl, rfl, Lib.hid (least_zero _ _ L), Below.refl _ _⟩
  case round =>
    obtain ⟨k, q, hk, rfl, rfl, hq, hbel⟩ := hrel
    have HBE := Lib.hid hbel
    by_cases hlt : k < len
    · obtain ⟨e, he⟩ : ∃ e, L[k]? = some e := ⟨_, List.getElem?_eq_getElem (by rw [← HL.out]; exact hlt)⟩
      obtain ⟨b, off, rfl, hb, hc⟩ := HR.out.get he
      obtain ⟨q0, q1, q2⟩ := (hc k e he).kept hbel hb
      have HP := Lib.hid (HPP.out e)
      have HE := Lib.hid he
      have HCN := Lib.hid hc
      have t1 : (k : Int) < (len : Int) := by omega
      have t2 : (0 : Int) ≤ (k : Int) := by omega
      clear hc he hbel
      by_cases hp : isFull e
      · rw [decide_eq_true hp] at HP
        rcases least_lt hq.out with hq1 | ⟨j, y, hqj, hjk, hy, _⟩
        · subst hq1
          go_wp2
          have hI : Wk w wr.heap.size e.st e.va e.wo ((wr.alloc (.cells #[.int .i64 e.st, .int .i64 e.va, .int .i64 e.wo] 33)).drew) := ⟨Blk.new wr _ _, HBE.out.size, (HBE.out.alloc HBE.out.size _).drew⟩
          have hNE : Nonempty (Wd (Wk w wr.heap.size e.st e.va e.wo)) := ⟨⟨_, hI⟩⟩
          have c0 := fun x : Wd (Wk w wr.heap.size e.st e.va e.wo) => (wcells3 x.ok.blk).1
          have c1 := fun x : Wd (Wk w wr.heap.size e.st e.va e.wo) => (wcells3 x.ok.blk).2.1
          have c2 := fun x : Wd (Wk w wr.heap.size e.st e.va e.wo) => (wcells3 x.ok.blk).2.2
          have HI := Lib.hid hI
          clear hI
          refine wp_region_inv (Wk w wr.heap.size e.st e.va e.wo) (by kernel_rfl) (by kernel_rfl) HI.out ?_
          repeat (go_big_quiet_step (first | (go_at_call 19; with_reducible refine inv_call _ (fun _ _ => Wk.below) (HP.out _))))
          refine wpQuiet_nil ?_
          intro _ hw'
          obtain ⟨⟨w9, h9⟩, hw''⟩ := hw'
          subst hw''
          have H9 := Lib.hid h9.bel
          clear h9 c0 c1 c2 HI
          go_wp2
          go_roundw
          case rel => exact ⟨k + 1, (k : Int), by omega, by go_num, rfl, Lib.hid (least_first ordV hq.out HE.out hp), H9.out⟩
          case measure => simp [intOf]; omega
        · subst hqj
          have P0 := Lib.hid (HCN.out j y hy)
          have HY := Lib.hid hy
          have HC := Lib.hid (HCC.out e y)
          have e1 : ((j : Int) == -1) = false := by rw [beq_eq_false_iff_ne]; omega
          have e2 : (0 : Int) ≤ (j : Int) := by omega
          have e3 : (j : Int) < (len : Int) := by omega
          clear hy
          by_cases hl : cmpV e y < 0
          · have e4 : decide (cmpV e y < 0) = true := decide_eq_true hl
            have HLT := Lib.hid (cmpV_neg.1 hl)
            obtain ⟨z, hz⟩ : ∃ z, z = cmpV e y := ⟨_, rfl⟩
            rw [← hz] at HC e4 hl
            clear hz
            go_wp2
            have hI : Wk w wr.heap.size e.st e.va e.wo ((wr.alloc (.cells #[.int .i64 e.st, .int .i64 e.va, .int .i64 e.wo] 33)).drew) := ⟨Blk.new wr _ _, HBE.out.size, (HBE.out.alloc HBE.out.size _).drew⟩
            have hNE : Nonempty (Wd (Wk w wr.heap.size e.st e.va e.wo)) := ⟨⟨_, hI⟩⟩
            have c0 := fun x : Wd (Wk w wr.heap.size e.st e.va e.wo) => (wcells3 x.ok.blk).1
            have c1 := fun x : Wd (Wk w wr.heap.size e.st e.va e.wo) => (wcells3 x.ok.blk).2.1
            have c2 := fun x : Wd (Wk w wr.heap.size e.st e.va e.wo) => (wcells3 x.ok.blk).2.2
            have d0 := fun x : Wd (Wk w wr.heap.size e.st e.va e.wo) => (x.ok.bel.cell (p := ⟨b, off + j * 3, none⟩) hb).trans P0.out.1
            have d1 := fun x : Wd (Wk w wr.heap.size e.st e.va e.wo) => (x.ok.bel.cell (p := ⟨b, off + j * 3 + 1, none⟩) hb).trans P0.out.2.1
            have d2 := fun x : Wd (Wk w wr.heap.size e.st e.va e.wo) => (x.ok.bel.cell (p := ⟨b, off + j * 3 + 2, none⟩) hb).trans P0.out.2.2
            have HI := Lib.hid hI
            clear hI
            refine wp_region_inv (Wk w wr.heap.size e.st e.va e.wo) (by kernel_rfl) (by kernel_rfl) HI.out ?_
            repeat (go_big_quiet_step (first | (go_at_call 19; with_reducible refine inv_call _ (fun _ _ => Wk.below) (HP.out _)) | (go_at_call 24; with_reducible refine inv_call _ (fun _ _ => Wk.below) (HC.out _))))
            refine wpQuiet_nil ?_
            intro _ hw'
            obtain ⟨⟨w9, h9⟩, hw''⟩ := hw'
            subst hw''
            have H9 := Lib.hid h9.bel
            clear h9 c0 c1 c2 d0 d1 d2 HI
            go_wp2
            go_roundw
            case rel => exact ⟨k + 1, (k : Int), by omega, by go_num, rfl, Lib.hid (least_turn ordV hq.out HY.out HE.out hp HLT.out), H9.out⟩
            case measure => simp [intOf]; omega
          · have e4 : decide (cmpV e y < 0) = false := decide_eq_false hl
            have HLT := Lib.hid (fun h => hl (cmpV_neg.2 h))
            obtain ⟨z, hz⟩ : ∃ z, z = cmpV e y := ⟨_, rfl⟩
            rw [← hz] at HC e4 hl
            clear hz
            go_wp2
            have hI : Wk w wr.heap.size e.st e.va e.wo ((wr.alloc (.cells #[.int .i64 e.st, .int .i64 e.va, .int .i64 e.wo] 33)).drew) := ⟨Blk.new wr _ _, HBE.out.size, (HBE.out.alloc HBE.out.size _).drew⟩
            have hNE : Nonempty (Wd (Wk w wr.heap.size e.st e.va e.wo)) := ⟨⟨_, hI⟩⟩
            have c0 := fun x : Wd (Wk w wr.heap.size e.st e.va e.wo) => (wcells3 x.ok.blk).1
            have c1 := fun x : Wd (Wk w wr.heap.size e.st e.va e.wo) => (wcells3 x.ok.blk).2.1
            have c2 := fun x : Wd (Wk w wr.heap.size e.st e.va e.wo) => (wcells3 x.ok.blk).2.2
            have d0 := fun x : Wd (Wk w wr.heap.size e.st e.va e.wo) => (x.ok.bel.cell (p := ⟨b, off + j * 3, none⟩) hb).trans P0.out.1
            have d1 := fun x : Wd (Wk w wr.heap.size e.st e.va e.wo) => (x.ok.bel.cell (p := ⟨b, off + j * 3 + 1, none⟩) hb).trans P0.out.2.1
            have d2 := fun x : Wd (Wk w wr.heap.size e.st e.va e.wo) => (x.ok.bel.cell (p := ⟨b, off + j * 3 + 2, none⟩) hb).trans P0.out.2.2
            have HI := Lib.hid hI
            clear hI
            refine wp_region_inv (Wk w wr.heap.size e.st e.va e.wo) (by kernel_rfl) (by kernel_rfl) HI.out ?_
            repeat (go_big_quiet_step (first | (go_at_call 19; with_reducible refine inv_call _ (fun _ _ => Wk.below) (HP.out _)) | (go_at_call 24; with_reducible refine inv_call _ (fun _ _ => Wk.below) (HC.out _))))
            refine wpQuiet_nil ?_
            intro _ hw'
            obtain ⟨⟨w9, h9⟩, hw''⟩ := hw'
            subst hw''
            have H9 := Lib.hid h9.bel
            clear h9 c0 c1 c2 d0 d1 d2 HI
            go_wp2
            go_roundw
            case rel => exact ⟨k + 1, (j : Int), by omega, by go_num, rfl, Lib.hid (least_keep hq.out HY.out HE.out HLT.out), H9.out⟩
            case measure => simp [intOf]; omega
      · rw [decide_eq_false hp] at HP
        go_wp2
        have hI : Wk w wr.heap.size e.st e.va e.wo ((wr.alloc (.cells #[.int .i64 e.st, .int .i64 e.va, .int .i64 e.wo] 33)).drew) := ⟨Blk.new wr _ _, HBE.out.size, (HBE.out.alloc HBE.out.size _).drew⟩
        have hNE : Nonempty (Wd (Wk w wr.heap.size e.st e.va e.wo)) := ⟨⟨_, hI⟩⟩
        have c0 := fun x : Wd (Wk w wr.heap.size e.st e.va e.wo) => (wcells3 x.ok.blk).1
        have c1 := fun x : Wd (Wk w wr.heap.size e.st e.va e.wo) => (wcells3 x.ok.blk).2.1
        have c2 := fun x : Wd (Wk w wr.heap.size e.st e.va e.wo) => (wcells3 x.ok.blk).2.2
        have HI := Lib.hid hI
        clear hI
        refine wp_region_inv (Wk w wr.heap.size e.st e.va e.wo) (by kernel_rfl) (by kernel_rfl) HI.out ?_
        repeat (go_big_quiet_step (first | (go_at_call 19; with_reducible refine inv_call _ (fun _ _ => Wk.below) (HP.out _))))
        refine wpQuiet_nil ?_
        intro _ hw'
        obtain ⟨⟨w9, h9⟩, hw''⟩ := hw'
        subst hw''
        have H9 := Lib.hid h9.bel
        clear h9 c0 c1 c2 HI
        go_wp2
        go_roundw
        case rel => exact ⟨k + 1, q, by omega, by go_num, rfl, Lib.hid (least_skip hq.out HE.out hp), H9.out⟩
        case measure => simp [intOf]; omega
    · obtain rfl : k = len := by omega
      have i0 : ¬ (k : Int) < (k : Int) := by omega
      go_wp2
      go_ret
      exact ⟨q, rfl, hq.out, hbel⟩

set_option maxHeartbeats 4000000 in
theorem least_fullW (L : List Bk) (len cap : Nat) (hlen : len = L.length) (hm : len ≤ 4611686018427387904) (a : Option Addr) (w : World) (hr : Bks w a L) (hP : PredF 19 isFull) (hC : CmpF 16 cmpW) :
    Calls Try.prog 14 #[.slice a len cap, .func (.func 19) #[] #[], .func (.func 16) #[] #[]] w fun r w' => ∃ q : Int, r = .returned (.int .i64 q) ∧ Least isFull LtW L len q ∧ Below w.heap.size w w' := by
  have HR := Lib.hid hr
  have HL := Lib.hid hlen
  have HPP := Lib.hid hP
  have HCC := Lib.hid hC
  clear hr hlen hP hC
  go_enter Try.func14, Try.ntmps14
  go_wp2
  go_loopw [7, 12] (fun x i wr => ∃ (k : Nat) (q : Int), k ≤ len ∧ i = .int .i64 k ∧ x = .int .i64 q ∧ Hid (Least isFull LtW L k q) ∧ Below w.heap.size w wr) (fun _ i _ => len - (intOf i).toNat)
  case atStart => exact ⟨0, -1, Nat.zero_le _, rfl, rfl, Lib.hid (least_zero _ _ L), Below.refl _ _⟩
  case round =>
    obtain ⟨k, q, hk, rfl, rfl, hq, hbel⟩ := hrel
    have HBE := Lib.hid hbel
    by_cases hlt : k < len
    · obtain ⟨e, he⟩ : ∃ e, L[k]? = some e := ⟨_, List.getElem?_eq_getElem (by rw [← HL.out]; exact hlt)⟩
      obtain ⟨b, off, rfl, hb, hc⟩ := HR.out.get he
      obtain ⟨q0, q1, q2⟩ := (hc k e he).kept hbel hb
      have HP := Lib.hid (HPP.out e)
      have HE := Lib.hid he
      have HCN := Lib.hid hc
      have t1 : (k : Int) < (len : Int) := by omega
      have t2 : (0 : Int) ≤ (k : Int) := by omega
      clear hc he hbel
      by_cases hp : isFull e
      · rw [decide_eq_true hp] at HP
        rcases least_lt hq.out with hq1 | ⟨j, y, hqj, hjk, hy, _⟩
        · subst hq1
          go_wp2
          have hI : Wk w wr.heap.size e.st e.va e.wo ((wr.alloc (.cells #[.int .i64 e.st, .int .i64 e.va, .int .i64 e.wo] 33)).drew) := ⟨Blk.new wr _ _, HBE.out.size, (HBE.out.alloc HBE.out.size _).drew⟩
          have hNE : Nonempty (Wd (Wk w wr.heap.size e.st e.va e.wo)) := ⟨⟨_, hI⟩⟩
          have c0 := fun x : Wd (Wk w wr.heap.size e.st e.va e.wo) => (wcells3 x.ok.blk).1
          have c1 := fun x : Wd (Wk w wr.heap.size e.st e.va e.wo) => (wcells3 x.ok.blk).2.1
          have c2 := fun x : Wd (Wk w wr.heap.size e.st e.va e.wo) => (wcells3 x.ok.blk).2.2
          have HI := Lib.hid hI
          clear hI
          refine wp_region_inv (Wk w wr.heap.size e.st e.va e.wo) (by kernel_rfl) (by kernel_rfl) HI.out ?_
          repeat (go_big_quiet_step (first | (go_at_call 19; with_reducible refine inv_call _ (fun _ _ => Wk.below) (HP.out _))))
          refine wpQuiet_nil ?_
          intro _ hw'
          obtain ⟨⟨w9, h9⟩, hw''⟩ := hw'
          subst hw''
          have H9 := Lib.hid h9.bel
          clear h9 c0 c1 c2 HI
          go_wp2
          go_roundw
          case rel => exact ⟨k + 1, (k : Int), by omega, by go_num, rfl, Lib.hid (least_first ordW hq.out HE.out hp), H9.out⟩
          case measure => simp [intOf]; omega
        · subst hqj
          have P0 := Lib.hid (HCN.out j y hy)
          have HY := Lib.hid hy
          have HC := Lib.hid (HCC.out e y)
          have e1 : ((j : Int) == -1) = false := by rw [beq_eq_false_iff_ne]; omega
          have e2 : (0 : Int) ≤ (j : Int) := by omega
          have e3 : (j : Int) < (len : Int) := by omega
          clear hy
          by_cases hl : cmpW e y < 0
          · have e4 : decide (cmpW e y < 0) = true := decide_eq_true hl
            have HLT := Lib.hid (cmpW_neg.1 hl)
            obtain ⟨z, hz⟩ : ∃ z, z = cmpW e y := ⟨_, rfl⟩
            rw [← hz] at HC e4 hl
            clear hz
            go_wp2
            have hI : Wk w wr.heap.size e.st e.va e.wo ((wr.alloc (.cells #[.int .i64 e.st, .int .i64 e.va, .int .i64 e.wo] 33)).drew) := ⟨Blk.new wr _ _, HBE.out.size, (HBE.out.alloc HBE.out.size _).drew⟩
            have hNE : Nonempty (Wd (Wk w wr.heap.size e.st e.va e.wo)) := ⟨⟨_, hI⟩⟩
            have c0 := fun x : Wd (Wk w wr.heap.size e.st e.va e.wo) => (wcells3 x.ok.blk).1
            have c1 := fun x : Wd (Wk w wr.heap.size e.st e.va e.wo) => (wcells3 x.ok.blk).2.1
            have c2 := fun x : Wd (Wk w wr.heap.size e.st e.va e.wo) => (wcells3 x.ok.blk).2.2
            have d0 := fun x : Wd (Wk w wr.heap.size e.st e.va e.wo) => (x.ok.bel.cell (p := ⟨b, off + j * 3, none⟩) hb).trans P0.out.1
            have d1 := fun x : Wd (Wk w wr.heap.size e.st e.va e.wo) => (x.ok.bel.cell (p := ⟨b, off + j * 3 + 1, none⟩) hb).trans P0.out.2.1
            have d2 := fun x : Wd (Wk w wr.heap.size e.st e.va e.wo) => (x.ok.bel.cell (p := ⟨b, off + j * 3 + 2, none⟩) hb).trans P0.out.2.2
            have HI := Lib.hid hI
            clear hI
            refine wp_region_inv (Wk w wr.heap.size e.st e.va e.wo) (by kernel_rfl) (by kernel_rfl) HI.out ?_
            repeat (go_big_quiet_step (first | (go_at_call 19; with_reducible refine inv_call _ (fun _ _ => Wk.below) (HP.out _)) | (go_at_call 16; with_reducible refine inv_call _ (fun _ _ => Wk.below) (HC.out _))))
            refine wpQuiet_nil ?_
            intro _ hw'
            obtain ⟨⟨w9, h9⟩, hw''⟩ := hw'
            subst hw''
            have H9 := Lib.hid h9.bel
            clear h9 c0 c1 c2 d0 d1 d2 HI
            go_wp2
            go_roundw
            case rel => exact ⟨k + 1, (k : Int), by omega, by go_num, rfl, Lib.hid (least_turn ordW hq.out HY.out HE.out hp HLT.out), H9.out⟩
            case measure => simp [intOf]; omega
          · have e4 : decide (cmpW e y < 0) = false := decide_eq_false hl
            have HLT := Lib.hid (fun h => hl (cmpW_neg.2 h))
            obtain ⟨z, hz⟩ : ∃ z, z = cmpW e y := ⟨_, rfl⟩
            rw [← hz] at HC e4 hl
            clear hz
            go_wp2
            have hI : Wk w wr.heap.size e.st e.va e.wo ((wr.alloc (.cells #[.int .i64 e.st, .int .i64 e.va, .int .i64 e.wo] 33)).drew) := ⟨Blk.new wr _ _, HBE.out.size, (HBE.out.alloc HBE.out.size _).drew⟩
            have hNE : Nonempty (Wd (Wk w wr.heap.size e.st e.va e.wo)) := ⟨⟨_, hI⟩⟩
            have c0 := fun x : Wd (Wk w wr.heap.size e.st e.va e.wo) => (wcells3 x.ok.blk).1
            have c1 := fun x : Wd (Wk w wr.heap.size e.st e.va e.wo) => (wcells3 x.ok.blk).2.1
            have c2 := fun x : Wd (Wk w wr.heap.size e.st e.va e.wo) => (wcells3 x.ok.blk).2.2
            have d0 := fun x : Wd (Wk w wr.heap.size e.st e.va e.wo) => (x.ok.bel.cell (p := ⟨b, off + j * 3, none⟩) hb).trans P0.out.1
            have d1 := fun x : Wd (Wk w wr.heap.size e.st e.va e.wo) => (x.ok.bel.cell (p := ⟨b, off + j * 3 + 1, none⟩) hb).trans P0.out.2.1
            have d2 := fun x : Wd (Wk w wr.heap.size e.st e.va e.wo) => (x.ok.bel.cell (p := ⟨b, off + j * 3 + 2, none⟩) hb).trans P0.out.2.2
            have HI := Lib.hid hI
            clear hI
            refine wp_region_inv (Wk w wr.heap.size e.st e.va e.wo) (by kernel_rfl) (by kernel_rfl) HI.out ?_
            repeat (go_big_quiet_step (first | (go_at_call 19; with_reducible refine inv_call _ (fun _ _ => Wk.below) (HP.out _)) | (go_at_call 16; with_reducible refine inv_call _ (fun _ _ => Wk.below) (HC.out _))))
            refine wpQuiet_nil ?_
            intro _ hw'
            obtain ⟨⟨w9, h9⟩, hw''⟩ := hw'
            subst hw''
            have H9 := Lib.hid h9.bel
            clear h9 c0 c1 c2 d0 d1 d2 HI
            go_wp2
            go_roundw
            case rel => exact ⟨k + 1, (j : Int), by omega, by go_num, rfl, Lib.hid (least_keep hq.out HY.out HE.out HLT.out), H9.out⟩
            case measure => simp [intOf]; omega
      · rw [decide_eq_false hp] at HP
        go_wp2
        have hI : Wk w wr.heap.size e.st e.va e.wo ((wr.alloc (.cells #[.int .i64 e.st, .int .i64 e.va, .int .i64 e.wo] 33)).drew) := ⟨Blk.new wr _ _, HBE.out.size, (HBE.out.alloc HBE.out.size _).drew⟩
        have hNE : Nonempty (Wd (Wk w wr.heap.size e.st e.va e.wo)) := ⟨⟨_, hI⟩⟩
        have c0 := fun x : Wd (Wk w wr.heap.size e.st e.va e.wo) => (wcells3 x.ok.blk).1
        have c1 := fun x : Wd (Wk w wr.heap.size e.st e.va e.wo) => (wcells3 x.ok.blk).2.1
        have c2 := fun x : Wd (Wk w wr.heap.size e.st e.va e.wo) => (wcells3 x.ok.blk).2.2
        have HI := Lib.hid hI
        clear hI
        refine wp_region_inv (Wk w wr.heap.size e.st e.va e.wo) (by kernel_rfl) (by kernel_rfl) HI.out ?_
        repeat (go_big_quiet_step (first | (go_at_call 19; with_reducible refine inv_call _ (fun _ _ => Wk.below) (HP.out _))))
        refine wpQuiet_nil ?_
        intro _ hw'
        obtain ⟨⟨w9, h9⟩, hw''⟩ := hw'
        subst hw''
        have H9 := Lib.hid h9.bel
        clear h9 c0 c1 c2 HI
        go_wp2
        go_roundw
        case rel => exact ⟨k + 1, q, by omega, by go_num, rfl, Lib.hid (least_skip hq.out HE.out hp), H9.out⟩
        case measure => simp [intOf]; omega
    · obtain rfl : k = len := by omega
      have i0 : ¬ (k : Int) < (k : Int) := by omega
      go_wp2
      go_ret
      exact ⟨q, rfl, hq.out, hbel⟩

set_option maxHeartbeats 4000000 in
theorem least_use (L : List Bk) (len cap : Nat) (hlen : len = L.length) (hm : len ≤ 4611686018427387904) (a : Option Addr) (w : World) (hr : Bks w a L) (hP : PredF 15 inUse) (hC : CmpF 16 cmpW) :
    Calls Try.prog 14 #[.slice a len cap, .func (.func 15) #[] #[], .func (.func 16) #[] #[]] w fun r w' => ∃ q : Int, r = .returned (.int .i64 q) ∧ Least inUse LtW L len q ∧ Below w.heap.size w w' := by
  have HR := Lib.hid hr
  have HL := Lib.hid hlen
  have HPP := Lib.hid hP
  have HCC := Lib.hid hC
  clear hr hlen hP hC
  go_enter Try.func14, Try.ntmps14
  go_wp2
  go_loopw [7, 12] (fun x i wr => ∃ (k : Nat) (q : Int), k ≤ len ∧ i = .int .i64 k ∧ x = .int .i64 q ∧ Hid (Least inUse LtW L k q) ∧ Below w.heap.size w wr) (fun _ i _ => len - (intOf i).toNat)
  case atStart => exact ⟨0, -1, Nat.zero_le _, rfl, rfl, Lib.hid (least_zero _ _ L), Below.refl _ _⟩
  case round =>
    obtain ⟨k, q, hk, rfl, rfl, hq, hbel⟩ := hrel
    have HBE := Lib.hid hbel
    by_cases hlt : k < len
    · obtain ⟨e, he⟩ : ∃ e, L[k]? = some e := ⟨_, List.getElem?_eq_getElem (by rw [← HL.out]; exact hlt)⟩
      obtain ⟨b, off, rfl, hb, hc⟩ := HR.out.get he
      obtain ⟨q0, q1, q2⟩ := (hc k e he).kept hbel hb
      have HP := Lib.hid (HPP.out e)
      have HE := Lib.hid he
      have HCN := Lib.hid hc
      have t1 : (k : Int) < (len : Int) := by omega
      have t2 : (0 : Int) ≤ (k : Int) := by omega
      clear hc he hbel
      by_cases hp : inUse e
      · rw [decide_eq_true hp] at HP
        rcases least_lt hq.out with hq1 | ⟨j, y, hqj, hjk, hy, _⟩
        · subst hq1
          go_wp2
          have hI : Wk w wr.heap.size e.st e.va e.wo ((wr.alloc (.cells #[.int .i64 e.st, .int .i64 e.va, .int .i64 e.wo] 33)).drew) := ⟨Blk.new wr _ _, HBE.out.size, (HBE.out.alloc HBE.out.size _).drew⟩
          have hNE : Nonempty (Wd (Wk w wr.heap.size e.st e.va e.wo)) := ⟨⟨_, hI⟩⟩
          have c0 := fun x : Wd (Wk w wr.heap.size e.st e.va e.wo) => (wcells3 x.ok.blk).1
          have c1 := fun x : Wd (Wk w wr.heap.size e.st e.va e.wo) => (wcells3 x.ok.blk).2.1
          have c2 := fun x : Wd (Wk w wr.heap.size e.st e.va e.wo) => (wcells3 x.ok.blk).2.2
          have HI := Lib.hid hI
          clear hI
          refine wp_region_inv (Wk w wr.heap.size e.st e.va e.wo) (by kernel_rfl) (by kernel_rfl) HI.out ?_
          repeat (go_big_quiet_step (first | (go_at_call 15; with_reducible refine inv_call _ (fun _ _ => Wk.below) (HP.out _))))
          refine wpQuiet_nil ?_
          intro _ hw'
          obtain ⟨⟨w9, h9⟩, hw''⟩ := hw'
          subst hw''
          have H9 := Lib.hid h9.bel
          clear h9 c0 c1 c2 HI
          go_wp2
          go_roundw
          case rel => exact ⟨k + 1, (k : Int), by omega, by go_num, rfl, Lib.hid (least_first ordW hq.out HE.out hp), H9.out⟩
          case measure => simp [intOf]; omega
        · subst hqj
          have P0 := Lib.hid (HCN.out j y hy)
          have HY := Lib.hid hy
          have HC := Lib.hid (HCC.out e y)
          have e1 : ((j : Int) == -1) = false := by rw [beq_eq_false_iff_ne]; omega
          have e2 : (0 : Int) ≤ (j : Int) := by omega
          have e3 : (j : Int) < (len : Int) := by omega
          clear hy
          by_cases hl : cmpW e y < 0
          · have e4 : decide (cmpW e y < 0) = true := decide_eq_true hl
            have HLT := Lib.hid (cmpW_neg.1 hl)
            obtain ⟨z, hz⟩ : ∃ z, z = cmpW e y := ⟨_, rfl⟩
            rw [← hz] at HC e4 hl
            clear hz
            go_wp2
            have hI : Wk w wr.heap.size e.st e.va e.wo ((wr.alloc (.cells #[.int .i64 e.st, .int .i64 e.va, .int .i64 e.wo] 33)).drew) := ⟨Blk.new wr _ _, HBE.out.size, (HBE.out.alloc HBE.out.size _).drew⟩
            have hNE : Nonempty (Wd (Wk w wr.heap.size e.st e.va e.wo)) := ⟨⟨_, hI⟩⟩
            have c0 := fun x : Wd (Wk w wr.heap.size e.st e.va e.wo) => (wcells3 x.ok.blk).1
            have c1 := fun x : Wd (Wk w wr.heap.size e.st e.va e.wo) => (wcells3 x.ok.blk).2.1
            have c2 := fun x : Wd (Wk w wr.heap.size e.st e.va e.wo) => (wcells3 x.ok.blk).2.2
            have d0 := fun x : Wd (Wk w wr.heap.size e.st e.va e.wo) => (x.ok.bel.cell (p := ⟨b, off + j * 3, none⟩) hb).trans P0.out.1
            have d1 := fun x : Wd (Wk w wr.heap.size e.st e.va e.wo) => (x.ok.bel.cell (p := ⟨b, off + j * 3 + 1, none⟩) hb).trans P0.out.2.1
            have d2 := fun x : Wd (Wk w wr.heap.size e.st e.va e.wo) => (x.ok.bel.cell (p := ⟨b, off + j * 3 + 2, none⟩) hb).trans P0.out.2.2
            have HI := Lib.hid hI
            clear hI
            refine wp_region_inv (Wk w wr.heap.size e.st e.va e.wo) (by kernel_rfl) (by kernel_rfl) HI.out ?_
            repeat (go_big_quiet_step (first | (go_at_call 15; with_reducible refine inv_call _ (fun _ _ => Wk.below) (HP.out _)) | (go_at_call 16; with_reducible refine inv_call _ (fun _ _ => Wk.below) (HC.out _))))
            refine wpQuiet_nil ?_
            intro _ hw'
            obtain ⟨⟨w9, h9⟩, hw''⟩ := hw'
            subst hw''
            have H9 := Lib.hid h9.bel
            clear h9 c0 c1 c2 d0 d1 d2 HI
            go_wp2
            go_roundw
            case rel => exact ⟨k + 1, (k : Int), by omega, by go_num, rfl, Lib.hid (least_turn ordW hq.out HY.out HE.out hp HLT.out), H9.out⟩
            case measure => simp [intOf]; omega
          · have e4 : decide (cmpW e y < 0) = false := decide_eq_false hl
            have HLT := Lib.hid (fun h => hl (cmpW_neg.2 h))
            obtain ⟨z, hz⟩ : ∃ z, z = cmpW e y := ⟨_, rfl⟩
            rw [← hz] at HC e4 hl
            clear hz
            go_wp2
            have hI : Wk w wr.heap.size e.st e.va e.wo ((wr.alloc (.cells #[.int .i64 e.st, .int .i64 e.va, .int .i64 e.wo] 33)).drew) := ⟨Blk.new wr _ _, HBE.out.size, (HBE.out.alloc HBE.out.size _).drew⟩
            have hNE : Nonempty (Wd (Wk w wr.heap.size e.st e.va e.wo)) := ⟨⟨_, hI⟩⟩
            have c0 := fun x : Wd (Wk w wr.heap.size e.st e.va e.wo) => (wcells3 x.ok.blk).1
            have c1 := fun x : Wd (Wk w wr.heap.size e.st e.va e.wo) => (wcells3 x.ok.blk).2.1
            have c2 := fun x : Wd (Wk w wr.heap.size e.st e.va e.wo) => (wcells3 x.ok.blk).2.2
            have d0 := fun x : Wd (Wk w wr.heap.size e.st e.va e.wo) => (x.ok.bel.cell (p := ⟨b, off + j * 3, none⟩) hb).trans P0.out.1
            have d1 := fun x : Wd (Wk w wr.heap.size e.st e.va e.wo) => (x.ok.bel.cell (p := ⟨b, off + j * 3 + 1, none⟩) hb).trans P0.out.2.1
            have d2 := fun x : Wd (Wk w wr.heap.size e.st e.va e.wo) => (x.ok.bel.cell (p := ⟨b, off + j * 3 + 2, none⟩) hb).trans P0.out.2.2
            have HI := Lib.hid hI
            clear hI
            refine wp_region_inv (Wk w wr.heap.size e.st e.va e.wo) (by kernel_rfl) (by kernel_rfl) HI.out ?_
            repeat (go_big_quiet_step (first | (go_at_call 15; with_reducible refine inv_call _ (fun _ _ => Wk.below) (HP.out _)) | (go_at_call 16; with_reducible refine inv_call _ (fun _ _ => Wk.below) (HC.out _))))
            refine wpQuiet_nil ?_
            intro _ hw'
            obtain ⟨⟨w9, h9⟩, hw''⟩ := hw'
            subst hw''
            have H9 := Lib.hid h9.bel
            clear h9 c0 c1 c2 d0 d1 d2 HI
            go_wp2
            go_roundw
            case rel => exact ⟨k + 1, (j : Int), by omega, by go_num, rfl, Lib.hid (least_keep hq.out HY.out HE.out HLT.out), H9.out⟩
            case measure => simp [intOf]; omega
      · rw [decide_eq_false hp] at HP
        go_wp2
        have hI : Wk w wr.heap.size e.st e.va e.wo ((wr.alloc (.cells #[.int .i64 e.st, .int .i64 e.va, .int .i64 e.wo] 33)).drew) := ⟨Blk.new wr _ _, HBE.out.size, (HBE.out.alloc HBE.out.size _).drew⟩
        have hNE : Nonempty (Wd (Wk w wr.heap.size e.st e.va e.wo)) := ⟨⟨_, hI⟩⟩
        have c0 := fun x : Wd (Wk w wr.heap.size e.st e.va e.wo) => (wcells3 x.ok.blk).1
        have c1 := fun x : Wd (Wk w wr.heap.size e.st e.va e.wo) => (wcells3 x.ok.blk).2.1
        have c2 := fun x : Wd (Wk w wr.heap.size e.st e.va e.wo) => (wcells3 x.ok.blk).2.2
        have HI := Lib.hid hI
        clear hI
        refine wp_region_inv (Wk w wr.heap.size e.st e.va e.wo) (by kernel_rfl) (by kernel_rfl) HI.out ?_
        repeat (go_big_quiet_step (first | (go_at_call 15; with_reducible refine inv_call _ (fun _ _ => Wk.below) (HP.out _))))
        refine wpQuiet_nil ?_
        intro _ hw'
        obtain ⟨⟨w9, h9⟩, hw''⟩ := hw'
        subst hw''
        have H9 := Lib.hid h9.bel
        clear h9 c0 c1 c2 HI
        go_wp2
        go_roundw
        case rel => exact ⟨k + 1, q, by omega, by go_num, rfl, Lib.hid (least_skip hq.out HE.out hp), H9.out⟩
        case measure => simp [intOf]; omega
    · obtain rfl : k = len := by omega
      have i0 : ¬ (k : Int) < (k : Int) := by omega
      go_wp2
      go_ret
      exact ⟨q, rfl, hq.out, hbel⟩
/-- The first block that strands pages (-1: none). -/
def First (p : Bk → Prop) (l : List Bk) (k : Nat) (r : Int) : Prop :=
  (r = -1 ∧ ∀ (i : Nat) (x : Bk), i < k → l[i]? = some x → ¬ p x) ∨ ∃ (j : Nat) (y : Bk), r = (j : Int) ∧ j < k ∧ l[j]? = some y ∧ p y ∧ ∀ (i : Nat) (x : Bk), i < j → l[i]? = some x → ¬ p x
set_option maxHeartbeats 2000000 in
theorem index_any (L : List Bk) (len cap : Nat) (hlen : len = L.length) (hm : len ≤ 4611686018427387904) (a : Option Addr) (w : World) (hr : Bks w a L) :
    Calls Try.prog 22 #[.slice a len cap, .func (.func 23) #[] #[]] w fun r w' => ∃ q : Int, r = .returned (.int .i64 q) ∧ First strands L len q ∧ Below w.heap.size w w' := by
  have HR := Lib.hid hr
  have HL := Lib.hid hlen
  clear hr hlen
  go_enter Try.func22, Try.ntmps22
  go_wp2
  go_loopw [8] (fun i wr => ∃ k : Nat, k ≤ len ∧ i = .int .i64 k ∧ Hid (∀ (i : Nat) (x : Bk), i < k → L[i]? = some x → ¬ strands x) ∧ Below w.heap.size w wr) (fun i _ => len - (intOf i).toNat)
  case atStart => exact ⟨0, Nat.zero_le _, rfl, Lib.hid (fun i x hi => by omega), Below.refl _ _⟩
  case round =>
    obtain ⟨k, hk, rfl, hno, hbel⟩ := hrel
    have HBE := Lib.hid hbel
    by_cases hlt : k < len
    · obtain ⟨e, he⟩ : ∃ e, L[k]? = some e := ⟨_, List.getElem?_eq_getElem (by rw [← HL.out]; exact hlt)⟩
      obtain ⟨b, off, rfl, hb, hc⟩ := HR.out.get he
      obtain ⟨q0, q1, q2⟩ := (hc k e he).kept hbel hb
      have HP := Lib.hid (strands_any e)
      have HE := Lib.hid he
      have t1 : (k : Int) < (len : Int) := by omega
      have t2 : (0 : Int) ≤ (k : Int) := by omega
      clear hc he hbel
      by_cases hp : strands e
      · rw [decide_eq_true hp] at HP
        go_wp2_with fail
        refine (HP.out _).mono ?_
        rintro r w1 ⟨rfl, hb1⟩
        have HB1 := Lib.hid (below_kept HBE.out hb1)
        clear hb1 HP
        go_wp2
        go_ret
        exact ⟨(k : Int), rfl, .inr ⟨k, e, rfl, hlt, HE.out, hp, hno.out⟩, HB1.out⟩
      · rw [decide_eq_false hp] at HP
        go_wp2_with fail
        refine (HP.out _).mono ?_
        rintro r w1 ⟨rfl, hb1⟩
        have HB1 := Lib.hid (below_kept HBE.out hb1)
        clear hb1 HP
        go_wp2
        go_roundw
        case rel => exact ⟨k + 1, by omega, by go_num, Lib.hid (fun i x hi hx => by
          rcases at_last HE.out hi hx with c | rfl
          · exact hno.out i x c hx
          · exact hp), HB1.out⟩
        case measure => simp [intOf]; omega
    · obtain rfl : k = len := by omega
      have i0 : ¬ (k : Int) < (k : Int) := by omega
      go_wp2
      go_ret
      exact ⟨-1, rfl, .inl ⟨rfl, hno.out⟩, hbel⟩
end WR
end Go.Proofs.Ytomncnelkkmalac
