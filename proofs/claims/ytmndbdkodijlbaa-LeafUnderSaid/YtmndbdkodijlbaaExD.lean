/- What package ext's Check answers, of any list of extents. No condition but those that each theorem names. -/
import Derived.Test.YtmndbdkodijlbaaExC
import Derived.Test.YtmndbdkodijlbaaExS
namespace Go.Proofs.Ytmndbdkodijlbaa
open Go.RowKit
namespace EX
open MM
set_option linter.unusedVariables false
set_option linter.unusedSimpArgs false

/-- An extent in a block of its own, all that was there as it was. -/
structure Ck (w : World) (X : Nat) (f n k t : Int) (w' : World) : Prop where
  blk : Blk w' X 55 (c4 f n k t)
  le : w.heap.size ≤ X
  bel : Below w.heap.size w w'
theorem Ck.below {w : World} {X : Nat} {f n k t : Int} {w1 w2 : World} (h : Ck w X f n k t w1) (hb : Below w1.heap.size w1 w2) : Ck w X f n k t w2 :=
  ⟨h.blk.below hb h.blk.lt, h.le, h.bel.trans (hb.mono (Nat.le_trans h.le (Nat.le_of_lt h.blk.lt)))⟩
theorem Ck.cells {w : World} {X : Nat} {f n k t : Int} (x : Wd (Ck w X f n k t)) :
    x.w.cell? ⟨X, 0, none⟩ = some (.int .i64 f) ∧ x.w.cell? ⟨X, 1, none⟩ = some (.int .i64 n) ∧ x.w.cell? ⟨X, 2, none⟩ = some (.int .i64 k) ∧ x.w.cell? ⟨X, 3, none⟩ = some (.int .i64 t) := (cells4 x.ok.blk).1

set_option maxHeartbeats 4000000 in
theorem check_any (L : List Ext) (len cap : Nat) (hlen : len = L.length) (hm : len ≤ maxLen) (a : Option Addr) (w : World) (hr : Exs w a L) (hwf : ∀ e ∈ L, WfE e) :
    Calls Try.prog 46 #[.slice a len cap] w fun e w' => e = .returned (.bool (decide (Valid L))) ∧ Below w.heap.size w w' := by
  unfold maxLen at hm
  obtain ⟨V, hV⟩ : ∃ V, V = decide (Valid L) := ⟨_, rfl⟩
  rw [← hV]
  have HV := Lib.hid hV
  have HR := Lib.hid hr
  have HWF := Lib.hid hwf
  have HL := Lib.hid hlen
  clear hV hr hwf hlen
  go_enter Try.func46, Try.ntmps46
  go_wp2
  go_loopw [7] (fun i wr => ∃ k : Nat, k ≤ len ∧ i = .int .i64 k ∧ Hid (Valid (L.take k)) ∧ Below w.heap.size w wr) (fun i _ => len - (intOf i).toNat)
  case atStart => exact ⟨0, Nat.zero_le _, rfl, Lib.hid (by simpa using valid_nil), Below.refl _ _⟩
  case round =>
    obtain ⟨k, hk, rfl, hval, hbel⟩ := hrel
    by_cases hlt : k < len
    · obtain ⟨e, he⟩ : ∃ e, L[k]? = some e := ⟨_, List.getElem?_eq_getElem (by rw [← HL.out]; exact hlt)⟩
      rcases HR.out with h0 | ⟨b, off, rfl, hb, hc⟩
      · rw [h0] at he; simp at he
      · obtain ⟨q0, q1, q2, q3⟩ := (hc k e he).kept hbel hb
        have hw := HWF.out e (List.mem_of_getElem? he)
        have HC := Lib.hid hc
        have HON := Lib.hid (one_any e hw)
        have HE := Lib.hid he
        have t1 : (k : Int) < (len : Int) := by omega
        clear hc he hw
        by_cases h1 : One e
        · rw [decide_eq_true h1] at HON
          have HO := Lib.hid h1
          rcases Nat.eq_zero_or_pos k with h0 | hpos
          · subst h0
            simp only [Nat.zero_mul, Nat.add_zero] at q0 q1 q2 q3
            go_wp2
            have hI : Ck w wr.heap.size e.from_ e.n e.kind e.at_ ((wr.alloc (.cells #[.int .i64 e.from_, .int .i64 e.n, .int .i64 e.kind, .int .i64 e.at_] 55)).drew) := ⟨Blk.new wr _ _, hbel.size, (hbel.alloc hbel.size _).drew⟩
            have c0 := fun x => (Ck.cells (w := w) (X := wr.heap.size) (f := e.from_) (n := e.n) (k := e.kind) (t := e.at_) x).1
            have c1 := fun x => (Ck.cells (w := w) (X := wr.heap.size) (f := e.from_) (n := e.n) (k := e.kind) (t := e.at_) x).2.1
            have c2 := fun x => (Ck.cells (w := w) (X := wr.heap.size) (f := e.from_) (n := e.n) (k := e.kind) (t := e.at_) x).2.2.1
            have c3 := fun x => (Ck.cells (w := w) (X := wr.heap.size) (f := e.from_) (n := e.n) (k := e.kind) (t := e.at_) x).2.2.2
            have hNE : Nonempty (Wd (Ck w wr.heap.size e.from_ e.n e.kind e.at_)) := ⟨⟨_, hI⟩⟩
            have HI := Lib.hid hI
            clear hI
            refine wp_region_inv (Ck w wr.heap.size e.from_ e.n e.kind e.at_) (by kernel_rfl) (by kernel_rfl) HI.out ?_
            repeat (go_big_quiet_step (first | (go_at_call 58; with_reducible refine inv_call _ (fun _ _ => Ck.below) (HON.out _))))
            refine wpQuiet_nil ?_
            intro _ hw'
            obtain ⟨⟨w9, h9⟩, hw''⟩ := hw'
            subst hw''
            have H9 := Lib.hid h9.bel
            clear h9 c0 c1 c2 c3 HI
            go_wp2
            go_roundw
            case rel => exact ⟨1, by omega, by go_num, Lib.hid (valid_first HE.out h1), H9.out⟩
            case measure => simp [intOf]; omega
          · obtain ⟨j, rfl⟩ : ∃ j, k = j + 1 := ⟨k - 1, by omega⟩
            obtain ⟨p, hp⟩ : ∃ p, L[j]? = some p := ⟨_, List.getElem?_eq_getElem (by rw [← HL.out]; omega)⟩
            have hpo : One p := valid_at (k := j) hval.out (by rw [List.getElem?_take_of_lt (by omega)]; exact hp)
            have P0 := Lib.hid (HC.out j p hp)
            have HFO := Lib.hid (follows_any p e hpo h1)
            have HP := Lib.hid hp
            have e9 : IntKind.i64.wrap (((j + 1 : Nat) : Int) - 1) = (j : Int) := by rw [IntWalk.i64_in _ (by omega)]; omega
            have e10 : (0 : Int) ≤ (j : Int) := by omega
            have e11 : (j : Int) < (len : Int) := by omega
            have e12 : (0 : Int) < ((j + 1 : Nat) : Int) := by omega
            clear hp hpo
            by_cases h2 : Bef p e ∧ ¬ Tog p e
            · rw [decide_eq_true h2] at HFO
              go_wp2
              have hI : Ck w wr.heap.size e.from_ e.n e.kind e.at_ ((wr.alloc (.cells #[.int .i64 e.from_, .int .i64 e.n, .int .i64 e.kind, .int .i64 e.at_] 55)).drew) := ⟨Blk.new wr _ _, hbel.size, (hbel.alloc hbel.size _).drew⟩
              have c0 := fun x => (Ck.cells (w := w) (X := wr.heap.size) (f := e.from_) (n := e.n) (k := e.kind) (t := e.at_) x).1
              have c1 := fun x => (Ck.cells (w := w) (X := wr.heap.size) (f := e.from_) (n := e.n) (k := e.kind) (t := e.at_) x).2.1
              have c2 := fun x => (Ck.cells (w := w) (X := wr.heap.size) (f := e.from_) (n := e.n) (k := e.kind) (t := e.at_) x).2.2.1
              have c3 := fun x => (Ck.cells (w := w) (X := wr.heap.size) (f := e.from_) (n := e.n) (k := e.kind) (t := e.at_) x).2.2.2
              have d0 := fun x : Wd (Ck w wr.heap.size e.from_ e.n e.kind e.at_) => (x.ok.bel.cell (p := ⟨b, off + j * 4, none⟩) hb).trans P0.out.1
              have d1 := fun x : Wd (Ck w wr.heap.size e.from_ e.n e.kind e.at_) => (x.ok.bel.cell (p := ⟨b, off + j * 4 + 1, none⟩) hb).trans P0.out.2.1
              have d2 := fun x : Wd (Ck w wr.heap.size e.from_ e.n e.kind e.at_) => (x.ok.bel.cell (p := ⟨b, off + j * 4 + 2, none⟩) hb).trans P0.out.2.2.1
              have d3 := fun x : Wd (Ck w wr.heap.size e.from_ e.n e.kind e.at_) => (x.ok.bel.cell (p := ⟨b, off + j * 4 + 3, none⟩) hb).trans P0.out.2.2.2
              have hNE : Nonempty (Wd (Ck w wr.heap.size e.from_ e.n e.kind e.at_)) := ⟨⟨_, hI⟩⟩
              have HI := Lib.hid hI
              clear hI
              refine wp_region_inv (Ck w wr.heap.size e.from_ e.n e.kind e.at_) (by kernel_rfl) (by kernel_rfl) HI.out ?_
              repeat (go_big_quiet_step (first | (go_at_call 58; with_reducible refine inv_call _ (fun _ _ => Ck.below) (HON.out _)) | (go_at_call 59; with_reducible refine inv_call _ (fun _ _ => Ck.below) (HFO.out _))))
              refine wpQuiet_nil ?_
              intro _ hw'
              obtain ⟨⟨w9, h9⟩, hw''⟩ := hw'
              subst hw''
              have H9 := Lib.hid h9.bel
              clear h9 c0 c1 c2 c3 d0 d1 d2 d3 HI
              go_wp2
              go_roundw
              case rel => exact ⟨j + 1 + 1, by omega, by go_num, Lib.hid (valid_next hval.out HP.out HE.out h1 h2), H9.out⟩
              case measure => simp [intOf]; omega
            · rw [decide_eq_false h2] at HFO
              go_wp2
              have hI : Ck w wr.heap.size e.from_ e.n e.kind e.at_ ((wr.alloc (.cells #[.int .i64 e.from_, .int .i64 e.n, .int .i64 e.kind, .int .i64 e.at_] 55)).drew) := ⟨Blk.new wr _ _, hbel.size, (hbel.alloc hbel.size _).drew⟩
              have c0 := fun x => (Ck.cells (w := w) (X := wr.heap.size) (f := e.from_) (n := e.n) (k := e.kind) (t := e.at_) x).1
              have c1 := fun x => (Ck.cells (w := w) (X := wr.heap.size) (f := e.from_) (n := e.n) (k := e.kind) (t := e.at_) x).2.1
              have c2 := fun x => (Ck.cells (w := w) (X := wr.heap.size) (f := e.from_) (n := e.n) (k := e.kind) (t := e.at_) x).2.2.1
              have c3 := fun x => (Ck.cells (w := w) (X := wr.heap.size) (f := e.from_) (n := e.n) (k := e.kind) (t := e.at_) x).2.2.2
              have d0 := fun x : Wd (Ck w wr.heap.size e.from_ e.n e.kind e.at_) => (x.ok.bel.cell (p := ⟨b, off + j * 4, none⟩) hb).trans P0.out.1
              have d1 := fun x : Wd (Ck w wr.heap.size e.from_ e.n e.kind e.at_) => (x.ok.bel.cell (p := ⟨b, off + j * 4 + 1, none⟩) hb).trans P0.out.2.1
              have d2 := fun x : Wd (Ck w wr.heap.size e.from_ e.n e.kind e.at_) => (x.ok.bel.cell (p := ⟨b, off + j * 4 + 2, none⟩) hb).trans P0.out.2.2.1
              have d3 := fun x : Wd (Ck w wr.heap.size e.from_ e.n e.kind e.at_) => (x.ok.bel.cell (p := ⟨b, off + j * 4 + 3, none⟩) hb).trans P0.out.2.2.2
              have hNE : Nonempty (Wd (Ck w wr.heap.size e.from_ e.n e.kind e.at_)) := ⟨⟨_, hI⟩⟩
              have HI := Lib.hid hI
              clear hI
              refine wp_region_inv (Ck w wr.heap.size e.from_ e.n e.kind e.at_) (by kernel_rfl) (by kernel_rfl) HI.out ?_
              repeat (go_big_quiet_step (first | (go_at_call 58; with_reducible refine inv_call _ (fun _ _ => Ck.below) (HON.out _)) | (go_at_call 59; with_reducible refine inv_call _ (fun _ _ => Ck.below) (HFO.out _))))
              refine wpQuiet_nil ?_
              intro _ hw'
              obtain ⟨⟨w9, h9⟩, hw''⟩ := hw'
              subst hw''
              have H9 := Lib.hid h9.bel
              clear h9 c0 c1 c2 c3 d0 d1 d2 d3 HI
              go_wp2
              go_ret
              exact ⟨by rw [HV.out, decide_eq_false fun h => h2 (valid_two h HP.out HE.out)]; rfl, H9.out⟩
        · rw [decide_eq_false h1] at HON
          go_wp2
          have hI : Ck w wr.heap.size e.from_ e.n e.kind e.at_ ((wr.alloc (.cells #[.int .i64 e.from_, .int .i64 e.n, .int .i64 e.kind, .int .i64 e.at_] 55)).drew) := ⟨Blk.new wr _ _, hbel.size, (hbel.alloc hbel.size _).drew⟩
          have c0 := fun x => (Ck.cells (w := w) (X := wr.heap.size) (f := e.from_) (n := e.n) (k := e.kind) (t := e.at_) x).1
          have c1 := fun x => (Ck.cells (w := w) (X := wr.heap.size) (f := e.from_) (n := e.n) (k := e.kind) (t := e.at_) x).2.1
          have c2 := fun x => (Ck.cells (w := w) (X := wr.heap.size) (f := e.from_) (n := e.n) (k := e.kind) (t := e.at_) x).2.2.1
          have c3 := fun x => (Ck.cells (w := w) (X := wr.heap.size) (f := e.from_) (n := e.n) (k := e.kind) (t := e.at_) x).2.2.2
          have hNE : Nonempty (Wd (Ck w wr.heap.size e.from_ e.n e.kind e.at_)) := ⟨⟨_, hI⟩⟩
          have HI := Lib.hid hI
          clear hI
          refine wp_region_inv (Ck w wr.heap.size e.from_ e.n e.kind e.at_) (by kernel_rfl) (by kernel_rfl) HI.out ?_
          repeat (go_big_quiet_step (first | (go_at_call 58; with_reducible refine inv_call _ (fun _ _ => Ck.below) (HON.out _))))
          refine wpQuiet_nil ?_
          intro _ hw'
          obtain ⟨⟨w9, h9⟩, hw''⟩ := hw'
          subst hw''
          have H9 := Lib.hid h9.bel
          clear h9 c0 c1 c2 c3 HI
          go_wp2
          go_ret
          exact ⟨by rw [HV.out, decide_eq_false fun h => h1 (valid_at h HE.out)]; rfl, H9.out⟩
    · obtain rfl : k = len := by omega
      have hv : V = true := by rw [HV.out, decide_eq_true]; exact valid_take (by rw [← HL.out]; exact Nat.le_refl _) hval.out
      have HVT := Lib.hid hv
      clear hv
      have i0 : ¬ (k : Int) < (k : Int) := by omega
      go_wp2
      go_ret
      exact ⟨by rw [HVT.out]; rfl, hbel⟩
end EX
end Go.Proofs.Ytmndbdkodijlbaa
