/- 3 texts laid together: each says at its head what it proves. No condition but those that each theorem names. -/
import Derived.Test.YtdjlflinepefbabGreatQ26
import Derived.Test.YtdjlflinepefbabGreatQ25
import Derived.Test.YtdjlflinepefbabGreatQ05

/- What package ext's push answers, of any list. No condition but those that each theorem names. -/
namespace Go.Proofs.YtdjlflinepefbabGreat
open Go.RowKit
namespace EX
open MM
set_option linter.unusedVariables false
set_option linter.unusedSimpArgs false

theorem push_any (base : Nat) (L : List Ext) (e : Ext) (v : Value) (w : World) (hown : w.ownsRow base 41 4 v L.length (exCells L)) (hb : base ≤ w.heap.size) (hL : ∀ x ∈ L, One x) (he : One e) (hlen : L.length ≤ 100000000) :
    Calls Tryz.prog 71 #[v, .agg #[.int .i64 e.from_, .int .i64 e.n, .int .i64 e.kind, .int .i64 e.at_]] w (OwnEnd base (push L e) w) := by
  rcases snoc_cases L with rfl | ⟨i, p, rfl⟩
  · exact push_empty base e v w hown hb
  · have hp : One p := hL p (by simp)
    have hi : i.length + 1 = (i ++ [p]).length := by simp
    rw [← hi] at hown hlen
    by_cases h : Tog p e
    · rw [push_tog _ _ _ h]
      exact push_t base i.length i p e (join p e) rfl (by omega) v w hown hb (Lib.hid (joined_ok p e hp he h))
    · rw [push_far _ _ _ h]
      exact push_f base i.length i p e Ext.zero rfl (by omega) v w hown hb (Lib.hid (joined_no p e hp.wf he.wf fun h' => h h'.2.2))
end EX
end Go.Proofs.YtdjlflinepefbabGreat

/- What package ext's Check answers, of any list of extents. No condition but those that each theorem names. -/
namespace Go.Proofs.YtdjlflinepefbabGreat
open Go.RowKit
namespace EX
open MM
set_option linter.unusedVariables false
set_option linter.unusedSimpArgs false

/-- An extent in a block of its own, all that was there as it was. -/
structure Ck (w : World) (X : Nat) (f n k t : Int) (w' : World) : Prop where
  blk : Blk w' X 41 (c4 f n k t)
  le : w.heap.size ≤ X
  bel : Below w.heap.size w w'
theorem Ck.below {w : World} {X : Nat} {f n k t : Int} {w1 w2 : World} (h : Ck w X f n k t w1) (hb : Below w1.heap.size w1 w2) : Ck w X f n k t w2 :=
  ⟨h.blk.below hb h.blk.lt, h.le, h.bel.trans (hb.mono (Nat.le_trans h.le (Nat.le_of_lt h.blk.lt)))⟩
theorem Ck.cells {w : World} {X : Nat} {f n k t : Int} (x : Wd (Ck w X f n k t)) :
    x.w.cell? ⟨X, 0, none⟩ = some (.int .i64 f) ∧ x.w.cell? ⟨X, 1, none⟩ = some (.int .i64 n) ∧ x.w.cell? ⟨X, 2, none⟩ = some (.int .i64 k) ∧ x.w.cell? ⟨X, 3, none⟩ = some (.int .i64 t) := (cells4 x.ok.blk).1

set_option maxHeartbeats 4000000 in
theorem check_any (L : List Ext) (len cap : Nat) (hlen : len = L.length) (hm : len ≤ maxLen) (a : Option Addr) (w : World) (hr : Exs w a L) (hwf : ∀ e ∈ L, WfE e) :
    Calls Tryz.prog 36 #[.slice a len cap] w fun e w' => e = .returned (.bool (decide (Valid L))) ∧ Below w.heap.size w w' := by
  unfold maxLen at hm
  obtain ⟨V, hV⟩ : ∃ V, V = decide (Valid L) := ⟨_, rfl⟩
  rw [← hV]
  have HV := Lib.hid hV
  have HR := Lib.hid hr
  have HWF := Lib.hid hwf
  have HL := Lib.hid hlen
  clear hV hr hwf hlen
  go_enter Tryz.func36, Tryz.ntmps36
  go_wp2
  go_loopw [7] (fun i wr => ∃ k : Nat, k ≤ len ∧ i = .int .i64 k ∧ Hid (Valid (L.take k)) ∧ Below w.heap.size w wr) (fun i _ => len - (intOf i).toNat)
  case atStart => exact ⟨0, Nat.zero_le _, rfl, Lib.hid (by simpa using valid_nil), Below.refl _ _⟩
  case round =>
    obtain ⟨k, hk, rfl, hval, hbel⟩ := hrel
    by_cases hlt : k < len
    · obtain ⟨e, he⟩ : ∃ e, L[k]? = some e := ⟨_, List.getElem?_eq_getElem (by rw [← HL.out]; exact hlt)⟩
      rcases HR.out with h0 | ⟨b, off, rfl, hb, hc⟩
      · rw [h0] at he; simp at he
      · obtain ⟨q0, q1, q2, q3⟩ := (hc k e he).kept hbel hb
        have hw := HWF.out e (List.mem_of_getElem? he)
        have HC := Lib.hid hc
        have HON := Lib.hid (one_any e hw)
        have HE := Lib.hid he
        have t1 : (k : Int) < (len : Int) := by omega
        clear hc he hw
        by_cases h1 : One e
        · rw [decide_eq_true h1] at HON
          have HO := Lib.hid h1
          rcases Nat.eq_zero_or_pos k with h0 | hpos
          · subst h0
            simp only [Nat.zero_mul, Nat.add_zero] at q0 q1 q2 q3
            go_wp2
            have hI : Ck w wr.heap.size e.from_ e.n e.kind e.at_ ((wr.alloc (.cells #[.int .i64 e.from_, .int .i64 e.n, .int .i64 e.kind, .int .i64 e.at_] 41)).drew) := ⟨Blk.new wr _ _, hbel.size, (hbel.alloc hbel.size _).drew⟩
            have c0 := fun x => (Ck.cells (w := w) (X := wr.heap.size) (f := e.from_) (n := e.n) (k := e.kind) (t := e.at_) x).1
            have c1 := fun x => (Ck.cells (w := w) (X := wr.heap.size) (f := e.from_) (n := e.n) (k := e.kind) (t := e.at_) x).2.1
            have c2 := fun x => (Ck.cells (w := w) (X := wr.heap.size) (f := e.from_) (n := e.n) (k := e.kind) (t := e.at_) x).2.2.1
            have c3 := fun x => (Ck.cells (w := w) (X := wr.heap.size) (f := e.from_) (n := e.n) (k := e.kind) (t := e.at_) x).2.2.2
            have hNE : Nonempty (Wd (Ck w wr.heap.size e.from_ e.n e.kind e.at_)) := ⟨⟨_, hI⟩⟩
            have HI := Lib.hid hI
            clear hI
            refine wp_region_inv (Ck w wr.heap.size e.from_ e.n e.kind e.at_) (by kernel_rfl) (by kernel_rfl) HI.out ?_
            repeat (go_big_quiet_step (first | (go_at_call 49; with_reducible refine inv_call _ (fun _ _ => Ck.below) (HON.out _))))
            refine wpQuiet_nil ?_
            intro _ hw'
            obtain ⟨⟨w9, h9⟩, hw''⟩ := hw'
            subst hw''
            have H9 := Lib.hid h9.bel
            clear h9 c0 c1 c2 c3 HI
            go_wp2
            go_roundw
            case rel => exact ⟨1, by omega, by go_num, Lib.hid (valid_first HE.out h1), H9.out⟩
            case measure => simp [intOf]; omega
          · obtain ⟨j, rfl⟩ : ∃ j, k = j + 1 := ⟨k - 1, by omega⟩
            obtain ⟨p, hp⟩ : ∃ p, L[j]? = some p := ⟨_, List.getElem?_eq_getElem (by rw [← HL.out]; omega)⟩
            have hpo : One p := valid_at (k := j) hval.out (by rw [List.getElem?_take_of_lt (by omega)]; exact hp)
            have P0 := Lib.hid (HC.out j p hp)
            have HFO := Lib.hid (follows_any p e hpo h1)
            have HP := Lib.hid hp
            have e9 : IntKind.i64.wrap (((j + 1 : Nat) : Int) - 1) = (j : Int) := by rw [IntWalk.i64_in _ (by omega)]; omega
            have e10 : (0 : Int) ≤ (j : Int) := by omega
            have e11 : (j : Int) < (len : Int) := by omega
            have e12 : (0 : Int) < ((j + 1 : Nat) : Int) := by omega
            clear hp hpo
            by_cases h2 : Bef p e ∧ ¬ Tog p e
            · rw [decide_eq_true h2] at HFO
              go_wp2
              have hI : Ck w wr.heap.size e.from_ e.n e.kind e.at_ ((wr.alloc (.cells #[.int .i64 e.from_, .int .i64 e.n, .int .i64 e.kind, .int .i64 e.at_] 41)).drew) := ⟨Blk.new wr _ _, hbel.size, (hbel.alloc hbel.size _).drew⟩
              have c0 := fun x => (Ck.cells (w := w) (X := wr.heap.size) (f := e.from_) (n := e.n) (k := e.kind) (t := e.at_) x).1
              have c1 := fun x => (Ck.cells (w := w) (X := wr.heap.size) (f := e.from_) (n := e.n) (k := e.kind) (t := e.at_) x).2.1
              have c2 := fun x => (Ck.cells (w := w) (X := wr.heap.size) (f := e.from_) (n := e.n) (k := e.kind) (t := e.at_) x).2.2.1
              have c3 := fun x => (Ck.cells (w := w) (X := wr.heap.size) (f := e.from_) (n := e.n) (k := e.kind) (t := e.at_) x).2.2.2
              have d0 := fun x : Wd (Ck w wr.heap.size e.from_ e.n e.kind e.at_) => (x.ok.bel.cell (p := ⟨b, off + j * 4, none⟩) hb).trans P0.out.1
              have d1 := fun x : Wd (Ck w wr.heap.size e.from_ e.n e.kind e.at_) => (x.ok.bel.cell (p := ⟨b, off + j * 4 + 1, none⟩) hb).trans P0.out.2.1
              have d2 := fun x : Wd (Ck w wr.heap.size e.from_ e.n e.kind e.at_) => (x.ok.bel.cell (p := ⟨b, off + j * 4 + 2, none⟩) hb).trans P0.out.2.2.1
              have d3 := fun x : Wd (Ck w wr.heap.size e.from_ e.n e.kind e.at_) => (x.ok.bel.cell (p := ⟨b, off + j * 4 + 3, none⟩) hb).trans P0.out.2.2.2
              have hNE : Nonempty (Wd (Ck w wr.heap.size e.from_ e.n e.kind e.at_)) := ⟨⟨_, hI⟩⟩
              have HI := Lib.hid hI
              clear hI
              refine wp_region_inv (Ck w wr.heap.size e.from_ e.n e.kind e.at_) (by kernel_rfl) (by kernel_rfl) HI.out ?_
              repeat (go_big_quiet_step (first | (go_at_call 49; with_reducible refine inv_call _ (fun _ _ => Ck.below) (HON.out _)) | (go_at_call 77; with_reducible refine inv_call _ (fun _ _ => Ck.below) (HFO.out _))))
              refine wpQuiet_nil ?_
              intro _ hw'
              obtain ⟨⟨w9, h9⟩, hw''⟩ := hw'
              subst hw''
              have H9 := Lib.hid h9.bel
              clear h9 c0 c1 c2 c3 d0 d1 d2 d3 HI
              go_wp2
              go_roundw
              case rel => exact ⟨j + 1 + 1, by omega, by go_num, Lib.hid (valid_next hval.out HP.out HE.out h1 h2), H9.out⟩
              case measure => simp [intOf]; omega
            · rw [decide_eq_false h2] at HFO
              go_wp2
              have hI : Ck w wr.heap.size e.from_ e.n e.kind e.at_ ((wr.alloc (.cells #[.int .i64 e.from_, .int .i64 e.n, .int .i64 e.kind, .int .i64 e.at_] 41)).drew) := ⟨Blk.new wr _ _, hbel.size, (hbel.alloc hbel.size _).drew⟩
              have c0 := fun x => (Ck.cells (w := w) (X := wr.heap.size) (f := e.from_) (n := e.n) (k := e.kind) (t := e.at_) x).1
              have c1 := fun x => (Ck.cells (w := w) (X := wr.heap.size) (f := e.from_) (n := e.n) (k := e.kind) (t := e.at_) x).2.1
              have c2 := fun x => (Ck.cells (w := w) (X := wr.heap.size) (f := e.from_) (n := e.n) (k := e.kind) (t := e.at_) x).2.2.1
              have c3 := fun x => (Ck.cells (w := w) (X := wr.heap.size) (f := e.from_) (n := e.n) (k := e.kind) (t := e.at_) x).2.2.2
              have d0 := fun x : Wd (Ck w wr.heap.size e.from_ e.n e.kind e.at_) => (x.ok.bel.cell (p := ⟨b, off + j * 4, none⟩) hb).trans P0.out.1
              have d1 := fun x : Wd (Ck w wr.heap.size e.from_ e.n e.kind e.at_) => (x.ok.bel.cell (p := ⟨b, off + j * 4 + 1, none⟩) hb).trans P0.out.2.1
              have d2 := fun x : Wd (Ck w wr.heap.size e.from_ e.n e.kind e.at_) => (x.ok.bel.cell (p := ⟨b, off + j * 4 + 2, none⟩) hb).trans P0.out.2.2.1
              have d3 := fun x : Wd (Ck w wr.heap.size e.from_ e.n e.kind e.at_) => (x.ok.bel.cell (p := ⟨b, off + j * 4 + 3, none⟩) hb).trans P0.out.2.2.2
              have hNE : Nonempty (Wd (Ck w wr.heap.size e.from_ e.n e.kind e.at_)) := ⟨⟨_, hI⟩⟩
              have HI := Lib.hid hI
              clear hI
              refine wp_region_inv (Ck w wr.heap.size e.from_ e.n e.kind e.at_) (by kernel_rfl) (by kernel_rfl) HI.out ?_
              repeat (go_big_quiet_step (first | (go_at_call 49; with_reducible refine inv_call _ (fun _ _ => Ck.below) (HON.out _)) | (go_at_call 77; with_reducible refine inv_call _ (fun _ _ => Ck.below) (HFO.out _))))
              refine wpQuiet_nil ?_
              intro _ hw'
              obtain ⟨⟨w9, h9⟩, hw''⟩ := hw'
              subst hw''
              have H9 := Lib.hid h9.bel
              clear h9 c0 c1 c2 c3 d0 d1 d2 d3 HI
              go_wp2
              go_ret
              exact ⟨by rw [HV.out, decide_eq_false fun h => h2 (valid_two h HP.out HE.out)]; rfl, H9.out⟩
        · rw [decide_eq_false h1] at HON
          go_wp2
          have hI : Ck w wr.heap.size e.from_ e.n e.kind e.at_ ((wr.alloc (.cells #[.int .i64 e.from_, .int .i64 e.n, .int .i64 e.kind, .int .i64 e.at_] 41)).drew) := ⟨Blk.new wr _ _, hbel.size, (hbel.alloc hbel.size _).drew⟩
          have c0 := fun x => (Ck.cells (w := w) (X := wr.heap.size) (f := e.from_) (n := e.n) (k := e.kind) (t := e.at_) x).1
          have c1 := fun x => (Ck.cells (w := w) (X := wr.heap.size) (f := e.from_) (n := e.n) (k := e.kind) (t := e.at_) x).2.1
          have c2 := fun x => (Ck.cells (w := w) (X := wr.heap.size) (f := e.from_) (n := e.n) (k := e.kind) (t := e.at_) x).2.2.1
          have c3 := fun x => (Ck.cells (w := w) (X := wr.heap.size) (f := e.from_) (n := e.n) (k := e.kind) (t := e.at_) x).2.2.2
          have hNE : Nonempty (Wd (Ck w wr.heap.size e.from_ e.n e.kind e.at_)) := ⟨⟨_, hI⟩⟩
          have HI := Lib.hid hI
          clear hI
          refine wp_region_inv (Ck w wr.heap.size e.from_ e.n e.kind e.at_) (by kernel_rfl) (by kernel_rfl) HI.out ?_
          repeat (go_big_quiet_step (first | (go_at_call 49; with_reducible refine inv_call _ (fun _ _ => Ck.below) (HON.out _))))
          refine wpQuiet_nil ?_
          intro _ hw'
          obtain ⟨⟨w9, h9⟩, hw''⟩ := hw'
          subst hw''
          have H9 := Lib.hid h9.bel
          clear h9 c0 c1 c2 c3 HI
          go_wp2
          go_ret
          exact ⟨by rw [HV.out, decide_eq_false fun h => h1 (valid_at h HE.out)]; rfl, H9.out⟩
    · obtain rfl : k = len := by omega
      have hv : V = true := by rw [HV.out, decide_eq_true]; exact valid_take (by rw [← HL.out]; exact Nat.le_refl _) hval.out
      have HVT := Lib.hid hv
      clear hv
      have i0 : ¬ (k : Int) < (k : Int) := by omega
      go_wp2
      go_ret
      exact ⟨by rw [HVT.out]; rfl, hbel⟩
end EX
end Go.Proofs.YtdjlflinepefbabGreat

/- What package ext's pushPart answers: a row of the call's own, with what a list has of a range behind it. No condition but those that each theorem names. -/
namespace Go.Proofs.YtdjlflinepefbabGreat
open Go.RowKit
namespace EX
open MM
set_option linter.unusedVariables false
set_option linter.unusedSimpArgs false

/-- A row of the call's own, and an extent in a block of its own. -/
structure Pp (base X : Nat) (v : Value) (n : Nat) (xs : List Value) (f m k t : Int) (w w' : World) : Prop where
  own : w'.ownsRow base 41 4 v n xs
  blk : Blk w' X 41 (c4 f m k t)
  bel : Below base w w'
  le : base ≤ X
theorem Pp.below {base X : Nat} {v : Value} {n : Nat} {xs : List Value} {f m k t : Int} {w w1 w2 : World} (h : Pp base X v n xs f m k t w w1) (hb : Below w1.heap.size w1 w2) : Pp base X v n xs f m k t w w2 :=
  ⟨own_kept h.own hb, h.blk.below hb h.blk.lt, h.bel.trans (hb.mono (Nat.le_trans h.le (Nat.le_of_lt h.blk.lt))), h.le⟩
theorem Pp.cells {base X : Nat} {v : Value} {n : Nat} {xs : List Value} {f m k t : Int} {w : World} (x : Wd (Pp base X v n xs f m k t w)) :
    x.w.cell? ⟨X, 0, none⟩ = some (.int .i64 f) ∧ x.w.cell? ⟨X, 1, none⟩ = some (.int .i64 m) ∧ x.w.cell? ⟨X, 2, none⟩ = some (.int .i64 k) ∧ x.w.cell? ⟨X, 3, none⟩ = some (.int .i64 t) := (cells4 x.ok.blk).1
theorem below_up {B C : Nat} {w w1 w2 : World} (h1 : Below B w w1) (h2 : Below C w1 w2) (hBC : B ≤ C) : Below B w w2 := h1.trans (h2.mono hBC)
theorem clips_take {O : List Ext} {k : Nat} {e : Ext} (h : O[k]? = some e) (a b : Int) : clips (O.take (k + 1)) a b = clips (O.take k) a b ++ clip1 e a b := by
  rw [take_snoc h, clips_append]; simp [clips]

set_option maxHeartbeats 4000000 in
theorem part_any (base : Nat) (L0 O : List Ext) (a b : Int) (v : Value) (A : Option Addr) (len cap : Nat) (w : World) (hlen : len = O.length) (hm : len ≤ 100000000) (hO : ∀ e ∈ O, One e)
    (ha0 : 0 ≤ a) (ha1 : a ≤ 16777216) (hb0 : 0 ≤ b) (hb1 : b ≤ 16777216)
    (hr : ∃ w0, Exs w0 A O ∧ w0.heap.size ≤ base ∧ Below base w0 w) (hown : w.ownsRow base 41 4 v L0.length (exCells L0)) (hb : base ≤ w.heap.size) (hV : ∀ k, Valid (pushAll L0 (clips (O.take k) a b))) :
    Calls Tryz.prog 70 #[v, .slice A len cap, .int .i64 a, .int .i64 b] w (OwnEnd base (pushAll L0 (clips O a b)) w) := by
  have HR := Lib.hid hr
  have HO := Lib.hid hO
  have HL := Lib.hid hlen
  have HV := Lib.hid hV
  clear hr hO hlen hV
  go_enter Tryz.func70, Tryz.ntmps70
  go_wp2
  go_loopw [0, 15] (fun x i wr => ∃ k : Nat, k ≤ len ∧ i = .int .i64 k ∧ (∃ (R : List Ext) (vA : Option Addr) (n vc : Nat), x = .slice vA n vc ∧ Hid (n = R.length) ∧ Hid (R = pushAll L0 (clips (O.take k) a b)) ∧ wr.ownsRow base 41 4 (.slice vA n vc) n (exCells R)) ∧ Below base w wr) (fun _ i _ => len - (intOf i).toNat)
  case atStart =>
    obtain ⟨vA, vc, rfl⟩ := own_slice hown
    exact ⟨0, Nat.zero_le _, rfl, ⟨L0, vA, L0.length, vc, rfl, Lib.hid rfl, Lib.hid (by simp [clips, pushAll]), hown⟩, Below.refl _ _⟩
  case round =>
    obtain ⟨k, hk, rfl, ⟨R, vA, n, vc, rfl, hRn, hR, hownr⟩, hbel⟩ := hrel
    have HR1 := hR
    have HRN := hRn
    clear hR hRn
    by_cases hlt : k < len
    · obtain ⟨e, he⟩ : ∃ e, O[k]? = some e := ⟨_, List.getElem?_eq_getElem (by rw [← HL.out]; exact hlt)⟩
      obtain ⟨w0, hx0, hw0, hbw0⟩ := HR.out
      rcases hx0 with h0 | ⟨bb, off, rfl, hbb, hc⟩
      · rw [h0] at he; simp at he
      · obtain ⟨q0, q1, q2, q3⟩ := (hc k e he).kept (hbw0.trans hbel) (Nat.lt_of_lt_of_le hbb hw0)
        have ho := HO.out e (List.mem_of_getElem? he)
        have o1 := ho.low; have o2 := ho.high; have o3 := ho.pos; have o4 := ho.lt
        have o5 := ho.2
        have HEN := Lib.hid (fun w => end_any e.from_ e.n e.kind e.at_ (by omega) (by unfold fin at *; omega) (by omega) (by unfold fin at *; omega) w)
        have hsz : base ≤ wr.heap.size := Nat.le_trans hb hbel.size
        have HE := Lib.hid he
        have t1 : (k : Int) < (len : Int) := by omega
        have t2 : (0 : Int) ≤ (k : Int) := by omega
        obtain ⟨LO, hLO⟩ : ∃ LO, LO = lo e a := ⟨_, rfl⟩
        obtain ⟨HH, hHH⟩ : ∃ HH, HH = hi e b := ⟨_, rfl⟩
        have hlo : (if e.from_ < a then a else e.from_) = LO := by rw [hLO]; unfold lo; split <;> split <;> omega
        have hhi : (if b < e.from_ + e.n then b else e.from_ + e.n) = HH := by rw [hHH]; unfold hi fin; split <;> split <;> omega
        have l1 : 0 ≤ LO := by rw [← hlo]; split <;> omega
        have l2 : LO ≤ 16777216 := by rw [← hlo]; split <;> (unfold fin at *; omega)
        have l3 : 0 ≤ HH := by rw [← hhi]; split <;> omega
        have l4 : HH ≤ 16777216 := by rw [← hhi]; split <;> (unfold fin at *; omega)
        have HST := Lib.hid (fun w => stretch_any e.from_ e.n e.kind e.at_ LO (HH - LO) o1 (by unfold fin at *; omega) l1 l2 (by omega) (by omega) w)
        have hval : Valid R := by rw [HR1.out]; exact HV.out k
        have HRO := Lib.hid hval.1
        have HRL : Hid (R.length ≤ 100000000) := Lib.hid (by have := wv_len hval.wv; omega)
        clear hc he hbw0 hw0 hbb o4 o5 hval
        by_cases hlt2 : LO < HH
        · have hcl : clip1 e a b = [stretch e LO (HH - LO)] := by unfold clip1; rw [← hLO, ← hHH, if_pos hlt2]
          have HSO : Hid (One (stretch e LO (HH - LO))) := Lib.hid (clip1_mem ho (a := a) (b := b) (by rw [hcl]; exact List.mem_singleton.2 rfl)).1
          have HCL := Lib.hid hcl
          clear hcl hLO hHH ho
          go_wp2
          have hI : Pp base wr.heap.size (.slice vA n vc) n (exCells R) e.from_ e.n e.kind e.at_ w ((wr.alloc (.cells #[.int .i64 e.from_, .int .i64 e.n, .int .i64 e.kind, .int .i64 e.at_] 41)).drew) := ⟨own_kept hownr (below_box wr _).drew, Blk.new wr _ _, (hbel.alloc hsz _).drew, hsz⟩
          have c0 := fun y => (Pp.cells (base := base) (X := wr.heap.size) (v := .slice vA n vc) (n := n) (xs := exCells R) (f := e.from_) (m := e.n) (k := e.kind) (t := e.at_) (w := w) y).1
          have c1 := fun y => (Pp.cells (base := base) (X := wr.heap.size) (v := .slice vA n vc) (n := n) (xs := exCells R) (f := e.from_) (m := e.n) (k := e.kind) (t := e.at_) (w := w) y).2.1
          have c2 := fun y => (Pp.cells (base := base) (X := wr.heap.size) (v := .slice vA n vc) (n := n) (xs := exCells R) (f := e.from_) (m := e.n) (k := e.kind) (t := e.at_) (w := w) y).2.2.1
          have c3 := fun y => (Pp.cells (base := base) (X := wr.heap.size) (v := .slice vA n vc) (n := n) (xs := exCells R) (f := e.from_) (m := e.n) (k := e.kind) (t := e.at_) (w := w) y).2.2.2
          have hNE : Nonempty (Wd (Pp base wr.heap.size (.slice vA n vc) n (exCells R) e.from_ e.n e.kind e.at_ w)) := ⟨⟨_, hI⟩⟩
          have HI := Lib.hid hI
          clear hI hownr
          refine wp_region_inv (Pp base wr.heap.size (.slice vA n vc) n (exCells R) e.from_ e.n e.kind e.at_ w) (by kernel_rfl) (by kernel_rfl) HI.out ?_
          repeat (go_big_quiet_step ((go_at_call 72; with_reducible refine inv_call _ (fun _ _ => Pp.below) (HEN.out _))))
          refine wpQuiet_nil ?_
          intro _ hw'
          obtain ⟨⟨w9, h9⟩, hw''⟩ := hw'
          subst hw''
          have H9 := Lib.hid h9
          obtain ⟨⟨a0, a1, a2, a3⟩, _⟩ := cells4 h9.blk
          clear h9 c0 c1 c2 c3 HI hlo hhi
          go_wp2_with fail
          refine (HST.out _).mono ?_
          rintro r w10 ⟨rfl, hb10⟩
          have own10 := own_kept H9.out.own hb10
          have hs10 : base ≤ w10.heap.size := Nat.le_trans H9.out.le (Nat.le_trans (Nat.le_of_lt H9.out.blk.lt) hb10.size)
          have hb110 := below_up H9.out.bel hb10 (Nat.le_trans H9.out.le (Nat.le_of_lt H9.out.blk.lt))
          have HPU := Lib.hid (push_any base R (stretch e LO (HH - LO)) (.slice vA n vc) w10 (by rw [← HRN.out]; exact own10) hs10 HRO.out HSO.out HRL.out)
          have HB10 := Lib.hid hb110
          clear own10 hs10 hb110 hb10
          go_wp2_with fail
          refine HPU.out.mono ?_
          rintro r w11 ⟨v11, rfl, own11, hb11⟩
          obtain ⟨vA', vc', rfl⟩ := own_slice own11
          obtain ⟨n', hn'⟩ : ∃ n', n' = (push R (stretch e LO (HH - LO))).length := ⟨_, rfl⟩
          rw [← hn'] at own11 ⊢
          have HN' := Lib.hid hn'
          clear hn'
          have HO11 := Lib.hid own11
          have HB11 := Lib.hid (HB10.out.trans hb11)
          clear own11 hb11
          go_wp2
          go_roundw
          case rel => exact ⟨k + 1, by omega, by go_num, ⟨push R (stretch e LO (HH - LO)), vA', n', vc', rfl, HN', Lib.hid (by rw [clips_take HE.out, pushAll_append, ← HR1.out, HCL.out]; rfl), HO11.out⟩, HB11.out⟩
          case measure => simp [intOf]; omega
        · have hcl : clip1 e a b = [] := by unfold clip1; rw [← hLO, ← hHH, if_neg hlt2]
          have HCL := Lib.hid hcl
          have hlf : decide (LO < HH) = false := decide_eq_false hlt2
          clear hcl hLO hHH ho
          go_wp2
          have hI : Pp base wr.heap.size (.slice vA n vc) n (exCells R) e.from_ e.n e.kind e.at_ w ((wr.alloc (.cells #[.int .i64 e.from_, .int .i64 e.n, .int .i64 e.kind, .int .i64 e.at_] 41)).drew) := ⟨own_kept hownr (below_box wr _).drew, Blk.new wr _ _, (hbel.alloc hsz _).drew, hsz⟩
          have c0 := fun y => (Pp.cells (base := base) (X := wr.heap.size) (v := .slice vA n vc) (n := n) (xs := exCells R) (f := e.from_) (m := e.n) (k := e.kind) (t := e.at_) (w := w) y).1
          have c1 := fun y => (Pp.cells (base := base) (X := wr.heap.size) (v := .slice vA n vc) (n := n) (xs := exCells R) (f := e.from_) (m := e.n) (k := e.kind) (t := e.at_) (w := w) y).2.1
          have c2 := fun y => (Pp.cells (base := base) (X := wr.heap.size) (v := .slice vA n vc) (n := n) (xs := exCells R) (f := e.from_) (m := e.n) (k := e.kind) (t := e.at_) (w := w) y).2.2.1
          have c3 := fun y => (Pp.cells (base := base) (X := wr.heap.size) (v := .slice vA n vc) (n := n) (xs := exCells R) (f := e.from_) (m := e.n) (k := e.kind) (t := e.at_) (w := w) y).2.2.2
          have hNE : Nonempty (Wd (Pp base wr.heap.size (.slice vA n vc) n (exCells R) e.from_ e.n e.kind e.at_ w)) := ⟨⟨_, hI⟩⟩
          have HI := Lib.hid hI
          clear hI hownr
          refine wp_region_inv (Pp base wr.heap.size (.slice vA n vc) n (exCells R) e.from_ e.n e.kind e.at_ w) (by kernel_rfl) (by kernel_rfl) HI.out ?_
          repeat (go_big_quiet_step ((go_at_call 72; with_reducible refine inv_call _ (fun _ _ => Pp.below) (HEN.out _))))
          refine wpQuiet_nil ?_
          intro _ hw'
          obtain ⟨⟨w9, h9⟩, hw''⟩ := hw'
          subst hw''
          have H9 := Lib.hid h9
          obtain ⟨⟨a0, a1, a2, a3⟩, _⟩ := cells4 h9.blk
          clear h9 c0 c1 c2 c3 HI hlo hhi
          go_wp2
          go_roundw
          case rel => exact ⟨k + 1, by omega, by go_num, ⟨R, vA, n, vc, rfl, HRN, Lib.hid (by rw [clips_take HE.out, pushAll_append, ← HR1.out, HCL.out]; rfl), H9.out.own⟩, H9.out.bel⟩
          case measure => simp [intOf]; omega
    · obtain rfl : k = len := by omega
      have i0 : ¬ (k : Int) < (k : Int) := by omega
      have hfin : R = pushAll L0 (clips O a b) := by rw [HR1.out, List.take_of_length_le (by rw [← HL.out]; exact Nat.le_refl _)]
      have HF := Lib.hid hfin
      have HOW := Lib.hid hownr
      clear hfin hownr
      go_wp2
      go_ret
      exact ⟨_, rfl, by rw [← HF.out, ← HRN.out]; exact HOW.out, hbel⟩
end EX
end Go.Proofs.YtdjlflinepefbabGreat
