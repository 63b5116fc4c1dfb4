/- What leaf.stands and leaf.innerMayBe answer, of any kids. No condition but those that each theorem names. -/
import Derived.Test.YtmndbdkodijlbaaLfA
import Derived.Test.YtmndbdkodijlbaaExR2
namespace Go.Proofs.Ytmndbdkodijlbaa
open Go.RowKit
namespace LF
open MM FM EX
set_option linter.unusedVariables false
set_option linter.unusedSimpArgs false

theorem bkept {w w1 w2 : World} (h1 : Below w.heap.size w w1) (h2 : Below w1.heap.size w1 w2) : Below w.heap.size w w2 := h1.trans (h2.mono h1.size)
theorem cells2 {w : World} {g : Nat} {t : TypeId} {a0 a1 : Value} (h : Blk w g t #[a0, a1]) :
    (w.cell? ⟨g, 0, none⟩ = some a0 ∧ w.cell? ⟨g, 1, none⟩ = some a1) ∧ w.frozen? ⟨g, 0, none⟩ = false ∧ w.frozen? ⟨g, 1, none⟩ = false := ⟨⟨h.cell 0, h.cell 1⟩, h.frozen 0, h.frozen 1⟩
set_option maxHeartbeats 1000000 in
theorem stands1_any (k t s : Int) (X : Nat) (w : World) (hX : X < w.heap.size) (hs : w.cell? ⟨X, 0, none⟩ = some (.int .i64 s)) :
    Calls Try.prog 64 #[.agg #[.int .i64 k, .int .i64 t], .pointer (some ⟨X, 0, none⟩)] w fun r w' => r = .returned (.bool (decide (t = s))) ∧ Below w.heap.size w w' := by
  have hs1 : (w.alloc (.cells #[.int .i64 k, .int .i64 t] 57)).cell? ⟨X, 0, none⟩ = some (.int .i64 s) := ((below_box w _).cell (p := ⟨X, 0, none⟩) hX).trans hs
  go_enter Try.func64, Try.ntmps64
  go_wp2
  go_ret
  refine ⟨?_, below_box _ _⟩
  by_cases h : t = s
  · subst h; simp
  · simp [h]

set_option maxHeartbeats 2000000 in
theorem kindex_any (L : List Kid) (len cap : Nat) (hlen : len = L.length) (hm : len ≤ maxLen) (a : Option Addr) (s : Int) (X : Nat) (w : World) (hr : Kds w a L) (hX : X < w.heap.size) (hs : w.cell? ⟨X, 0, none⟩ = some (.int .i64 s)) :
    Calls Try.prog 72 #[.slice a len cap, .func (.func 64) #[] #[.pointer (some ⟨X, 0, none⟩)]] w fun r w' => ∃ i : Int, r = .returned (.int .i64 i) ∧ (0 ≤ i ↔ ∃ x ∈ L, x.at_ = s) ∧ Below w.heap.size w w' := by
  unfold maxLen at hm
  have HR := Lib.hid hr
  have HL := Lib.hid hlen
  have HS := Lib.hid hs
  have HXX := Lib.hid hX
  clear hr hlen hs hX
  go_enter Try.func72, Try.ntmps72
  go_wp2
  go_loopw [8] (fun i wr => ∃ k : Nat, k ≤ len ∧ i = .int .i64 k ∧ Below w.heap.size w wr ∧ Hid (∀ x ∈ L.take k, x.at_ ≠ s)) (fun i _ => len - (intOf i).toNat)
  case atStart => exact ⟨0, Nat.zero_le _, rfl, Below.refl _ _, Lib.hid fun x hx => by simp at hx⟩
  case round =>
    obtain ⟨k, hk, rfl, hbel, hno⟩ := hrel
    by_cases hlt : k < len
    · obtain ⟨e, he⟩ : ∃ e, L[k]? = some e := ⟨_, List.getElem?_eq_getElem (by rw [← HL.out]; omega)⟩
      obtain ⟨b, off, rfl, hb, hc⟩ := kds_get HR.out he
      obtain ⟨q0, q1⟩ := (hc k e he).kept hbel hb
      have HF := Lib.hid (stands1_any e.key e.at_ s X wr (Nat.lt_of_lt_of_le HXX.out hbel.size) ((hbel.cell (p := ⟨X, 0, none⟩) HXX.out).trans HS.out))
      have HB := Lib.hid hbel
      have HE := Lib.hid he
      have t1 : (k : Int) < (len : Int) := by omega
      have t2 : (0 : Int) ≤ (k : Int) := by omega
      clear hc hbel he
      by_cases hs : e.at_ = s
      · rw [decide_eq_true hs] at HF
        have HSE := Lib.hid hs
        clear hs
        go_wp2_with fail
        refine HF.out.mono ?_
        rintro r w1 ⟨rfl, hb1⟩
        have HB1 := Lib.hid (bkept HB.out hb1)
        have hin : Hid (∃ x ∈ L, x.at_ = s) := Lib.hid ⟨e, List.mem_of_getElem? HE.out, HSE.out⟩
        clear hb1 HF
        go_wp2
        go_ret
        exact ⟨_, rfl, ⟨fun _ => hin.out, fun _ => by omega⟩, HB1.out⟩
      · rw [decide_eq_false hs] at HF
        have hno' : Hid (∀ x ∈ L.take (k + 1), x.at_ ≠ s) := Lib.hid fun x hx => by
          rw [List.take_add_one, HE.out] at hx
          rcases List.mem_append.1 hx with hx | hx
          · exact hno.out x hx
          · simp at hx; rw [hx]; exact hs
        go_wp2_with fail
        refine HF.out.mono ?_
        rintro r w1 ⟨rfl, hb1⟩
        have HB1 := Lib.hid (bkept HB.out hb1)
        clear hb1 HF
        go_wp2
        go_roundw
        case rel => exact ⟨k + 1, by omega, by go_num, HB1.out, hno'⟩
        case measure => simp [intOf]; omega
    · obtain rfl : k = len := by omega
      have i0 : ¬ (k : Int) < (k : Int) := by omega
      go_wp2
      go_ret
      refine ⟨_, rfl, ⟨fun h => by omega, fun ⟨x, hx, hs⟩ => ?_⟩, hbel⟩
      have := hno.out x (by rw [List.take_of_length_le (by rw [← HL.out]; exact Nat.le_refl _)]; exact hx)
      exact absurd hs this
theorem contains_any (L : List Kid) (len cap : Nat) (hlen : len = L.length) (hm : len ≤ maxLen) (a : Option Addr) (s : Int) (X : Nat) (w : World) (hr : Kds w a L) (hX : X < w.heap.size) (hs : w.cell? ⟨X, 0, none⟩ = some (.int .i64 s)) :
    Calls Try.prog 63 #[.slice a len cap, .func (.func 64) #[] #[.pointer (some ⟨X, 0, none⟩)]] w fun r w' => r = .returned (.bool (decide (∃ x ∈ L, x.at_ = s))) ∧ Below w.heap.size w w' := by
  have HC := Lib.hid (kindex_any L len cap hlen hm a s X w hr hX hs)
  clear hr hs hlen
  go_enter Try.func63, Try.ntmps63
  go_wp2_with fail
  refine HC.out.mono ?_
  rintro e w1 ⟨i, rfl, hi, hb1⟩
  have HI := Lib.hid hi
  clear hi
  by_cases h : 0 ≤ i
  · go_wp2
    go_ret
    exact ⟨by rw [decide_eq_true (HI.out.1 h)]; rfl, hb1⟩
  · have h' : decide (0 ≤ i) = false := decide_eq_false h
    go_wp2
    go_ret
    exact ⟨by rw [decide_eq_false (fun x => absurd (HI.out.2 x) (by omega))]; rfl, hb1⟩
theorem stands_any (L : List Kid) (len cap : Nat) (hlen : len = L.length) (hm : len ≤ maxLen) (a : Option Addr) (s : Int) (w : World) (hr : Kds w a L) :
    Calls Try.prog 49 #[.slice a len cap, .int .i64 s] w fun r w' => r = .returned (.bool (decide (∃ x ∈ L, x.at_ = s))) ∧ Below w.heap.size w w' := by
  have HC := Lib.hid (contains_any L len cap hlen hm a s w.heap.size (w.alloc (.cells #[.int .i64 s] 3)) (hr.below (below_box w _)) (Blk.new w _ _).lt ((Blk.new w _ _).cell 0))
  clear hr hlen
  go_enter Try.func49, Try.ntmps49
  go_wp2_with fail
  refine HC.out.mono ?_
  rintro e w1 ⟨rfl, hb1⟩
  have HB := Lib.hid (bkept (below_box w _) hb1)
  clear hb1
  go_wp2
  go_ret
  exact ⟨rfl, HB.out⟩

/-- A kid in a block of its own, all that was there as it was. -/
structure Kk (w : World) (X : Nat) (k t : Int) (w' : World) : Prop where
  blk : Blk w' X 57 #[.int .i64 k, .int .i64 t]
  le : w.heap.size ≤ X
  bel : Below w.heap.size w w'
theorem Kk.below {w : World} {X : Nat} {k t : Int} {w1 w2 : World} (h : Kk w X k t w1) (hb : Below w1.heap.size w1 w2) : Kk w X k t w2 :=
  ⟨h.blk.below hb h.blk.lt, h.le, h.bel.trans (hb.mono (Nat.le_trans h.le (Nat.le_of_lt h.blk.lt)))⟩
theorem getD_at {L : List Kid} {k : Nat} {e : Kid} (h : L[k]? = some e) : L.getD k default = e := by rw [List.getD_eq_getElem?_getD, h]; rfl
theorem ok_at {L : List Kid} {k : Nat} {e : Kid} (he : L[k]? = some e) : OkAt L k ↔ InK e ∧ (0 < k → (L.getD (k - 1) default).key < e.key) ∧ ¬ ∃ x ∈ L.take k, x.at_ = e.at_ := by
  have hk : k < L.length := by
    rcases Nat.lt_or_ge k L.length with h | h
    · exact h
    · rw [List.getElem?_eq_none h] at he; cases he
  unfold OkAt
  rw [getD_at he]
  refine and_congr Iff.rfl (and_congr Iff.rfl ⟨?_, ?_⟩)
  · rintro h ⟨x, hx, hxe⟩
    obtain ⟨j, hj, rfl⟩ := List.mem_iff_getElem.1 hx
    rw [List.length_take] at hj
    have := h j (by omega)
    rw [List.getD_eq_getElem?_getD, List.getElem?_eq_getElem (by omega)] at this
    rw [List.getElem_take] at hxe
    exact this hxe
  · intro h j hj hje
    rw [List.getD_eq_getElem?_getD, List.getElem?_eq_getElem (by omega)] at hje
    exact h ⟨L[j], by rw [List.mem_iff_getElem]; exact ⟨j, by rw [List.length_take]; omega, by rw [List.getElem_take]⟩, hje⟩
theorem kids_false {L : List Kid} {k : Nat} (hk : k < L.length) (h : ¬ OkAt L k) : ¬ Kidy L := fun x => h (x.2 k hk)
set_option maxHeartbeats 8000000 in
theorem innerMayBe_any (L : List Kid) (len cap : Nat) (hlen : len = L.length) (hm : len ≤ maxLen) (hcap : len ≤ cap) (a : Option Addr) (w : World) (hr : Kds w a L) :
    Calls Try.prog 31 #[.slice a len cap] w fun e w' => e = .returned (.bool (decide (Kidy L))) ∧ Below w.heap.size w w' := by
  have HM := Lib.hid hm
  unfold maxLen at hm
  obtain ⟨V, hV⟩ : ∃ V, V = decide (Kidy L) := ⟨_, rfl⟩
  rw [← hV]
  have HV := Lib.hid hV
  have HR := Lib.hid hr
  have HL := Lib.hid hlen
  have HW := Lib.hid (lwithin_any len 2 8)
  clear hV hr hlen
  by_cases h1 : (2 : Int) ≤ (len : Int) ∧ (len : Int) ≤ 8
  · rw [decide_eq_true h1] at HW
    have H1 := Lib.hid h1
    clear h1
    go_enter Try.func31, Try.ntmps31
    go_wp2_with fail
    refine (HW.out _).mono ?_
    rintro e w1 ⟨rfl, rfl⟩
    go_wp2
    go_loopw [11] (fun i wr => ∃ k : Nat, k ≤ len ∧ i = .int .i64 k ∧ Hid (∀ i, i < k → OkAt L i) ∧ Below w.heap.size w wr) (fun i _ => len - (intOf i).toNat)
    case atStart => exact ⟨0, Nat.zero_le _, rfl, Lib.hid (fun i hi => by omega), Below.refl _ _⟩
    case round =>
      obtain ⟨k, hk, rfl, hval, hbel⟩ := hrel
      by_cases hlt : k < len
      · obtain ⟨e, he⟩ : ∃ e, L[k]? = some e := ⟨_, List.getElem?_eq_getElem (by rw [← HL.out]; exact hlt)⟩
        obtain ⟨b, off, rfl, hb, hc⟩ := kds_get HR.out he
        obtain ⟨q0, q1⟩ := (hc k e he).kept hbel hb
        have HC := Lib.hid hc
        have HA := Lib.hid (ok_at he)
        have HE := Lib.hid he
        have HKL : Hid (k < L.length) := Lib.hid (by rw [← HL.out]; exact hlt)
        have W1 := Lib.hid (lwithin_any e.key 0 16777215)
        have W2 := Lib.hid (lwithin_any e.at_ 0 2047)
        have t1 : (k : Int) < (len : Int) := by omega
        have t2 : (0 : Int) ≤ (k : Int) := by omega
        clear hc he
        by_cases h1 : 0 ≤ e.key ∧ e.key ≤ 16777215
        · rw [decide_eq_true h1] at W1
          have H2 := Lib.hid h1
          clear h1
          by_cases h2 : 0 ≤ e.at_ ∧ e.at_ ≤ 2047
          · rw [decide_eq_true h2] at W2
            have H3 := Lib.hid h2
            clear h2
            have HST : Hid (∀ w' : World, Kds w' (some ⟨b, off, none⟩) (L.take k) → Calls Try.prog 49 #[.slice (some ⟨b, off, none⟩) k cap, .int .i64 e.at_] w' fun r w'' => r = .returned (.bool (decide (∃ x ∈ L.take k, x.at_ = e.at_))) ∧ Below w'.heap.size w' w'') :=
              Lib.hid fun w' h => stands_any (L.take k) k cap (by rw [List.length_take, ← HL.out]; omega) (by unfold maxLen; omega) _ _ w' h
            have HTK : Hid (∀ w' : World, Below w.heap.size w w' → Kds w' (some ⟨b, off, none⟩) (L.take k)) := Lib.hid fun w' h => by
              refine .inr ⟨b, off, rfl, Nat.lt_of_lt_of_le hb h.size, fun i x hx => ?_⟩
              rw [List.getElem?_take] at hx
              split at hx
              · exact (HC.out i x hx).kept h hb
              · cases hx
            have t3 : (k : Int) ≤ (cap : Int) := by omega
            by_cases hs : ∃ x ∈ L.take k, x.at_ = e.at_
            · rw [decide_eq_true hs] at HST
              have hv : Hid (V = false) := Lib.hid (by rw [HV.out]; exact decide_eq_false (kids_false HKL.out fun h => (HA.out.1 h).2.2 hs))
              clear hs
              rcases Nat.eq_zero_or_pos k with h0 | hpos
              · subst h0
                simp only [Nat.zero_mul, Nat.add_zero] at q0 q1
                go_wp2_with fail
                refine (W1.out _).mono ?_
                rintro _ _ ⟨rfl, rfl⟩
                go_wp2_with fail
                refine (W2.out _).mono ?_
                rintro _ _ ⟨rfl, rfl⟩
                go_wp2
                have hI : Kk w wr.heap.size e.key e.at_ ((wr.alloc (.cells #[.int .i64 e.key, .int .i64 e.at_] 57)).drew) := ⟨Blk.new wr _ _, hbel.size, (hbel.alloc hbel.size _).drew⟩
                have c0 := fun x : Wd (Kk w wr.heap.size e.key e.at_) => x.ok.blk.cell 0
                have c1 := fun x : Wd (Kk w wr.heap.size e.key e.at_) => x.ok.blk.cell 1
                have c0' : ∀ x : Wd (Kk w wr.heap.size e.key e.at_), x.w.cell? ⟨wr.heap.size, 0, none⟩ = some (.int .i64 e.key) := c0
                have c1' : ∀ x : Wd (Kk w wr.heap.size e.key e.at_), x.w.cell? ⟨wr.heap.size, 1, none⟩ = some (.int .i64 e.at_) := c1
                have hz : decide ((0 : Int) < ((0 : Nat) : Int)) = false := rfl
                have HSX := Lib.hid (fun x : Wd (Kk w wr.heap.size e.key e.at_) => HST.out x.w (HTK.out x.w x.ok.bel))
                have hNE : Nonempty (Wd (Kk w wr.heap.size e.key e.at_)) := ⟨⟨_, hI⟩⟩
                have HI := Lib.hid hI
                clear hI c0 c1
                refine wp_region_inv (Kk w wr.heap.size e.key e.at_) (by kernel_rfl) (by kernel_rfl) HI.out ?_
                repeat (go_big_quiet_step ((go_at_call 49; with_reducible refine inv_call _ (fun _ _ => Kk.below) (HSX.out _))))
                refine wpQuiet_nil ?_
                intro _ hw'
                obtain ⟨⟨w9, h9⟩, hw''⟩ := hw'
                subst hw''
                have H9 := Lib.hid h9.bel
                clear h9 c0' c1'  HI
                go_wp2
                go_ret
                exact ⟨by rw [hv.out]; rfl, H9.out⟩
              · obtain ⟨j, rfl⟩ : ∃ j, k = j + 1 := ⟨k - 1, by omega⟩
                obtain ⟨p, hp⟩ : ∃ p, L[j]? = some p := ⟨_, List.getElem?_eq_getElem (by rw [← HL.out]; omega)⟩
                have P0 := Lib.hid (HC.out j p hp)
                have e9 : IntKind.i64.wrap (((j + 1 : Nat) : Int) - 1) = (j : Int) := by rw [IntWalk.i64_in _ (by omega)]; omega
                have e10 : (0 : Int) ≤ (j : Int) := by omega
                have e11 : (j : Int) < (len : Int) := by omega
                have e12 : (0 : Int) < ((j + 1 : Nat) : Int) := by omega
                clear hp
                by_cases hle : e.key ≤ p.key
                · have hle' : decide (e.key ≤ p.key) = true := decide_eq_true hle
                  go_wp2_with fail
                  refine (W1.out _).mono ?_
                  rintro _ _ ⟨rfl, rfl⟩
                  go_wp2_with fail
                  refine (W2.out _).mono ?_
                  rintro _ _ ⟨rfl, rfl⟩
                  go_wp2
                  have hI : Kk w wr.heap.size e.key e.at_ ((wr.alloc (.cells #[.int .i64 e.key, .int .i64 e.at_] 57)).drew) := ⟨Blk.new wr _ _, hbel.size, (hbel.alloc hbel.size _).drew⟩
                  have c0 := fun x : Wd (Kk w wr.heap.size e.key e.at_) => x.ok.blk.cell 0
                  have c1 := fun x : Wd (Kk w wr.heap.size e.key e.at_) => x.ok.blk.cell 1
                  have c0' : ∀ x : Wd (Kk w wr.heap.size e.key e.at_), x.w.cell? ⟨wr.heap.size, 0, none⟩ = some (.int .i64 e.key) := c0
                  have c1' : ∀ x : Wd (Kk w wr.heap.size e.key e.at_), x.w.cell? ⟨wr.heap.size, 1, none⟩ = some (.int .i64 e.at_) := c1
                  have d0 := fun x : Wd (Kk w wr.heap.size e.key e.at_) => (x.ok.bel.cell (p := ⟨b, off + j * 2, none⟩) hb).trans P0.out.1
                  have HSX := Lib.hid (fun x : Wd (Kk w wr.heap.size e.key e.at_) => HST.out x.w (HTK.out x.w x.ok.bel))
                  have hNE : Nonempty (Wd (Kk w wr.heap.size e.key e.at_)) := ⟨⟨_, hI⟩⟩
                  have HI := Lib.hid hI
                  clear hI c0 c1
                  refine wp_region_inv (Kk w wr.heap.size e.key e.at_) (by kernel_rfl) (by kernel_rfl) HI.out ?_
                  repeat (go_big_quiet_step ((go_at_call 49; with_reducible refine inv_call _ (fun _ _ => Kk.below) (HSX.out _))))
                  refine wpQuiet_nil ?_
                  intro _ hw'
                  obtain ⟨⟨w9, h9⟩, hw''⟩ := hw'
                  subst hw''
                  have H9 := Lib.hid h9.bel
                  clear h9 c0' c1' d0 HI
                  go_wp2
                  go_ret
                  exact ⟨by rw [hv.out]; rfl, H9.out⟩
                · have hle' : decide (e.key ≤ p.key) = false := decide_eq_false hle
                  go_wp2_with fail
                  refine (W1.out _).mono ?_
                  rintro _ _ ⟨rfl, rfl⟩
                  go_wp2_with fail
                  refine (W2.out _).mono ?_
                  rintro _ _ ⟨rfl, rfl⟩
                  go_wp2
                  have hI : Kk w wr.heap.size e.key e.at_ ((wr.alloc (.cells #[.int .i64 e.key, .int .i64 e.at_] 57)).drew) := ⟨Blk.new wr _ _, hbel.size, (hbel.alloc hbel.size _).drew⟩
                  have c0 := fun x : Wd (Kk w wr.heap.size e.key e.at_) => x.ok.blk.cell 0
                  have c1 := fun x : Wd (Kk w wr.heap.size e.key e.at_) => x.ok.blk.cell 1
                  have c0' : ∀ x : Wd (Kk w wr.heap.size e.key e.at_), x.w.cell? ⟨wr.heap.size, 0, none⟩ = some (.int .i64 e.key) := c0
                  have c1' : ∀ x : Wd (Kk w wr.heap.size e.key e.at_), x.w.cell? ⟨wr.heap.size, 1, none⟩ = some (.int .i64 e.at_) := c1
                  have d0 := fun x : Wd (Kk w wr.heap.size e.key e.at_) => (x.ok.bel.cell (p := ⟨b, off + j * 2, none⟩) hb).trans P0.out.1
                  have HSX := Lib.hid (fun x : Wd (Kk w wr.heap.size e.key e.at_) => HST.out x.w (HTK.out x.w x.ok.bel))
                  have hNE : Nonempty (Wd (Kk w wr.heap.size e.key e.at_)) := ⟨⟨_, hI⟩⟩
                  have HI := Lib.hid hI
                  clear hI c0 c1
                  refine wp_region_inv (Kk w wr.heap.size e.key e.at_) (by kernel_rfl) (by kernel_rfl) HI.out ?_
                  repeat (go_big_quiet_step ((go_at_call 49; with_reducible refine inv_call _ (fun _ _ => Kk.below) (HSX.out _))))
                  refine wpQuiet_nil ?_
                  intro _ hw'
                  obtain ⟨⟨w9, h9⟩, hw''⟩ := hw'
                  subst hw''
                  have H9 := Lib.hid h9.bel
                  clear h9 c0' c1' d0 HI
                  go_wp2
                  go_ret
                  exact ⟨by rw [hv.out]; rfl, H9.out⟩
            · rw [decide_eq_false hs] at HST
              have HNS := Lib.hid hs
              clear hs
              rcases Nat.eq_zero_or_pos k with h0 | hpos
              · subst h0
                simp only [Nat.zero_mul, Nat.add_zero] at q0 q1
                have hok : Hid (OkAt L 0) := Lib.hid (HA.out.2 ⟨⟨H2.out, H3.out⟩, fun h => by omega, HNS.out⟩)
                go_wp2_with fail
                refine (W1.out _).mono ?_
                rintro _ _ ⟨rfl, rfl⟩
                go_wp2_with fail
                refine (W2.out _).mono ?_
                rintro _ _ ⟨rfl, rfl⟩
                go_wp2
                have hI : Kk w wr.heap.size e.key e.at_ ((wr.alloc (.cells #[.int .i64 e.key, .int .i64 e.at_] 57)).drew) := ⟨Blk.new wr _ _, hbel.size, (hbel.alloc hbel.size _).drew⟩
                have c0 := fun x : Wd (Kk w wr.heap.size e.key e.at_) => x.ok.blk.cell 0
                have c1 := fun x : Wd (Kk w wr.heap.size e.key e.at_) => x.ok.blk.cell 1
                have c0' : ∀ x : Wd (Kk w wr.heap.size e.key e.at_), x.w.cell? ⟨wr.heap.size, 0, none⟩ = some (.int .i64 e.key) := c0
                have c1' : ∀ x : Wd (Kk w wr.heap.size e.key e.at_), x.w.cell? ⟨wr.heap.size, 1, none⟩ = some (.int .i64 e.at_) := c1
                have hz : decide ((0 : Int) < ((0 : Nat) : Int)) = false := rfl
                have HSX := Lib.hid (fun x : Wd (Kk w wr.heap.size e.key e.at_) => HST.out x.w (HTK.out x.w x.ok.bel))
                have hNE : Nonempty (Wd (Kk w wr.heap.size e.key e.at_)) := ⟨⟨_, hI⟩⟩
                have HI := Lib.hid hI
                clear hI c0 c1
                refine wp_region_inv (Kk w wr.heap.size e.key e.at_) (by kernel_rfl) (by kernel_rfl) HI.out ?_
                repeat (go_big_quiet_step ((go_at_call 49; with_reducible refine inv_call _ (fun _ _ => Kk.below) (HSX.out _))))
                refine wpQuiet_nil ?_
                intro _ hw'
                obtain ⟨⟨w9, h9⟩, hw''⟩ := hw'
                subst hw''
                have H9 := Lib.hid h9.bel
                clear h9 c0' c1'  HI
                go_wp2
                go_roundw
                case rel => exact ⟨1, by omega, by go_num, Lib.hid (fun i hi => by
                    by_cases hik : i = 0
                    · rw [hik]; exact hok.out
                    · exact hval.out i (by omega)), H9.out⟩
                case measure => simp [intOf]; omega
              · obtain ⟨j, rfl⟩ : ∃ j, k = j + 1 := ⟨k - 1, by omega⟩
                obtain ⟨p, hp⟩ : ∃ p, L[j]? = some p := ⟨_, List.getElem?_eq_getElem (by rw [← HL.out]; omega)⟩
                have P0 := Lib.hid (HC.out j p hp)
                have HPD := Lib.hid (getD_at hp)
                have e9 : IntKind.i64.wrap (((j + 1 : Nat) : Int) - 1) = (j : Int) := by rw [IntWalk.i64_in _ (by omega)]; omega
                have e10 : (0 : Int) ≤ (j : Int) := by omega
                have e11 : (j : Int) < (len : Int) := by omega
                have e12 : (0 : Int) < ((j + 1 : Nat) : Int) := by omega
                clear hp
                by_cases hle : e.key ≤ p.key
                · have hle' : decide (e.key ≤ p.key) = true := decide_eq_true hle
                  have hv : Hid (V = false) := Lib.hid (by rw [HV.out]; exact decide_eq_false (kids_false HKL.out fun h => by have := (HA.out.1 h).2.1 (by omega); rw [show j + 1 - 1 = j from rfl, HPD.out] at this; omega))
                  go_wp2_with fail
                  refine (W1.out _).mono ?_
                  rintro _ _ ⟨rfl, rfl⟩
                  go_wp2_with fail
                  refine (W2.out _).mono ?_
                  rintro _ _ ⟨rfl, rfl⟩
                  go_wp2
                  have hI : Kk w wr.heap.size e.key e.at_ ((wr.alloc (.cells #[.int .i64 e.key, .int .i64 e.at_] 57)).drew) := ⟨Blk.new wr _ _, hbel.size, (hbel.alloc hbel.size _).drew⟩
                  have c0 := fun x : Wd (Kk w wr.heap.size e.key e.at_) => x.ok.blk.cell 0
                  have c1 := fun x : Wd (Kk w wr.heap.size e.key e.at_) => x.ok.blk.cell 1
                  have c0' : ∀ x : Wd (Kk w wr.heap.size e.key e.at_), x.w.cell? ⟨wr.heap.size, 0, none⟩ = some (.int .i64 e.key) := c0
                  have c1' : ∀ x : Wd (Kk w wr.heap.size e.key e.at_), x.w.cell? ⟨wr.heap.size, 1, none⟩ = some (.int .i64 e.at_) := c1
                  have d0 := fun x : Wd (Kk w wr.heap.size e.key e.at_) => (x.ok.bel.cell (p := ⟨b, off + j * 2, none⟩) hb).trans P0.out.1
                  have HSX := Lib.hid (fun x : Wd (Kk w wr.heap.size e.key e.at_) => HST.out x.w (HTK.out x.w x.ok.bel))
                  have hNE : Nonempty (Wd (Kk w wr.heap.size e.key e.at_)) := ⟨⟨_, hI⟩⟩
                  have HI := Lib.hid hI
                  clear hI c0 c1
                  refine wp_region_inv (Kk w wr.heap.size e.key e.at_) (by kernel_rfl) (by kernel_rfl) HI.out ?_
                  repeat (go_big_quiet_step ((go_at_call 49; with_reducible refine inv_call _ (fun _ _ => Kk.below) (HSX.out _))))
                  refine wpQuiet_nil ?_
                  intro _ hw'
                  obtain ⟨⟨w9, h9⟩, hw''⟩ := hw'
                  subst hw''
                  have H9 := Lib.hid h9.bel
                  clear h9 c0' c1' d0 HI
                  go_wp2
                  go_ret
                  exact ⟨by rw [hv.out]; rfl, H9.out⟩
                · have hle' : decide (e.key ≤ p.key) = false := decide_eq_false hle
                  have hok : Hid (OkAt L (j + 1)) := Lib.hid (HA.out.2 ⟨⟨H2.out, H3.out⟩, fun _ => by rw [show j + 1 - 1 = j from rfl, HPD.out]; omega, HNS.out⟩)
                  go_wp2_with fail
                  refine (W1.out _).mono ?_
                  rintro _ _ ⟨rfl, rfl⟩
                  go_wp2_with fail
                  refine (W2.out _).mono ?_
                  rintro _ _ ⟨rfl, rfl⟩
                  go_wp2
                  have hI : Kk w wr.heap.size e.key e.at_ ((wr.alloc (.cells #[.int .i64 e.key, .int .i64 e.at_] 57)).drew) := ⟨Blk.new wr _ _, hbel.size, (hbel.alloc hbel.size _).drew⟩
                  have c0 := fun x : Wd (Kk w wr.heap.size e.key e.at_) => x.ok.blk.cell 0
                  have c1 := fun x : Wd (Kk w wr.heap.size e.key e.at_) => x.ok.blk.cell 1
                  have c0' : ∀ x : Wd (Kk w wr.heap.size e.key e.at_), x.w.cell? ⟨wr.heap.size, 0, none⟩ = some (.int .i64 e.key) := c0
                  have c1' : ∀ x : Wd (Kk w wr.heap.size e.key e.at_), x.w.cell? ⟨wr.heap.size, 1, none⟩ = some (.int .i64 e.at_) := c1
                  have d0 := fun x : Wd (Kk w wr.heap.size e.key e.at_) => (x.ok.bel.cell (p := ⟨b, off + j * 2, none⟩) hb).trans P0.out.1
                  have HSX := Lib.hid (fun x : Wd (Kk w wr.heap.size e.key e.at_) => HST.out x.w (HTK.out x.w x.ok.bel))
                  have hNE : Nonempty (Wd (Kk w wr.heap.size e.key e.at_)) := ⟨⟨_, hI⟩⟩
                  have HI := Lib.hid hI
                  clear hI c0 c1
                  refine wp_region_inv (Kk w wr.heap.size e.key e.at_) (by kernel_rfl) (by kernel_rfl) HI.out ?_
                  repeat (go_big_quiet_step ((go_at_call 49; with_reducible refine inv_call _ (fun _ _ => Kk.below) (HSX.out _))))
                  refine wpQuiet_nil ?_
                  intro _ hw'
                  obtain ⟨⟨w9, h9⟩, hw''⟩ := hw'
                  subst hw''
                  have H9 := Lib.hid h9.bel
                  clear h9 c0' c1' d0 HI
                  go_wp2
                  go_roundw
                  case rel => exact ⟨j + 1 + 1, by omega, by go_num, Lib.hid (fun i hi => by
                      by_cases hik : i = j + 1
                      · rw [hik]; exact hok.out
                      · exact hval.out i (by omega)), H9.out⟩
                  case measure => simp [intOf]; omega
          · rw [decide_eq_false h2] at W2
            have hv : Hid (V = false) := Lib.hid (by rw [HV.out]; exact decide_eq_false (kids_false HKL.out fun h => h2 (HA.out.1 h).1.2))
            clear h2
            have hb8 := (hbel.alloc hbel.size (.cells #[.int .i64 e.key, .int .i64 e.at_] 57))
            have HB8 := Lib.hid hb8
            clear hb8
            go_wp2_with fail
            refine (W1.out _).mono ?_
            rintro e w1 ⟨rfl, rfl⟩
            go_wp2_with fail
            refine (W2.out _).mono ?_
            rintro e w1 ⟨rfl, rfl⟩
            go_wp2
            go_ret
            exact ⟨by rw [hv.out]; rfl, HB8.out⟩
        · rw [decide_eq_false h1] at W1
          have hv : Hid (V = false) := Lib.hid (by rw [HV.out]; exact decide_eq_false (kids_false HKL.out fun h => h1 (HA.out.1 h).1.1))
          clear h1
          have hb8 := (hbel.alloc hbel.size (.cells #[.int .i64 e.key, .int .i64 e.at_] 57))
          have HB8 := Lib.hid hb8
          clear hb8
          go_wp2_with fail
          refine (W1.out _).mono ?_
          rintro e w1 ⟨rfl, rfl⟩
          go_wp2
          go_ret
          exact ⟨by rw [hv.out]; rfl, HB8.out⟩
      · obtain rfl : k = len := by omega
        have hv : V = true := by rw [HV.out]; exact decide_eq_true ⟨by rw [← HL.out]; have := H1.out; omega, fun i hi => hval.out i (by rw [HL.out]; exact hi)⟩
        have HVT := Lib.hid hv
        clear hv
        have i0 : ¬ (k : Int) < (k : Int) := by omega
        go_wp2
        go_ret
        exact ⟨by rw [HVT.out]; rfl, hbel⟩
  · have hv : V = false := by rw [HV.out]; exact decide_eq_false fun h => h1 (by have := h.1; rw [← HL.out] at this; omega)
    rw [decide_eq_false h1] at HW
    rw [hv]
    clear hv h1
    go_enter Try.func31, Try.ntmps31
    go_wp2_with fail
    refine (HW.out _).mono ?_
    rintro e w1 ⟨rfl, rfl⟩
    go_wp2
    go_ret
    exact ⟨rfl, Below.refl _ _⟩
end LF
end Go.Proofs.Ytmndbdkodijlbaa
