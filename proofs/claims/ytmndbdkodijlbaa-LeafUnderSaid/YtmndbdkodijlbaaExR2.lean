/- What scoriaref07's Check answers, of any list of extents. No condition but those that each theorem names. -/
import Derived.Test.YtmndbdkodijlbaaExR
namespace Go.Proofs.Ytmndbdkodijlbaa
open Go.RowKit
namespace EX
open MM
set_option linter.unusedVariables false
set_option linter.unusedSimpArgs false

theorem valid_pair {l : List Ext} {j : Nat} {a e : Ext} (ha : l[j]? = some a) (he : l[j + 1]? = some e) (h : e.from_ < fin a ∨ Tog a e) : ¬ Valid l := by
  intro hv
  obtain ⟨h1, h2⟩ := valid_two hv ha he
  unfold Bef at h1
  rcases h with h | h
  · omega
  · exact h2 h
theorem below_trans {w w1 w2 : World} (h1 : Below w.heap.size w w1) (h2 : Below w1.heap.size w1 w2) : Below w.heap.size w w2 := h1.trans (h2.mono h1.size)
def Bl (w w' : World) : Prop := Below w.heap.size w w'
theorem Bl.below {w w1 w2 : World} (h : Bl w w1) (hb : Below w1.heap.size w1 w2) : Bl w w2 := h.trans (hb.mono h.size)

set_option maxHeartbeats 4000000 in
theorem rcheck_any (L : List Ext) (len cap : Nat) (hlen : len = L.length) (hm : len ≤ maxLen) (a : Option Addr) (w : World) (hr : Exs w a L) :
    Calls Try.prog 47 #[.slice a len cap] w fun e w' => e = .returned (.bool (decide (Valid L))) ∧ Below w.heap.size w w' := by
  unfold maxLen at hm
  obtain ⟨V, hV⟩ : ∃ V, V = decide (Valid L) := ⟨_, rfl⟩
  rw [← hV]
  have HV := Lib.hid hV
  have HR := Lib.hid hr
  have HL := Lib.hid hlen
  clear hV hr hlen
  go_enter Try.func47, Try.ntmps47
  go_wp2
  go_loopw [3] (fun i wr => ∃ k : Nat, k ≤ len ∧ i = .int .i64 k ∧ Hid (Valid (L.take k)) ∧ Below w.heap.size w wr) (fun i _ => len - (intOf i).toNat)
  case atStart => exact ⟨0, Nat.zero_le _, rfl, Lib.hid (by simpa using valid_nil), Below.refl _ _⟩
  case round =>
    obtain ⟨k, hk, rfl, hval, hbel⟩ := hrel
    by_cases hlt : k < len
    · obtain ⟨e, he⟩ : ∃ e, L[k]? = some e := ⟨_, List.getElem?_eq_getElem (by rw [← HL.out]; exact hlt)⟩
      rcases HR.out with h0 | ⟨b, off, rfl, hb, hc⟩
      · rw [h0] at he; simp at he
      · obtain ⟨q0, q1, q2, q3⟩ := (hc k e he).kept hbel hb
        have HC := Lib.hid hc
        have HON := Lib.hid (rone_any e wr)
        have HE := Lib.hid he
        have HB0 := Lib.hid hbel
        have t1 : (k : Int) < (len : Int) := by omega
        have t2 : (0 : Int) ≤ (k : Int) := by omega
        clear hc he hbel
        by_cases h1 : One e
        · rw [decide_eq_true h1] at HON
          rcases Nat.eq_zero_or_pos k with h0 | hpos
          · subst h0
            simp only [Nat.zero_mul, Nat.add_zero] at q0 q1 q2 q3
            go_wp2_with fail
            refine HON.out.mono ?_
            rintro r w1 ⟨rfl, hb1⟩
            have hI : Bl w w1.drew := (show Bl w w1 from below_trans HB0.out hb1).below (Below.refl _ _).drew
            have HI := Lib.hid hI
            have hNE : Nonempty (Wd (Bl w)) := ⟨⟨_, hI⟩⟩
            clear hb1 hI q0 q1 q2 q3
            go_wp2
            refine wp_region_inv (Bl w) (by kernel_rfl) (by kernel_rfl) HI.out ?_
            repeat (go_big_quiet_step (fail))
            refine wpQuiet_nil ?_
            intro _ hw'
            obtain ⟨⟨w9, h9⟩, hw''⟩ := hw'
            subst hw''
            have H9 := Lib.hid h9
            clear h9 HI 
            go_wp2
            go_roundw
            case rel => exact ⟨1, by omega, by go_num, Lib.hid (valid_first HE.out h1), H9.out⟩
            case measure => simp [intOf]; omega
          · obtain ⟨j, rfl⟩ : ∃ j, k = j + 1 := ⟨k - 1, by omega⟩
            obtain ⟨p, hp⟩ : ∃ p, L[j]? = some p := ⟨_, List.getElem?_eq_getElem (by rw [← HL.out]; omega)⟩
            have hpo : One p := valid_at (k := j) hval.out (by rw [List.getElem?_take_of_lt (by omega)]; exact hp)
            have P0 := Lib.hid (HC.out j p hp)
            have Q0 := Lib.hid (HC.out (j + 1) e HE.out)
            have HFO := Lib.hid (rtog_any p e hpo h1)
            have HP := Lib.hid hp
            have hpl := hpo.low; have hph := hpo.high; have hpp := hpo.pos
            have e9 : IntKind.i64.wrap (((j + 1 : Nat) : Int) - 1) = (j : Int) := by rw [IntWalk.i64_in _ (by omega)]; omega
            have e10 : (0 : Int) ≤ (j : Int) := by omega
            have e11 : (j : Int) < (len : Int) := by omega
            have e12 : (0 : Int) < ((j + 1 : Nat) : Int) := by omega
            have e13 : IntKind.i64.wrap (p.from_ + p.n) = p.from_ + p.n := by unfold fin at hph; exact IntWalk.i64_in _ (by omega)
            clear hp hpo hpl hph hpp
            by_cases h2 : e.from_ < p.from_ + p.n
            · have h2t : decide (e.from_ < p.from_ + p.n) = true := decide_eq_true h2
              go_wp2_with fail
              refine HON.out.mono ?_
              rintro r w1 ⟨rfl, hb1⟩
              have hI : Bl w w1.drew := (show Bl w w1 from below_trans HB0.out hb1).below (Below.refl _ _).drew
              have HI := Lib.hid hI
              have hNE : Nonempty (Wd (Bl w)) := ⟨⟨_, hI⟩⟩
              have d0 := fun x : Wd (Bl w) => (x.ok.cell (p := ⟨b, off + j * 4, none⟩) hb).trans P0.out.1
              have c0 := fun x : Wd (Bl w) => (x.ok.cell (p := ⟨b, off + (j + 1) * 4, none⟩) hb).trans Q0.out.1
              have d1 := fun x : Wd (Bl w) => (x.ok.cell (p := ⟨b, off + j * 4 + 1, none⟩) hb).trans P0.out.2.1
              have c1 := fun x : Wd (Bl w) => (x.ok.cell (p := ⟨b, off + (j + 1) * 4 + 1, none⟩) hb).trans Q0.out.2.1
              have d2 := fun x : Wd (Bl w) => (x.ok.cell (p := ⟨b, off + j * 4 + 2, none⟩) hb).trans P0.out.2.2.1
              have c2 := fun x : Wd (Bl w) => (x.ok.cell (p := ⟨b, off + (j + 1) * 4 + 2, none⟩) hb).trans Q0.out.2.2.1
              have d3 := fun x : Wd (Bl w) => (x.ok.cell (p := ⟨b, off + j * 4 + 3, none⟩) hb).trans P0.out.2.2.2
              have c3 := fun x : Wd (Bl w) => (x.ok.cell (p := ⟨b, off + (j + 1) * 4 + 3, none⟩) hb).trans Q0.out.2.2.2
              clear hb1 hI q0 q1 q2 q3
              go_wp2
              refine wp_region_inv (Bl w) (by kernel_rfl) (by kernel_rfl) HI.out ?_
              repeat (go_big_quiet_step ((go_at_call 61; with_reducible refine inv_call _ (fun _ _ => Bl.below) (HFO.out _))))
              refine wpQuiet_nil ?_
              intro _ hw'
              obtain ⟨⟨w9, h9⟩, hw''⟩ := hw'
              subst hw''
              have H9 := Lib.hid h9
              clear h9 HI d0 d1 d2 d3 c0 c1 c2 c3
              go_wp2
              go_ret
              exact ⟨by rw [HV.out, decide_eq_false (valid_pair HP.out HE.out (.inl h2))]; rfl, H9.out⟩
            · have h2f : decide (e.from_ < p.from_ + p.n) = false := decide_eq_false h2
              by_cases h3 : Tog p e
              · rw [decide_eq_true h3] at HFO
                go_wp2_with fail
                refine HON.out.mono ?_
                rintro r w1 ⟨rfl, hb1⟩
                have hI : Bl w w1.drew := (show Bl w w1 from below_trans HB0.out hb1).below (Below.refl _ _).drew
                have HI := Lib.hid hI
                have hNE : Nonempty (Wd (Bl w)) := ⟨⟨_, hI⟩⟩
                have d0 := fun x : Wd (Bl w) => (x.ok.cell (p := ⟨b, off + j * 4, none⟩) hb).trans P0.out.1
                have c0 := fun x : Wd (Bl w) => (x.ok.cell (p := ⟨b, off + (j + 1) * 4, none⟩) hb).trans Q0.out.1
                have d1 := fun x : Wd (Bl w) => (x.ok.cell (p := ⟨b, off + j * 4 + 1, none⟩) hb).trans P0.out.2.1
                have c1 := fun x : Wd (Bl w) => (x.ok.cell (p := ⟨b, off + (j + 1) * 4 + 1, none⟩) hb).trans Q0.out.2.1
                have d2 := fun x : Wd (Bl w) => (x.ok.cell (p := ⟨b, off + j * 4 + 2, none⟩) hb).trans P0.out.2.2.1
                have c2 := fun x : Wd (Bl w) => (x.ok.cell (p := ⟨b, off + (j + 1) * 4 + 2, none⟩) hb).trans Q0.out.2.2.1
                have d3 := fun x : Wd (Bl w) => (x.ok.cell (p := ⟨b, off + j * 4 + 3, none⟩) hb).trans P0.out.2.2.2
                have c3 := fun x : Wd (Bl w) => (x.ok.cell (p := ⟨b, off + (j + 1) * 4 + 3, none⟩) hb).trans Q0.out.2.2.2
                clear hb1 hI q0 q1 q2 q3
                go_wp2
                refine wp_region_inv (Bl w) (by kernel_rfl) (by kernel_rfl) HI.out ?_
                repeat (go_big_quiet_step ((go_at_call 61; with_reducible refine inv_call _ (fun _ _ => Bl.below) (HFO.out _))))
                refine wpQuiet_nil ?_
                intro _ hw'
                obtain ⟨⟨w9, h9⟩, hw''⟩ := hw'
                subst hw''
                have H9 := Lib.hid h9
                clear h9 HI d0 d1 d2 d3 c0 c1 c2 c3
                go_wp2
                go_ret
                exact ⟨by rw [HV.out, decide_eq_false (valid_pair HP.out HE.out (.inr h3))]; rfl, H9.out⟩
              · rw [decide_eq_false h3] at HFO
                go_wp2_with fail
                refine HON.out.mono ?_
                rintro r w1 ⟨rfl, hb1⟩
                have hI : Bl w w1.drew := (show Bl w w1 from below_trans HB0.out hb1).below (Below.refl _ _).drew
                have HI := Lib.hid hI
                have hNE : Nonempty (Wd (Bl w)) := ⟨⟨_, hI⟩⟩
                have d0 := fun x : Wd (Bl w) => (x.ok.cell (p := ⟨b, off + j * 4, none⟩) hb).trans P0.out.1
                have c0 := fun x : Wd (Bl w) => (x.ok.cell (p := ⟨b, off + (j + 1) * 4, none⟩) hb).trans Q0.out.1
                have d1 := fun x : Wd (Bl w) => (x.ok.cell (p := ⟨b, off + j * 4 + 1, none⟩) hb).trans P0.out.2.1
                have c1 := fun x : Wd (Bl w) => (x.ok.cell (p := ⟨b, off + (j + 1) * 4 + 1, none⟩) hb).trans Q0.out.2.1
                have d2 := fun x : Wd (Bl w) => (x.ok.cell (p := ⟨b, off + j * 4 + 2, none⟩) hb).trans P0.out.2.2.1
                have c2 := fun x : Wd (Bl w) => (x.ok.cell (p := ⟨b, off + (j + 1) * 4 + 2, none⟩) hb).trans Q0.out.2.2.1
                have d3 := fun x : Wd (Bl w) => (x.ok.cell (p := ⟨b, off + j * 4 + 3, none⟩) hb).trans P0.out.2.2.2
                have c3 := fun x : Wd (Bl w) => (x.ok.cell (p := ⟨b, off + (j + 1) * 4 + 3, none⟩) hb).trans Q0.out.2.2.2
                clear hb1 hI q0 q1 q2 q3
                go_wp2
                refine wp_region_inv (Bl w) (by kernel_rfl) (by kernel_rfl) HI.out ?_
                repeat (go_big_quiet_step ((go_at_call 61; with_reducible refine inv_call _ (fun _ _ => Bl.below) (HFO.out _))))
                refine wpQuiet_nil ?_
                intro _ hw'
                obtain ⟨⟨w9, h9⟩, hw''⟩ := hw'
                subst hw''
                have H9 := Lib.hid h9
                clear h9 HI d0 d1 d2 d3 c0 c1 c2 c3
                go_wp2
                go_roundw
                case rel => exact ⟨j + 1 + 1, by omega, by go_num, Lib.hid (valid_next hval.out HP.out HE.out h1 ⟨by unfold Bef fin; omega, h3⟩), H9.out⟩
                case measure => simp [intOf]; omega
        · rw [decide_eq_false h1] at HON
          go_wp2_with fail
          refine HON.out.mono ?_
          rintro r w1 ⟨rfl, hb1⟩
          have HB1 := Lib.hid (below_trans HB0.out hb1)
          clear hb1
          go_wp2
          go_ret
          exact ⟨by rw [HV.out, decide_eq_false fun h => h1 (valid_at h HE.out)]; rfl, HB1.out⟩
    · obtain rfl : k = len := by omega
      have hv : V = true := by rw [HV.out, decide_eq_true]; exact valid_take (by rw [← HL.out]; exact Nat.le_refl _) hval.out
      have HVT := Lib.hid hv
      clear hv
      have i0 : ¬ (k : Int) < (k : Int) := by omega
      go_wp2
      go_ret
      exact ⟨by rw [HVT.out]; rfl, hbel⟩
end EX
end Go.Proofs.Ytmndbdkodijlbaa
