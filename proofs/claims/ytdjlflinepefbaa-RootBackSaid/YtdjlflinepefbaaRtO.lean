/- What scoriaref12.Write answers: of any namespaces. No condition but those that each theorem names. -/
import Derived.Test.YtdjlflinepefbaaRtN
namespace Go.Proofs.Ytdjlflinepefbaa
open Go.RowKit
namespace RT
open MM FM EX
set_option linter.unusedVariables false
set_option linter.unusedSimpArgs false

theorem radd_run (a b : ByteArray) (h : a.size + b.size ≤ 1000) (w : World) : (Op.stringOp .add a b).run Try.prog w = .ok (.string (a ++ b)) w := run_string_add_sum w _ _ (by omega)
theorem str_append (a b : List UInt8) : str a ++ str b = str (a ++ b) := by
  apply ByteArray.ext
  apply Array.ext'
  simp [str]
theorem add_s (e : Ext) (l : List UInt8) : str l ++ str (fb e.from_.toNat 2) ++ str (fb e.n.toNat 4) ++ str (fb e.kind.toNat 2) ++ str (fb e.at_.toNat 1) = str (l ++ sB e) := by
  simp only [str_append, sB, List.append_assoc]
/-- What was there stays. -/
structure Bw (w : World) (w' : World) : Prop where
  bel : Below w.heap.size w w'
theorem Bw.below {w w1 w2 : World} (h : Bw w w1) (hb : Below w1.heap.size w1 w2) : Bw w w2 := ⟨h.bel.trans (hb.mono h.bel.size)⟩

theorem rWrite_no (gen : Int) (L : List Ext) (len cap : Nat) (hlen : len = L.length) (a : Option Addr) (w : World) (hr : Exs w a L) (h : ¬ Recd gen L) :
    Calls Try.prog 12 #[.int .i64 gen, .slice a len cap] w fun r w' => r = .returned (.tuple #[.string ⟨#[]⟩, .int .i64 1]) ∧ Below w.heap.size w w' := by
  have HM := Lib.hid (may_any gen L len cap hlen a w hr)
  rw [decide_eq_false h] at HM
  clear hr h hlen
  go_enter Try.func12, Try.ntmps12
  go_wp2_with fail
  refine HM.out.mono ?_
  rintro r w1 ⟨rfl, hb1⟩
  go_wp2
  go_ret2
  exact ⟨rfl, hb1⟩
set_option maxRecDepth 100000 in
set_option maxHeartbeats 8000000 in
theorem rWrite_ok (gen : Int) (L : List Ext) (len cap : Nat) (hlen : len = L.length) (a : Option Addr) (w : World) (hr : Exs w a L) (h : Recd gen L) :
    Calls Try.prog 12 #[.int .i64 gen, .slice a len cap] w fun r w' => r = .returned (.tuple #[.string (str (recB gen L)), .int .i64 0]) ∧ Below w.heap.size w w' := by
  have h8 : len ≤ 8 := by rw [hlen]; exact h.2.1
  have HM := Lib.hid (may_any gen L len cap hlen a w hr)
  rw [decide_eq_true h] at HM
  have HR := Lib.hid hr
  have HL := Lib.hid hlen
  have HF : Hid (∀ e ∈ L, FitS e) := Lib.hid h.2.fit
  have HPG := Lib.hid (rput_any gen 5 h.1.1 (by have := h.1.2; omega) (by decide) (by decide) (by have := h.1; omega))
  have HPN := Lib.hid (rput_any (len : Int) 1 (by omega) (by omega) (by decide) (by decide) (by simp; omega))
  rw [show ((len : Int)).toNat = len from by simp] at HPN
  obtain ⟨SG, hSG⟩ : ∃ S, S = str (fb gen.toNat 5) := ⟨_, rfl⟩
  obtain ⟨SN, hSN⟩ : ∃ S, S = str (fb len 1) := ⟨_, rfl⟩
  obtain ⟨S9, hS9⟩ : ∃ S, S = str (recB gen L) := ⟨_, rfl⟩
  obtain ⟨G, hG⟩ : ∃ G : Nat → ByteArray, ∀ k, G k = str (headB gen len ++ (L.take k).flatMap sB) := ⟨_, fun _ => rfl⟩
  have HGZ : Hid (∀ k, (G k).size ≤ 81) := Lib.hid fun k => by
    have := part_len gen L k
    rw [hG, str_size, hlen]; omega
  have ag := radd_run SG SN (by rw [hSG, hSN, str_size, str_size, fb_length, fb_length]; decide)
  have hG0 : SG ++ SN = G 0 := by rw [hG, hSG, hSN, str_append]; simp [headB]
  rw [hG0] at ag
  have HND : Hid (G len = S9) := Lib.hid (by
    rw [hG, hS9, List.take_of_length_le (by rw [← hlen]; exact Nat.le_refl _)]; unfold recB; rw [hlen])
  have HGS : Hid (∀ k e, L[k]? = some e → G k ++ str (fb e.from_.toNat 2) ++ str (fb e.n.toNat 4) ++ str (fb e.kind.toNat 2) ++ str (fb e.at_.toNat 1) = G (k + 1)) := Lib.hid fun k e he => by
    rw [hG, hG, hlen, part_snoc gen he, add_s]
  rw [← hSG] at HPG
  rw [← hSN] at HPN
  rw [← hS9]
  clear hS9 hG hG0 hSG hSN hr h hlen
  go_enter Try.func12, Try.ntmps12
  go_wp2_with fail
  refine HM.out.mono ?_
  rintro r w1 ⟨rfl, hb1⟩
  have HB1 := Lib.hid hb1
  clear hb1
  go_wp2_with fail
  refine (HPG.out _).mono ?_
  rintro r w2 ⟨rfl, hb2⟩
  have HB2 := Lib.hid (bkept HB1.out hb2)
  clear hb2
  go_wp2_with fail
  refine (HPN.out _).mono ?_
  rintro r w3 ⟨rfl, hb3⟩
  have HB3 := Lib.hid (bkept HB2.out hb3)
  clear hb3
  go_wp2
  go_loopw [6, 7] (fun s i wr => ∃ k : Nat, k ≤ len ∧ i = .int .i64 k ∧ s = .string (G k) ∧ Below w.heap.size w wr) (fun _ i _ => len - (intOf i).toNat)
  case atStart => exact ⟨0, Nat.zero_le _, rfl, rfl, HB3.out⟩
  case round =>
    obtain ⟨k, hk, rfl, rfl, hbel⟩ := hrel
    have HBL := Lib.hid hbel
    by_cases hlt : k < len
    · obtain ⟨e, he⟩ : ∃ e, L[k]? = some e := ⟨_, List.getElem?_eq_getElem (by rw [← HL.out]; exact hlt)⟩
      obtain ⟨b, off, rfl, hb, hc⟩ := exs_get HR.out he
      have HC := Lib.hid (hc k e he)
      have q2 := ((hc k e he).kept hbel hb).2.2.1
      have hfe := HF.out e (List.mem_of_getElem? he)
      have hgs := HGS.out k e he
      have hgz := HGZ.out k
      have hgz1 := HGZ.out (k + 1)
      obtain ⟨tk, htk⟩ : ∃ x, x = max e.kind 0 := ⟨_, rfl⟩
      have htn : tk.toNat = e.kind.toNat := by omega
      have htr : 0 ≤ tk ∧ tk < 65536 := by have := hfe.2.2.2; omega
      have HQ0 := Lib.hid (rput_any e.from_ 2 hfe.1.1 (by have := hfe.1; omega) (by decide) (by decide) (by have := hfe.1; omega))
      obtain ⟨P0, hP0⟩ : ∃ P, P = str (fb e.from_.toNat 2) := ⟨_, rfl⟩
      have z0 : P0.size = 2 := by rw [hP0, str_size, fb_length]
      rw [← hP0] at HQ0 hgs
      have HQ1 := Lib.hid (rput_any e.n 4 hfe.2.1.1 (by have := hfe.2.1; omega) (by decide) (by decide) (by have := hfe.2.1; omega))
      obtain ⟨P1, hP1⟩ : ∃ P, P = str (fb e.n.toNat 4) := ⟨_, rfl⟩
      have z1 : P1.size = 4 := by rw [hP1, str_size, fb_length]
      rw [← hP1] at HQ1 hgs
      have HQ2 := Lib.hid (rput_any tk 2 htr.1 (by omega) (by decide) (by decide) (by omega))
      obtain ⟨P2, hP2⟩ : ∃ P, P = str (fb e.kind.toNat 2) := ⟨_, rfl⟩
      have z2 : P2.size = 2 := by rw [hP2, str_size, fb_length]
      rw [htn, ← hP2] at HQ2
      rw [← hP2] at hgs
      have HQ3 := Lib.hid (rput_any e.at_ 1 hfe.2.2.1.1 (by have := hfe.2.2.1; omega) (by decide) (by decide) (by have := hfe.2.2.1; omega))
      obtain ⟨P3, hP3⟩ : ∃ P, P = str (fb e.at_.toNat 1) := ⟨_, rfl⟩
      have z3 : P3.size = 1 := by rw [hP3, str_size, fb_length]
      rw [← hP3] at HQ3 hgs
      obtain ⟨GK, hGK⟩ : ∃ X, X = G k := ⟨_, rfl⟩
      obtain ⟨GK1, hGK1⟩ : ∃ X, X = G (k + 1) := ⟨_, rfl⟩
      rw [← hGK] at hgs hgz
      rw [← hGK1] at hgs
      have a0 := radd_run GK P0 (by omega)
      obtain ⟨X0, x0⟩ : ∃ X, X = GK ++ P0 := ⟨_, rfl⟩
      have y0 : X0.size = GK.size + 2 := by rw [x0, ByteArray.size_append, z0]
      rw [← x0] at a0 hgs
      have a1 := radd_run X0 P1 (by omega)
      obtain ⟨X1, x1⟩ : ∃ X, X = X0 ++ P1 := ⟨_, rfl⟩
      have y1 : X1.size = X0.size + 4 := by rw [x1, ByteArray.size_append, z1]
      rw [← x1] at a1 hgs
      have a2 := radd_run X1 P2 (by omega)
      obtain ⟨X2, x2⟩ : ∃ X, X = X1 ++ P2 := ⟨_, rfl⟩
      have y2 : X2.size = X1.size + 2 := by rw [x2, ByteArray.size_append, z2]
      rw [← x2] at a2 hgs
      have a3 := radd_run X2 P3 (by omega)
      rw [hgs] at a3
      have hnn : Hid (¬ e.kind < 0 → tk = e.kind) := Lib.hid fun h => by omega
      have hnz : Hid (e.kind < 0 → tk = 0) := Lib.hid fun h => by omega
      clear z0 hP0 z1 hP1 z2 hP2 z3 hP3 x0 y0 x1 y1 x2 y2 htk htn htr
      have HG1 := Lib.hid hGK1
      rw [← hGK]
      have t1 : (k : Int) < (len : Int) := by omega
      have t2 : (0 : Int) ≤ (k : Int) := by omega
      clear hc he hfe hgs hgz hgz1 hbel hGK hGK1
      have d0 := fun x : Wd (Bw w) => (x.ok.bel.cell (p := ⟨b, off + k * 4, none⟩) hb).trans HC.out.1
      have d1 := fun x : Wd (Bw w) => (x.ok.bel.cell (p := ⟨b, off + k * 4 + 1, none⟩) hb).trans HC.out.2.1
      have d3 := fun x : Wd (Bw w) => (x.ok.bel.cell (p := ⟨b, off + k * 4 + 3, none⟩) hb).trans HC.out.2.2.2
      have HI : Hid (Bw w wr.drew) := Lib.hid ⟨HBL.out.drew⟩
      have hNE : Nonempty (Wd (Bw w)) := ⟨⟨_, HI.out⟩⟩
      by_cases hneg : e.kind < 0
      · have hz := hnz.out hneg
        rw [hz] at HQ2
        clear hz
        go_wp2
        refine wp_region_inv (Bw w) (by kernel_rfl) (by kernel_rfl) HI.out ?_
        repeat (go_big_quiet_step (first | (go_at_call 29; with_reducible refine inv_call _ (fun _ _ => Bw.below) (HQ0.out _)) | (go_at_call 29; with_reducible refine inv_call _ (fun _ _ => Bw.below) (HQ1.out _)) | (go_at_call 29; with_reducible refine inv_call _ (fun _ _ => Bw.below) (HQ2.out _)) | (go_at_call 29; with_reducible refine inv_call _ (fun _ _ => Bw.below) (HQ3.out _))))
        refine wpQuiet_nil ?_
        intro _ hw'
        obtain ⟨⟨w9, h9⟩, hw''⟩ := hw'
        subst hw''
        have H9 := Lib.hid h9.bel
        clear h9 d0 d1 d3 HI
        go_wp2
        go_roundw
        case rel => exact ⟨k + 1, by omega, by go_num, by rw [HG1.out], H9.out⟩
        case measure => simp [intOf]; omega
      · have hneg' : decide (e.kind < 0) = false := decide_eq_false hneg
        have hz := hnn.out hneg
        rw [hz] at HQ2
        clear hz hneg
        go_wp2
        refine wp_region_inv (Bw w) (by kernel_rfl) (by kernel_rfl) HI.out ?_
        repeat (go_big_quiet_step (first | (go_at_call 29; with_reducible refine inv_call _ (fun _ _ => Bw.below) (HQ0.out _)) | (go_at_call 29; with_reducible refine inv_call _ (fun _ _ => Bw.below) (HQ1.out _)) | (go_at_call 29; with_reducible refine inv_call _ (fun _ _ => Bw.below) (HQ2.out _)) | (go_at_call 29; with_reducible refine inv_call _ (fun _ _ => Bw.below) (HQ3.out _))))
        refine wpQuiet_nil ?_
        intro _ hw'
        obtain ⟨⟨w9, h9⟩, hw''⟩ := hw'
        subst hw''
        have H9 := Lib.hid h9.bel
        clear h9 d0 d1 d3 HI
        go_wp2
        go_roundw
        case rel => exact ⟨k + 1, by omega, by go_num, by rw [HG1.out], H9.out⟩
        case measure => simp [intOf]; omega
    · obtain rfl : k = len := by omega
      have i0 : ¬ (k : Int) < (k : Int) := by omega
      clear hbel
      go_wp2
      go_ret2
      exact ⟨by rw [← HND.out]; rfl, HBL.out⟩
end RT
end Go.Proofs.Ytdjlflinepefbaa
