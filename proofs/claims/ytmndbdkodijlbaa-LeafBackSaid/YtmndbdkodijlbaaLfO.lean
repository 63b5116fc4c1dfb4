/- What scoriaref09.Leaf and Inner answer: of any extents and kids. No condition but those that each theorem names. -/
import Derived.Test.YtmndbdkodijlbaaLfN
namespace Go.Proofs.Ytmndbdkodijlbaa
open Go.RowKit
namespace LF
open MM FM EX
set_option linter.unusedVariables false
set_option linter.unusedSimpArgs false

/-- The bytes of the first k things, behind how many there are. -/
theorem add_e (e : Ext) (l : List UInt8) : str l ++ str (fb e.from_.toNat 3) ++ str (fb e.n.toNat 4) ++ str (fb e.kind.toNat 1) ++ str (fb e.at_.toNat 2) = str (l ++ eB e) := by
  simp only [str_append, eB, List.append_assoc]
theorem add_k (e : Kid) (l : List UInt8) : str l ++ str (fb e.key.toNat 3) ++ str (fb e.at_.toNat 2) = str (l ++ kB e) := by
  simp only [str_append, kB, List.append_assoc]
theorem node_snoc {T : Type} (row : T → List UInt8) {L : List T} {k : Nat} {e : T} (n : Nat) (h : L[k]? = some e) : fb n 1 ++ (L.take (k + 1)).flatMap row = (fb n 1 ++ (L.take k).flatMap row) ++ row e := by
  rw [List.take_add_one, h]; simp [List.append_assoc]
theorem node_size {T : Type} (row : T → List UInt8) (wd : Nat) (hw : ∀ x, (row x).length = wd) (L : List T) (n k : Nat) : (str (fb n 1 ++ (L.take k).flatMap row)).size ≤ 1 + wd * L.length := by
  rw [str_size, List.length_append, fb_length, flat_len row wd hw, List.length_take]
  have : wd * min k L.length ≤ wd * L.length := Nat.mul_le_mul_left _ (Nat.min_le_right _ _)
  omega
/-- What was there stays. -/
structure Bw (w : World) (w' : World) : Prop where
  bel : Below w.heap.size w w'
theorem Bw.below {w w1 w2 : World} (h : Bw w w1) (hb : Below w1.heap.size w1 w2) : Bw w w2 := ⟨h.bel.trans (hb.mono h.bel.size)⟩

theorem rLeaf_no (L : List Ext) (len cap : Nat) (hlen : len = L.length) (hm : len ≤ 1000000) (a : Option Addr) (w : World) (hr : Exs w a L) (h : ¬ Leafy L) :
    Calls Try.prog 11 #[.slice a len cap] w fun r w' => r = .returned (.tuple #[.string ⟨#[]⟩, .int .i64 1]) ∧ Below w.heap.size w w' := by
  have HM := Lib.hid (rleafy_any L len cap hlen hm a w hr)
  rw [decide_eq_false h] at HM
  clear hr h hlen
  go_enter Try.func11, Try.ntmps11
  go_wp2_with fail
  refine HM.out.mono ?_
  rintro r w1 ⟨rfl, hb1⟩
  go_wp2
  go_ret2
  exact ⟨rfl, hb1⟩
set_option maxHeartbeats 8000000 in
theorem rLeaf_ok (L : List Ext) (len cap : Nat) (hlen : len = L.length) (a : Option Addr) (w : World) (hr : Exs w a L) (h : Leafy L) :
    Calls Try.prog 11 #[.slice a len cap] w fun r w' => r = .returned (.tuple #[.string (str (nodeB eB L)), .int .i64 0]) ∧ Below w.heap.size w w' := by
  have h8 : len ≤ 8 := by rw [hlen]; exact h.1.2
  have HM := Lib.hid (rleafy_any L len cap hlen (by omega) a w hr)
  rw [decide_eq_true h] at HM
  have HR := Lib.hid hr
  have HL := Lib.hid hlen
  have HF : Hid (∀ e ∈ L, FitE e) := Lib.hid (fun e he => One.fit (h.2.1 e he))
  have HP0 := Lib.hid (rput9_any (len : Int) 1 (by omega) (by omega) (by decide) (by decide) (by simp; omega))
  obtain ⟨S9, hS9⟩ : ∃ S, S = str (nodeB eB L) := ⟨_, rfl⟩
  obtain ⟨G, hG⟩ : ∃ G : Nat → ByteArray, ∀ k, G k = str (fb len 1 ++ (L.take k).flatMap eB) := ⟨_, fun _ => rfl⟩
  have HGZ : Hid (∀ k, (G k).size ≤ 81) := Lib.hid fun k => by
    have := node_size eB 10 eB_len L len k
    rw [hG]; omega
  have hG0 : G 0 = str (fb len 1) := by rw [hG]; simp
  have HND : Hid (G len = S9) := Lib.hid (by
    rw [hG, hS9, List.take_of_length_le (by rw [← hlen]; exact Nat.le_refl _)]; unfold nodeB; rw [hlen])
  have HGS : Hid (∀ k e, L[k]? = some e → G k ++ str (fb e.from_.toNat 3) ++ str (fb e.n.toNat 4) ++ str (fb e.kind.toNat 1) ++ str (fb e.at_.toNat 2) = G (k + 1)) := Lib.hid fun k e he => by
    rw [hG, hG, node_snoc eB len he, add_e]
  rw [show ((len : Int)).toNat = len from by simp, ← hG0] at HP0
  rw [← hS9]
  clear hS9 hG hG0 hr h hlen
  go_enter Try.func11, Try.ntmps11
  go_wp2_with fail
  refine HM.out.mono ?_
  rintro r w1 ⟨rfl, hb1⟩
  have HB1 := Lib.hid hb1
  clear hb1
  go_wp2_with fail
  refine (HP0.out _).mono ?_
  rintro r w2 ⟨rfl, hb2⟩
  have HB2 := Lib.hid (bkept HB1.out hb2)
  clear hb2
  go_wp2
  go_loopw [4, 5] (fun s i wr => ∃ k : Nat, k ≤ len ∧ i = .int .i64 k ∧ s = .string (G k) ∧ Below w.heap.size w wr) (fun _ i _ => len - (intOf i).toNat)
  case atStart => exact ⟨0, Nat.zero_le _, rfl, rfl, HB2.out⟩
  case round =>
    obtain ⟨k, hk, rfl, rfl, hbel⟩ := hrel
    have HBL := Lib.hid hbel
    by_cases hlt : k < len
    · obtain ⟨e, he⟩ : ∃ e, L[k]? = some e := ⟨_, List.getElem?_eq_getElem (by rw [← HL.out]; exact hlt)⟩
      obtain ⟨b, off, rfl, hb, hc⟩ : ∃ gb off, a = some ⟨gb, off, none⟩ ∧ gb < w.heap.size ∧ ∀ (i : Nat) (x : Ext), L[i]? = some x → Cells4 w gb (off + i * 4) x := by
        rcases HR.out with h0 | h0
        · rw [h0] at he; simp at he
        · exact h0
      have HC := Lib.hid (hc k e he)
      have hfe := HF.out e (List.mem_of_getElem? he)
      have hgs := HGS.out k e he
      have hgz := HGZ.out k
      have hgz1 := HGZ.out (k + 1)
      have HQ0 := Lib.hid (rput9_any e.from_ 3 hfe.1.1 (by have := hfe.1; omega) (by decide) (by decide) (by have := hfe.1; omega))
      obtain ⟨P0, hP0⟩ : ∃ P, P = str (fb e.from_.toNat 3) := ⟨_, rfl⟩
      have z0 : P0.size = 3 := by rw [hP0, str_size, fb_length]
      rw [← hP0] at HQ0 hgs
      have HQ1 := Lib.hid (rput9_any e.n 4 hfe.2.1.1 (by have := hfe.2.1; omega) (by decide) (by decide) (by have := hfe.2.1; omega))
      obtain ⟨P1, hP1⟩ : ∃ P, P = str (fb e.n.toNat 4) := ⟨_, rfl⟩
      have z1 : P1.size = 4 := by rw [hP1, str_size, fb_length]
      rw [← hP1] at HQ1 hgs
      have HQ2 := Lib.hid (rput9_any e.kind 1 hfe.2.2.1.1 (by have := hfe.2.2.1; omega) (by decide) (by decide) (by have := hfe.2.2.1; omega))
      obtain ⟨P2, hP2⟩ : ∃ P, P = str (fb e.kind.toNat 1) := ⟨_, rfl⟩
      have z2 : P2.size = 1 := by rw [hP2, str_size, fb_length]
      rw [← hP2] at HQ2 hgs
      have HQ3 := Lib.hid (rput9_any e.at_ 2 hfe.2.2.2.1 (by have := hfe.2.2.2; omega) (by decide) (by decide) (by have := hfe.2.2.2; omega))
      obtain ⟨P3, hP3⟩ : ∃ P, P = str (fb e.at_.toNat 2) := ⟨_, rfl⟩
      have z3 : P3.size = 2 := by rw [hP3, str_size, fb_length]
      rw [← hP3] at HQ3 hgs
      obtain ⟨GK, hGK⟩ : ∃ X, X = G k := ⟨_, rfl⟩
      obtain ⟨GK1, hGK1⟩ : ∃ X, X = G (k + 1) := ⟨_, rfl⟩
      rw [← hGK] at hgs hgz
      rw [← hGK1] at hgs
      have a0 := radd_run GK P0 (by omega)
      obtain ⟨X0, x0⟩ : ∃ X, X = GK ++ P0 := ⟨_, rfl⟩
      have y0 : X0.size = GK.size + 3 := by rw [x0, ByteArray.size_append, z0]
      rw [← x0] at a0 hgs
      have a1 := radd_run X0 P1 (by omega)
      obtain ⟨X1, x1⟩ : ∃ X, X = X0 ++ P1 := ⟨_, rfl⟩
      have y1 : X1.size = X0.size + 4 := by rw [x1, ByteArray.size_append, z1]
      rw [← x1] at a1 hgs
      have a2 := radd_run X1 P2 (by omega)
      obtain ⟨X2, x2⟩ : ∃ X, X = X1 ++ P2 := ⟨_, rfl⟩
      have y2 : X2.size = X1.size + 1 := by rw [x2, ByteArray.size_append, z2]
      rw [← x2] at a2 hgs
      have a3 := radd_run X2 P3 (by omega)
      rw [hgs] at a3
      clear z0 hP0 z1 hP1 z2 hP2 z3 hP3 x0 y0 x1 y1 x2 y2
      have HG1 := Lib.hid hGK1
      rw [← hGK]
      have t1 : (k : Int) < (len : Int) := by omega
      have t2 : (0 : Int) ≤ (k : Int) := by omega
      clear hc he hfe hgs hgz hgz1 hbel hGK hGK1
      have d0 := fun x : Wd (Bw w) => (x.ok.bel.cell (p := ⟨b, off + k * 4, none⟩) hb).trans HC.out.1
      have d1 := fun x : Wd (Bw w) => (x.ok.bel.cell (p := ⟨b, off + k * 4 + 1, none⟩) hb).trans HC.out.2.1
      have d2 := fun x : Wd (Bw w) => (x.ok.bel.cell (p := ⟨b, off + k * 4 + 2, none⟩) hb).trans HC.out.2.2.1
      have d3 := fun x : Wd (Bw w) => (x.ok.bel.cell (p := ⟨b, off + k * 4 + 3, none⟩) hb).trans HC.out.2.2.2
      have HI : Hid (Bw w wr.drew) := Lib.hid ⟨HBL.out.drew⟩
      have hNE : Nonempty (Wd (Bw w)) := ⟨⟨_, HI.out⟩⟩
      go_wp2
      refine wp_region_inv (Bw w) (by kernel_rfl) (by kernel_rfl) HI.out ?_
      repeat (go_big_quiet_step (first | (go_at_call 29; with_reducible refine inv_call _ (fun _ _ => Bw.below) (HQ0.out _)) | (go_at_call 29; with_reducible refine inv_call _ (fun _ _ => Bw.below) (HQ1.out _)) | (go_at_call 29; with_reducible refine inv_call _ (fun _ _ => Bw.below) (HQ2.out _)) | (go_at_call 29; with_reducible refine inv_call _ (fun _ _ => Bw.below) (HQ3.out _))))
      refine wpQuiet_nil ?_
      intro _ hw'
      obtain ⟨⟨w9, h9⟩, hw''⟩ := hw'
      subst hw''
      have H9 := Lib.hid h9.bel
      clear h9 d0 d1 d2 d3 HI
      go_wp2
      go_roundw
      case rel => exact ⟨k + 1, by omega, by go_num, by rw [HG1.out], H9.out⟩
      case measure => simp [intOf]; omega
    · obtain rfl : k = len := by omega
      have i0 : ¬ (k : Int) < (k : Int) := by omega
      clear hbel
      go_wp2
      go_ret2
      exact ⟨by rw [← HND.out]; rfl, HBL.out⟩

theorem rInner_no (L : List Kid) (len cap : Nat) (hlen : len = L.length) (hm : len ≤ 1000000) (a : Option Addr) (w : World) (hr : Kds w a L) (h : ¬ Kidy L) :
    Calls Try.prog 14 #[.slice a len cap] w fun r w' => r = .returned (.tuple #[.string ⟨#[]⟩, .int .i64 1]) ∧ Below w.heap.size w w' := by
  have HM := Lib.hid (rkids_any L len cap hlen hm a w hr)
  rw [decide_eq_false h] at HM
  clear hr h hlen
  go_enter Try.func14, Try.ntmps14
  go_wp2_with fail
  refine HM.out.mono ?_
  rintro r w1 ⟨rfl, hb1⟩
  go_wp2
  go_ret2
  exact ⟨rfl, hb1⟩
set_option maxHeartbeats 8000000 in
theorem rInner_ok (L : List Kid) (len cap : Nat) (hlen : len = L.length) (a : Option Addr) (w : World) (hr : Kds w a L) (h : Kidy L) :
    Calls Try.prog 14 #[.slice a len cap] w fun r w' => r = .returned (.tuple #[.string (str (nodeB kB L)), .int .i64 0]) ∧ Below w.heap.size w w' := by
  have h8 : len ≤ 8 := by rw [hlen]; exact h.1.2
  have HM := Lib.hid (rkids_any L len cap hlen (by omega) a w hr)
  rw [decide_eq_true h] at HM
  have HR := Lib.hid hr
  have HL := Lib.hid hlen
  have HF : Hid (∀ e ∈ L, InK e) := Lib.hid (h.2.ink)
  have HP0 := Lib.hid (rput9_any (len : Int) 1 (by omega) (by omega) (by decide) (by decide) (by simp; omega))
  obtain ⟨S9, hS9⟩ : ∃ S, S = str (nodeB kB L) := ⟨_, rfl⟩
  obtain ⟨G, hG⟩ : ∃ G : Nat → ByteArray, ∀ k, G k = str (fb len 1 ++ (L.take k).flatMap kB) := ⟨_, fun _ => rfl⟩
  have HGZ : Hid (∀ k, (G k).size ≤ 81) := Lib.hid fun k => by
    have := node_size kB 5 kB_len L len k
    rw [hG]; omega
  have hG0 : G 0 = str (fb len 1) := by rw [hG]; simp
  have HND : Hid (G len = S9) := Lib.hid (by
    rw [hG, hS9, List.take_of_length_le (by rw [← hlen]; exact Nat.le_refl _)]; unfold nodeB; rw [hlen])
  have HGS : Hid (∀ k e, L[k]? = some e → G k ++ str (fb e.key.toNat 3) ++ str (fb e.at_.toNat 2) = G (k + 1)) := Lib.hid fun k e he => by
    rw [hG, hG, node_snoc kB len he, add_k]
  rw [show ((len : Int)).toNat = len from by simp, ← hG0] at HP0
  rw [← hS9]
  clear hS9 hG hG0 hr h hlen
  go_enter Try.func14, Try.ntmps14
  go_wp2_with fail
  refine HM.out.mono ?_
  rintro r w1 ⟨rfl, hb1⟩
  have HB1 := Lib.hid hb1
  clear hb1
  go_wp2_with fail
  refine (HP0.out _).mono ?_
  rintro r w2 ⟨rfl, hb2⟩
  have HB2 := Lib.hid (bkept HB1.out hb2)
  clear hb2
  go_wp2
  go_loopw [4, 5] (fun s i wr => ∃ k : Nat, k ≤ len ∧ i = .int .i64 k ∧ s = .string (G k) ∧ Below w.heap.size w wr) (fun _ i _ => len - (intOf i).toNat)
  case atStart => exact ⟨0, Nat.zero_le _, rfl, rfl, HB2.out⟩
  case round =>
    obtain ⟨k, hk, rfl, rfl, hbel⟩ := hrel
    have HBL := Lib.hid hbel
    by_cases hlt : k < len
    · obtain ⟨e, he⟩ : ∃ e, L[k]? = some e := ⟨_, List.getElem?_eq_getElem (by rw [← HL.out]; exact hlt)⟩
      obtain ⟨b, off, rfl, hb, hc⟩ : ∃ gb off, a = some ⟨gb, off, none⟩ ∧ gb < w.heap.size ∧ ∀ (i : Nat) (x : Kid), L[i]? = some x → Cells2 w gb (off + i * 2) x := by
        rcases HR.out with h0 | h0
        · rw [h0] at he; simp at he
        · exact h0
      have HC := Lib.hid (hc k e he)
      have hfe := HF.out e (List.mem_of_getElem? he)
      have hgs := HGS.out k e he
      have hgz := HGZ.out k
      have hgz1 := HGZ.out (k + 1)
      have HQ0 := Lib.hid (rput9_any e.key 3 hfe.1.1 (by have := hfe.1; omega) (by decide) (by decide) (by have := hfe.1; omega))
      obtain ⟨P0, hP0⟩ : ∃ P, P = str (fb e.key.toNat 3) := ⟨_, rfl⟩
      have z0 : P0.size = 3 := by rw [hP0, str_size, fb_length]
      rw [← hP0] at HQ0 hgs
      have HQ1 := Lib.hid (rput9_any e.at_ 2 hfe.2.1 (by have := hfe.2; omega) (by decide) (by decide) (by have := hfe.2; omega))
      obtain ⟨P1, hP1⟩ : ∃ P, P = str (fb e.at_.toNat 2) := ⟨_, rfl⟩
      have z1 : P1.size = 2 := by rw [hP1, str_size, fb_length]
      rw [← hP1] at HQ1 hgs
      obtain ⟨GK, hGK⟩ : ∃ X, X = G k := ⟨_, rfl⟩
      obtain ⟨GK1, hGK1⟩ : ∃ X, X = G (k + 1) := ⟨_, rfl⟩
      rw [← hGK] at hgs hgz
      rw [← hGK1] at hgs
      have a0 := radd_run GK P0 (by omega)
      obtain ⟨X0, x0⟩ : ∃ X, X = GK ++ P0 := ⟨_, rfl⟩
      have y0 : X0.size = GK.size + 3 := by rw [x0, ByteArray.size_append, z0]
      rw [← x0] at a0 hgs
      have a1 := radd_run X0 P1 (by omega)
      rw [hgs] at a1
      clear z0 hP0 z1 hP1 x0 y0
      have HG1 := Lib.hid hGK1
      rw [← hGK]
      have t1 : (k : Int) < (len : Int) := by omega
      have t2 : (0 : Int) ≤ (k : Int) := by omega
      clear hc he hfe hgs hgz hgz1 hbel hGK hGK1
      have d0 := fun x : Wd (Bw w) => (x.ok.bel.cell (p := ⟨b, off + k * 2, none⟩) hb).trans HC.out.1
      have d1 := fun x : Wd (Bw w) => (x.ok.bel.cell (p := ⟨b, off + k * 2 + 1, none⟩) hb).trans HC.out.2
      have HI : Hid (Bw w wr.drew) := Lib.hid ⟨HBL.out.drew⟩
      have hNE : Nonempty (Wd (Bw w)) := ⟨⟨_, HI.out⟩⟩
      go_wp2
      refine wp_region_inv (Bw w) (by kernel_rfl) (by kernel_rfl) HI.out ?_
      repeat (go_big_quiet_step (first | (go_at_call 29; with_reducible refine inv_call _ (fun _ _ => Bw.below) (HQ0.out _)) | (go_at_call 29; with_reducible refine inv_call _ (fun _ _ => Bw.below) (HQ1.out _))))
      refine wpQuiet_nil ?_
      intro _ hw'
      obtain ⟨⟨w9, h9⟩, hw''⟩ := hw'
      subst hw''
      have H9 := Lib.hid h9.bel
      clear h9 d0 d1 HI
      go_wp2
      go_roundw
      case rel => exact ⟨k + 1, by omega, by go_num, by rw [HG1.out], H9.out⟩
      case measure => simp [intOf]; omega
    · obtain rfl : k = len := by omega
      have i0 : ¬ (k : Int) < (k : Int) := by omega
      clear hbel
      go_wp2
      go_ret2
      exact ⟨by rw [← HND.out]; rfl, HBL.out⟩
end LF
end Go.Proofs.Ytmndbdkodijlbaa
