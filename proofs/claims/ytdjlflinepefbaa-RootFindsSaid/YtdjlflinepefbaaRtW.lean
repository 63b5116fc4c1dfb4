/- What root.Write answers: of any generation and namespaces. No condition but those that each theorem names. -/
import Derived.Test.YtdjlflinepefbaaRtA
import Derived.Lib.MinMax
import Derived.Deep.RegionHeld3
namespace Go.Proofs.Ytdjlflinepefbaa
open Go.RowKit
namespace RT
open MM FM EX
set_option linter.unusedVariables false
set_option linter.unusedSimpArgs false

theorem row_s (e : Ext) (h : FitS e) (a c : Option Addr) (ca cc : Nat) (w : World) (h1 : Row .u64 w a 4 (NmS e)) (h2 : Row .i64 w c 4 WdS) :
    Calls Try.prog 23 #[.slice a 4 ca, .slice c 4 cc] w fun r w' => r = .returned (.tuple #[.string (str (sB e)), .int .i64 0]) ∧ Below w.heap.size w w' := by
  obtain ⟨f, n, k, t⟩ := e
  obtain ⟨⟨g1, g2⟩, ⟨g3, g4⟩, ⟨g5, g6⟩, g7⟩ := h
  simp only at g1 g2 g3 g4 g5 g6 g7
  have hk : 0 ≤ max k 0 ∧ max k 0 < 65536 := by omega
  have := row_good a c 4 ca cc (NmS ⟨f, n, k, t⟩) WdS (by decide) w h1 h2 (fun i hi => by
    obtain rfl | rfl | rfl | rfl : i = 0 ∨ i = 1 ∨ i = 2 ∨ i = 3 := by omega
    all_goals (simp only [NmS]; omega)) wdS_ok 4 (Nat.le_refl _) (fun i hi => by
    obtain rfl | rfl | rfl | rfl : i = 0 ∨ i = 1 ∨ i = 2 ∨ i = 3 := by omega
    · show f.toNat < 256 ^ 2; omega
    · show n.toNat < 256 ^ 4; omega
    · show (max k 0).toNat < 256 ^ 2; omega
    · show t.toNat < 256 ^ 1; omega) (fun h => by omega)
  refine this.mono fun e w' h => ?_
  have := h.1 rfl
  rw [rowl_s] at this
  exact this
theorem row_h (g : Int) (n : Nat) (h0 : 0 ≤ g) (hg : g ≤ 1099511627775) (hn : n ≤ 8) (a c : Option Addr) (ca cc : Nat) (w : World) (h1 : Row .u64 w a 2 (NmH g (n : Int))) (h2 : Row .i64 w c 2 WdH) :
    Calls Try.prog 23 #[.slice a 2 ca, .slice c 2 cc] w fun r w' => r = .returned (.tuple #[.string (str (headB g n)), .int .i64 0]) ∧ Below w.heap.size w w' := by
  have := row_good a c 2 ca cc (NmH g n) WdH (by decide) w h1 h2 (fun i hi => by
    obtain rfl | rfl : i = 0 ∨ i = 1 := by omega
    all_goals (simp only [NmH]; omega)) wdH_ok 2 (Nat.le_refl _) (fun i hi => by
    obtain rfl | rfl : i = 0 ∨ i = 1 := by omega
    · show g.toNat < 256 ^ 5; omega
    · show ((n : Int)).toNat < 256 ^ 1; omega) (fun h => by omega)
  refine this.mono fun e w' h => ?_
  have := h.1 rfl
  rw [rowl_h] at this
  exact this

theorem Write_no (gen : Int) (L : List Ext) (len cap : Nat) (hlen : len = L.length) (a : Option Addr) (w : World) (hr : Exs w a L) (h : ¬ Recd gen L) :
    Calls Try.prog 11 #[.int .i64 gen, .slice a len cap] w fun r w' => r = .returned (.tuple #[.string ⟨#[]⟩, .int .i64 1]) ∧ Below w.heap.size w w' := by
  have HM := Lib.hid (mayBe_any gen L len cap hlen a w hr)
  rw [decide_eq_false h] at HM
  clear hr h hlen
  go_enter Try.func11, Try.ntmps11
  go_wp2_with fail
  refine HM.out.mono ?_
  rintro e w1 ⟨rfl, hb1⟩
  go_wp2
  go_ret2
  exact ⟨rfl, hb1⟩
theorem part_snoc {L : List Ext} {k : Nat} {e : Ext} (g : Int) (h : L[k]? = some e) : headB g L.length ++ (L.take (k + 1)).flatMap sB = (headB g L.length ++ (L.take k).flatMap sB) ++ sB e := by
  rw [List.take_add_one, h]; simp [List.append_assoc]
theorem part_len (g : Int) (L : List Ext) (k : Nat) : (headB g L.length ++ (L.take k).flatMap sB).length ≤ 6 + 9 * L.length := by
  rw [List.length_append, headB_len, LF.flat_len sB 9 sB_len, List.length_take]
  have : 9 * min k L.length ≤ 9 * L.length := Nat.mul_le_mul_left _ (Nat.min_le_right _ _)
  omega
structure Sw (g : Nat) (e0 e1 e2 e3 : Int) (W w' : World) : Prop where
  blk : Blk w' g 54 #[.int .i64 e0, .int .i64 e1, .int .i64 e2, .int .i64 e3]
  bel : Below W.heap.size W w'
theorem Sw.below {g : Nat} {e0 e1 e2 e3 : Int} {W w1 w2 : World} (h : Sw g e0 e1 e2 e3 W w1) (hb : Below w1.heap.size w1 w2) : Sw g e0 e1 e2 e3 W w2 := ⟨h.blk.below hb h.blk.lt, bkept h.bel hb⟩
theorem sw_s {g : Nat} {e0 e1 e2 e3 : Int} {W w' : World} (h : Sw g e0 e1 e2 e3 W w') : w'.cell? ⟨g, 0, none⟩ = some (.int .i64 e0) ∧ w'.cell? ⟨g, 1, none⟩ = some (.int .i64 e1) ∧ w'.cell? ⟨g, 2, none⟩ = some (.int .i64 e2) ∧ w'.cell? ⟨g, 3, none⟩ = some (.int .i64 e3) ∧ Sw g e0 e1 e2 e3 W w' := ⟨h.blk.cell 0, h.blk.cell 1, h.blk.cell 2, h.blk.cell 3, h⟩
theorem sw_of {g : Nat} {e0 e1 e2 e3 : Int} {W w' : World} (h : w'.cell? ⟨g, 0, none⟩ = some (.int .i64 e0) ∧ w'.cell? ⟨g, 1, none⟩ = some (.int .i64 e1) ∧ w'.cell? ⟨g, 2, none⟩ = some (.int .i64 e2) ∧ w'.cell? ⟨g, 3, none⟩ = some (.int .i64 e3) ∧ Sw g e0 e1 e2 e3 W w') : Sw g e0 e1 e2 e3 W w' := h.2.2.2.2
theorem cells4r {w : World} {g : Nat} {t : TypeId} {a0 a1 a2 a3 : Value} (h : Blk w g t #[a0, a1, a2, a3]) :
    w.cell? ⟨g, 0, none⟩ = some a0 ∧ w.cell? ⟨g, 1, none⟩ = some a1 ∧ w.cell? ⟨g, 2, none⟩ = some a2 ∧ w.cell? ⟨g, 3, none⟩ = some a3 := ⟨h.cell 0, h.cell 1, h.cell 2, h.cell 3⟩
set_option maxRecDepth 100000 in
set_option maxHeartbeats 8000000 in
theorem Write_ok (gen : Int) (L : List Ext) (len cap : Nat) (hlen : len = L.length) (a : Option Addr) (w : World) (hr : Exs w a L) (h : Recd gen L) :
    Calls Try.prog 11 #[.int .i64 gen, .slice a len cap] w fun r w' => r = .returned (.tuple #[.string (str (recB gen L)), .int .i64 0]) ∧ Below w.heap.size w w' := by
  have HM := Lib.hid (mayBe_any gen L len cap hlen a w hr)
  rw [decide_eq_true h] at HM
  have h8 : len ≤ 8 := by rw [hlen]; exact h.2.1
  have HR := Lib.hid hr
  have HF : Hid (∀ e ∈ L, FitS e) := Lib.hid h.2.fit
  have HL := Lib.hid hlen
  have HRH := Lib.hid (row_h gen len h.1.1 h.1.2 h8)
  obtain ⟨S0, hS0⟩ : ∃ S, S = str (headB gen len) := ⟨_, rfl⟩
  obtain ⟨S9, hS9⟩ : ∃ S, S = str (recB gen L) := ⟨_, rfl⟩
  obtain ⟨G, hG⟩ : ∃ G : Nat → List UInt8, ∀ k, G k = headB gen len ++ (L.take k).flatMap sB := ⟨_, fun _ => rfl⟩
  have HLEN : Hid (∀ k, (Lib.byteCells (G k)).length ≤ 81) := Lib.hid fun k => by
    have := part_len gen L k
    have e : (Lib.byteCells (G k)).length = (G k).length := by simp [Lib.byteCells]
    rw [e, hG, hlen]; omega
  have HSZ : Hid (S0.size ≤ 6) := Lib.hid (by rw [hS0, str_size, headB_len]; exact Nat.le_refl _)
  have HG0 : Hid (([] : List Value) ++ Lib.strCells S0 = Lib.byteCells (G 0)) := Lib.hid (by
    have e0 := cells_cat [] (headB gen len)
    rw [hS0, hG, show (L.take 0).flatMap sB = [] from by simp, List.append_nil]; exact e0)
  have HND : Hid (str (G len) = S9) := Lib.hid (by
    rw [hG, hS9, List.take_of_length_le (by rw [← hlen]; exact Nat.le_refl _)]; unfold recB; rw [hlen])
  have HGS : Hid (∀ k e, L[k]? = some e → ∀ R, R = str (sB e) → Lib.byteCells (G k) ++ Lib.strCells R = Lib.byteCells (G (k + 1))) := Lib.hid fun k e he R hR => by
    rw [hR, hG, hG, cells_cat, hlen, ← part_snoc gen he]
  rw [← hS0] at HRH
  rw [← hS9]
  have eG := u64_of (x := gen) h.1.1 (by have := h.1.2; omega)
  have eU := u64_of (x := (len : Int)) (by omega) (by omega)
  clear hS0 hS9 hG hr hlen h
  go_enter Try.func11, Try.ntmps11
  go_wp2_with fail
  refine HM.out.mono ?_
  rintro e w1 ⟨rfl, hb1⟩
  have HB1 := Lib.hid hb1
  have hsz1 := hb1.size
  clear hb1
  go_wp2_with fail
  refine (headWidths_any _).mono ?_
  rintro e w2 ⟨rfl, hr2, hb2⟩
  obtain ⟨WB, hWB⟩ : ∃ W, W = w1.alloc (.cells #[.pointer none, .slice none 0 0] 63) := ⟨_, rfl⟩
  have hfr := Lib.fresh_isBuilder 63 5 w1
  have hzb : WB.heap.size = w1.heap.size + 1 := by rw [hWB]; simp
  have hbw : Below w1.heap.size w1 WB := by rw [hWB]; exact below_box w1 _
  have hrn := row2 .u64 WB 65 gen (len : Int) (NmH gen (len : Int)) rfl rfl
  rw [← hWB] at hr2 hb2
  have hrn2 := hrn.kept hb2 (Nat.le_refl _)
  have hb02 := bkept (below_box WB _) hb2
  have hib2 := builder_kept (w := WB) (by rw [hWB]; exact hfr) hb02
  have hz2 : (WB.alloc (.cells #[.int .u64 gen, .int .u64 (len : Int)] 65)).heap.size = w1.heap.size + 1 + 1 := by simp [hzb]
  rw [hz2] at hr2
  rw [hzb] at hrn2
  have HRN2 := Lib.hid hrn2
  have HR2 := Lib.hid hr2
  have HI2 := Lib.hid hib2
  have HB2 : Hid (Below w1.heap.size w1 w2) := Lib.hid (hbw.trans (hb02.mono (by omega)))
  have HZ2 : Hid (w1.heap.size < w2.heap.size) := Lib.hid (by have := hb02.size; omega)
  clear hfr hzb hbw hrn hr2 hb2 hrn2 hb02 hib2 hWB hz2
  go_wp2_with fail
  refine (HRH.out _ _ _ _ _ HRN2.out HR2.out).mono ?_
  rintro e w3 ⟨rfl, hb3⟩
  have hib3 := builder_kept HI2.out hb3
  have HI3 := Lib.hid hib3
  have HB3 : Hid (Below w1.heap.size w1 w3) := Lib.hid (HB2.out.trans (hb3.mono HB2.out.size))
  have HZ3 : Hid (w1.heap.size < w3.heap.size) := Lib.hid (Nat.lt_of_lt_of_le HZ2.out hb3.size)
  clear hb3 hib3
  go_wp2_with fail
  refine (write_any w1.heap.size w1.heap.size _ S0 w3 HI3.out (by have := HSZ.out; simp; omega) (Nat.le_of_lt HZ3.out)).mono ?_
  rintro e w4 ⟨rfl, hbd4, hb4⟩
  rw [HG0.out] at hbd4
  have HBD4 := Lib.hid hbd4
  have HB4 : Hid (Below w1.heap.size w1 w4) := Lib.hid (HB3.out.trans hb4)
  clear hbd4 hb4
  go_wp2
  go_loopw [32] (fun i wr => ∃ k : Nat, k ≤ len ∧ i = .int .i64 k ∧ Hid (Lib.IsBuilder 63 5 w1.heap.size w1.heap.size (Lib.byteCells (G k)) wr) ∧ Below w1.heap.size w1 wr) (fun i _ => len - (intOf i).toNat)
  case atStart => exact ⟨0, Nat.zero_le _, rfl, Lib.hid (.inr HBD4.out), HB4.out⟩
  case round =>
    obtain ⟨k, hk, rfl, HBD, hbel⟩ := hrel
    have hsz := hbel.size
    have HBw : Hid (Below w.heap.size w wr) := Lib.hid (HB1.out.trans (hbel.mono hsz1))
    by_cases hlt : k < len
    · obtain ⟨e, he⟩ : ∃ e, L[k]? = some e := ⟨_, List.getElem?_eq_getElem (by rw [← HL.out]; exact hlt)⟩
      obtain ⟨b, off, rfl, hb, hc⟩ := exs_get HR.out he
      obtain ⟨q0, q1, q2, q3⟩ := (hc k e he).kept HBw.out hb
      have hfe := HF.out e (List.mem_of_getElem? he)
      have HRO := Lib.hid (row_s e hfe)
      obtain ⟨R, hR⟩ : ∃ R, R = str (sB e) := ⟨_, rfl⟩
      rw [← hR] at HRO
      have HSN := Lib.hid (HGS.out k e he R hR)
      have HRZ : Hid (R.size ≤ 9) := Lib.hid (by rw [hR, str_size, sB_len]; decide)
      have t1 : (k : Int) < (len : Int) := by omega
      have t2 : (0 : Int) ≤ (k : Int) := by omega
      have HB0 := Lib.hid hbel
      obtain ⟨e0, e1, e2, e3⟩ := e
      obtain ⟨⟨g1, g2⟩, ⟨g3, g4⟩, ⟨g5, g6⟩, g7⟩ := hfe
      simp only at g1 g2 g3 g4 g5 g6 g7 q0 q1 q2 q3
      obtain ⟨tk, htk⟩ : ∃ x, x = max e2 0 := ⟨_, rfl⟩
      have hmx : max e2 0 = tk := htk.symm
      have u0 := u64_of (x := e0) g1 (by omega)
      have u1 := u64_of (x := e1) g3 (by omega)
      have u2 := u64_of (x := tk) (by omega) (by omega)
      have u3 := u64_of (x := e3) g5 (by omega)
      have HN4 : Hid (∀ (W : World) (t : TypeId), Row .u64 (W.alloc (.cells #[.int .u64 e0, .int .u64 e1, .int .u64 tk, .int .u64 e3] t)) (some ⟨W.heap.size, 0, none⟩) 4 (NmS ⟨e0, e1, e2, e3⟩)) := Lib.hid fun W t => row4 .u64 W t _ _ _ _ _ rfl rfl hmx rfl
      clear hc he hbel hR g1 g2 g3 g4 g5 g6 g7 htk
      obtain ⟨W, hW⟩ : ∃ W, W = wr.alloc (.cells #[.int .i64 e0, .int .i64 e1, .int .i64 e2, .int .i64 e3] 54) := ⟨_, rfl⟩
      have hwb : Below wr.heap.size wr W := by rw [hW]; exact below_box wr _
      have hblk : Blk W wr.heap.size 54 #[.int .i64 e0, .int .i64 e1, .int .i64 e2, .int .i64 e3] := by rw [hW]; exact Blk.new wr _ _
      have c0 := hblk.cell 0
      have c1 := hblk.cell 1
      have c2 := hblk.cell 2
      have c3 := hblk.cell 3
      have HBK := Lib.hid hblk
      have HWB := Lib.hid hwb
      have HW := Lib.hid hW
      clear hW hwb hblk
      go_wp2
      rw [← HW.out]
      have hI : Sw wr.heap.size e0 e1 e2 e3 W W.drew := ⟨HBK.out.below (Below.refl _ _).drew HBK.out.lt, (Below.refl _ _).drew⟩
      have HSX := Lib.hid (sw_s hI)
      clear hI c0 c1 c2 c3
      go_region_held3 (fun w' => w'.cell? ⟨wr.heap.size, 0, none⟩ = some (.int .i64 e0) ∧ w'.cell? ⟨wr.heap.size, 1, none⟩ = some (.int .i64 e1) ∧ w'.cell? ⟨wr.heap.size, 2, none⟩ = some (.int .i64 e2) ∧ w'.cell? ⟨wr.heap.size, 3, none⟩ = some (.int .i64 e3) ∧ Sw wr.heap.size e0 e1 e2 e3 W w') (first | with_reducible exact HSX.out | with_reducible assumption | exact sw_s ((sw_of (by assumption)).below (below_box _ _))) (first | (go_at_call 26; refine (spaceWidths_any _).mono ?_; rintro r w4 ⟨rfl, hr4, hb4⟩; have hS4 := sw_s ((sw_of (by assumption)).below hb4); have RN : Hid (Row .u64 w4 (some ⟨W.heap.size, 0, none⟩) 4 (NmS ⟨e0, e1, e2, e3⟩)) := Lib.hid ((HN4.out W 65).kept (bkept ((Below.refl _ _).drew) hb4) (Nat.le_refl _)); have hz4 : (W.alloc (.cells #[.int .u64 e0, .int .u64 e1, .int .u64 tk, .int .u64 e3] 65)).drew.heap.size = W.heap.size + 1 := (by show (W.alloc _).heap.size = _; simp); have RW : Hid (Row .i64 w4 (some ⟨W.heap.size + 1, 0, none⟩) 4 WdS) := Lib.hid (by rw [hz4] at hr4; exact hr4); clear hr4 hb4 hz4) | (go_at_call 26; refine (spaceWidths_any _).mono ?_; rintro r w4 ⟨rfl, hr4, hb4⟩; have hS4 := sw_s ((sw_of (by assumption)).below hb4); have RN : Hid (Row .u64 (w4.alloc (.cells #[.int .u64 e0, .int .u64 e1, .int .u64 tk, .int .u64 e3] 65)) (some ⟨w4.heap.size, 0, none⟩) 4 (NmS ⟨e0, e1, e2, e3⟩)) := Lib.hid (HN4.out w4 65); have hz4 : W.drew.heap.size = W.heap.size := rfl; have RW : Hid (Row .i64 (w4.alloc (.cells #[.int .u64 e0, .int .u64 e1, .int .u64 tk, .int .u64 e3] 65)) (some ⟨W.heap.size, 0, none⟩) 4 WdS) := Lib.hid (by rw [hz4] at hr4; exact hr4.kept (below_box w4 _) (Nat.le_refl _)); clear hr4 hb4 hz4) | (go_at_call 23; with_reducible refine (HRO.out _ _ _ _ _ RN.out RW.out).mono ?_; rintro r w5 ⟨rfl, hb5⟩; have hS5 := sw_s ((sw_of (by assumption)).below hb5)))
      all_goals
        have HB9 : Hid (Below wr.heap.size wr w5) := Lib.hid (bkept HWB.out (sw_of hS5).bel)
        have HZ9 : Hid (w1.heap.size ≤ w5.heap.size) := Lib.hid (Nat.le_trans hsz HB9.out.size)
        clear hS5
        go_wp2_with fail
        refine (write_any w1.heap.size w1.heap.size _ R w5 (builder_kept HBD.out HB9.out) (by have := HLEN.out k; have := HRZ.out; omega) HZ9.out).mono ?_
        rintro r w6 ⟨rfl, hbd6, hb6⟩
        rw [HSN.out] at hbd6
        have HBD6 := Lib.hid hbd6
        have HB6 : Hid (Below w1.heap.size w1 w6) := Lib.hid (HB0.out.trans ((HB9.out.mono hsz).trans hb6))
        clear hbd6 hb6
        go_wp2
        go_roundw
        case rel => exact ⟨k + 1, by omega, by go_num, Lib.hid (.inr HBD6.out), HB6.out⟩
        case measure => simp [intOf]; omega
    · obtain rfl : k = len := by omega
      have i0 : ¬ (k : Int) < (k : Int) := by omega
      have HBL := Lib.hid hbel
      clear hbel
      go_wp2_with fail
      refine (string_any w1.heap.size w1.heap.size _ wr HBD.out hsz).mono ?_
      rintro r w7 ⟨rfl, hb7⟩
      have HB7 := Lib.hid (HB1.out.trans ((HBL.out.trans hb7).mono hsz1))
      clear hb7
      go_wp2
      go_ret2
      exact ⟨by rw [← HND.out]; rfl, HB7.out⟩
end RT
end Go.Proofs.Ytdjlflinepefbaa
