/- What leaf.write answers at both its types, and leaf.Leaf and leaf.Inner: of any extents and kids. No condition but those that each theorem names. -/
import Derived.Test.YtmndbdkodijlbaaLfK
namespace Go.Proofs.Ytmndbdkodijlbaa
open Go.RowKit
namespace LF
open MM FM EX
set_option linter.unusedVariables false
set_option linter.unusedSimpArgs false

theorem row_e (e : Ext) (h : FitE e) (a c : Option Addr) (ca cc : Nat) (w : World) (h1 : Row .u64 w a 4 (NmE e)) (h2 : Row .i64 w c 4 WdE) :
    Calls Try.prog 43 #[.slice a 4 ca, .slice c 4 cc] w fun r w' => r = .returned (.tuple #[.string (str (eB e)), .int .i64 0]) ∧ Below w.heap.size w w' := by
  obtain ⟨f, n, k, t⟩ := e
  obtain ⟨⟨g1, g2⟩, ⟨g3, g4⟩, ⟨g5, g6⟩, g7, g8⟩ := h
  simp only at g1 g2 g3 g4 g5 g6 g7 g8
  have := row_good a c 4 ca cc (NmE ⟨f, n, k, t⟩) WdE (by decide) w h1 h2 (fun i hi => by
    obtain rfl | rfl | rfl | rfl : i = 0 ∨ i = 1 ∨ i = 2 ∨ i = 3 := by omega
    all_goals (simp only [NmE]; omega)) wdE_ok 4 (Nat.le_refl _) (fun i hi => by
    obtain rfl | rfl | rfl | rfl : i = 0 ∨ i = 1 ∨ i = 2 ∨ i = 3 := by omega
    · show f.toNat < 256 ^ 3; omega
    · show n.toNat < 256 ^ 4; omega
    · show k.toNat < 256 ^ 1; omega
    · show t.toNat < 256 ^ 2; omega) (fun h => by omega)
  refine this.mono fun e w' h => ?_
  have := h.1 rfl
  rw [rowl_e] at this
  exact this
theorem row_k (e : Kid) (h : InK e) (a c : Option Addr) (ca cc : Nat) (w : World) (h1 : Row .u64 w a 2 (NmK e)) (h2 : Row .i64 w c 2 WdK) :
    Calls Try.prog 43 #[.slice a 2 ca, .slice c 2 cc] w fun r w' => r = .returned (.tuple #[.string (str (kB e)), .int .i64 0]) ∧ Below w.heap.size w w' := by
  obtain ⟨k, t⟩ := e
  obtain ⟨⟨g1, g2⟩, g7, g8⟩ := h
  simp only at g1 g2 g7 g8
  have := row_good a c 2 ca cc (NmK ⟨k, t⟩) WdK (by decide) w h1 h2 (fun i hi => by
    obtain rfl | rfl : i = 0 ∨ i = 1 := by omega
    all_goals (simp only [NmK]; omega)) wdK_ok 2 (Nat.le_refl _) (fun i hi => by
    obtain rfl | rfl : i = 0 ∨ i = 1 := by omega
    · show k.toNat < 256 ^ 3; omega
    · show t.toNat < 256 ^ 2; omega) (fun h => by omega)
  refine this.mono fun e w' h => ?_
  have := h.1 rfl
  rw [rowl_k] at this
  exact this
theorem nodeB_snoc {T : Type} (row : T → List UInt8) {L : List T} {k : Nat} {e : T} (n : Nat) (h : L[k]? = some e) : fb n 1 ++ (L.take (k + 1)).flatMap row = (fb n 1 ++ (L.take k).flatMap row) ++ row e := by
  rw [List.take_add_one, h]; simp [List.append_assoc]
theorem part_len {T : Type} (row : T → List UInt8) (wd : Nat) (hw : ∀ x, (row x).length = wd) (L : List T) (n k : Nat) : (Lib.byteCells (fb n 1 ++ (L.take k).flatMap row)).length ≤ 1 + wd * L.length := by
  have h1 : (Lib.byteCells (fb n 1 ++ (L.take k).flatMap row)).length = (fb n 1 ++ (L.take k).flatMap row).length := by simp [Lib.byteCells]
  rw [h1, List.length_append, fb_length, flat_len row wd hw, List.length_take]
  have : wd * min k L.length ≤ wd * L.length := Nat.mul_le_mul_left _ (Nat.min_le_right _ _)
  omega

set_option maxHeartbeats 4000000 in
theorem writeE_no (L : List Ext) (len cap : Nat) (a : Option Addr) (c d : Value) (w : World)
    (HM : Hid (Calls Try.prog 25 #[.slice a len cap] w fun e w' => e = .returned (.bool false) ∧ Below w.heap.size w w')) :
    Calls Try.prog 24 #[.slice a len cap, .func (.func 25) #[] #[], c, d] w fun r w' => r = .returned (.tuple #[.string ⟨#[]⟩, .int .i64 1]) ∧ Below w.heap.size w w' := by
  go_enter Try.func24, Try.ntmps24
  go_wp2_with fail
  refine HM.out.mono ?_
  rintro e w1 ⟨rfl, hb1⟩
  go_wp2
  go_ret2
  exact ⟨rfl, hb1⟩
set_option maxHeartbeats 8000000 in
theorem writeE_ok (L : List Ext) (len cap : Nat) (hlen : len = L.length) (h8 : len ≤ 8) (a b : Option Addr) (cb : Nat) (w : World) (hr : Exs w a L) (hw : Row .i64 w b 4 WdE) (hf : ∀ e ∈ L, FitE e)
    (HM : Hid (Calls Try.prog 25 #[.slice a len cap] w fun e w' => e = .returned (.bool true) ∧ Below w.heap.size w w')) :
    Calls Try.prog 24 #[.slice a len cap, .func (.func 25) #[] #[], .slice b 4 cb, .func (.func 27) #[] #[]] w fun r w' => r = .returned (.tuple #[.string (str (nodeB eB L)), .int .i64 0]) ∧ Below w.heap.size w w' := by
  have HR := Lib.hid hr
  have HWD := Lib.hid hw
  have HF := Lib.hid hf
  have HL := Lib.hid hlen
  have HP := Lib.hid (put_ok len 1 (by omega) (by decide) (by decide) (by omega))
  obtain ⟨S0, hS0⟩ : ∃ S, S = str (fb len 1) := ⟨_, rfl⟩
  obtain ⟨S9, hS9⟩ : ∃ S, S = str (nodeB eB L) := ⟨_, rfl⟩
  obtain ⟨G, hG⟩ : ∃ G : Nat → List UInt8, ∀ k, G k = fb len 1 ++ (L.take k).flatMap eB := ⟨_, fun _ => rfl⟩
  have HLEN : Hid (∀ k, (Lib.byteCells (G k)).length ≤ 81) := Lib.hid fun k => by
    have := part_len eB 10 eB_len L len k
    rw [hG]; omega
  have HSZ : Hid (S0.size ≤ 1) := Lib.hid (by rw [hS0, str_size, fb_length]; exact Nat.le_refl _)
  have HG0 : Hid (([] : List Value) ++ Lib.strCells S0 = Lib.byteCells (G 0)) := Lib.hid (by
    have e0 := cells_cat [] (fb len 1)
    rw [hS0, hG, show (L.take 0).flatMap eB = [] from by simp, List.append_nil]; exact e0)
  have HND : Hid (str (G len) = S9) := Lib.hid (by
    rw [hG, hS9, List.take_of_length_le (by rw [← hlen]; exact Nat.le_refl _)]; unfold nodeB; rw [hlen])
  have HGS : Hid (∀ k e, L[k]? = some e → ∀ R, R = str (eB e) → Lib.byteCells (G k) ++ Lib.strCells R = Lib.byteCells (G (k + 1))) := Lib.hid fun k e he R hR => by
    rw [hR, hG, hG, cells_cat, ← nodeB_snoc eB len he]
  rw [← hS0] at HP
  rw [← hS9]
  clear hS0 hS9 hG
  have eU := u64_of (x := (len : Int)) (by omega) (by omega)
  clear hr hw hf hlen
  go_enter Try.func24, Try.ntmps24
  go_wp2_with fail
  refine HM.out.mono ?_
  rintro e w1 ⟨rfl, hb1⟩
  have HB1 := Lib.hid hb1
  have hsz1 := hb1.size
  clear hb1
  go_wp2_with fail
  refine (HP.out _).mono ?_
  rintro e w2 ⟨rfl, hb2⟩
  have hib2 := builder_kept (Lib.fresh_isBuilder _ 5 w1) hb2
  have HZ2 : Hid (w1.heap.size < w2.heap.size) := Lib.hid (by have := hb2.size; simp at this; omega)
  have HI2 := Lib.hid hib2
  have HB2 : Hid (Below w1.heap.size w1 w2) := Lib.hid ((below_box w1 _).trans (hb2.mono (below_box w1 _).size))
  clear hb2 hib2
  go_wp2_with fail
  refine (write_any w1.heap.size w1.heap.size _ S0 w2 HI2.out (by have := HSZ.out; simp; omega) (Nat.le_of_lt HZ2.out)).mono ?_
  rintro e w3 ⟨rfl, hbd3, hb3⟩
  rw [HG0.out] at hbd3
  have HBD3 := Lib.hid hbd3
  have HB3 : Hid (Below w1.heap.size w1 w3) := Lib.hid (HB2.out.trans hb3)
  clear hbd3 hb3
  go_wp2
  go_loopw [32] (fun i wr => ∃ k : Nat, k ≤ len ∧ i = .int .i64 k ∧ Hid (Lib.IsBuilder 80 5 w1.heap.size w1.heap.size (Lib.byteCells (G k)) wr) ∧ Below w1.heap.size w1 wr) (fun i _ => len - (intOf i).toNat)
  case atStart => exact ⟨0, Nat.zero_le _, rfl, Lib.hid (.inr HBD3.out), HB3.out⟩
  case round =>
    obtain ⟨k, hk, rfl, HBD, hbel⟩ := hrel
    have hsz := hbel.size
    have HBw : Hid (Below w.heap.size w wr) := Lib.hid (HB1.out.trans (hbel.mono hsz1))
    by_cases hlt : k < len
    · obtain ⟨e, he⟩ : ∃ e, L[k]? = some e := ⟨_, List.getElem?_eq_getElem (by rw [← HL.out]; exact hlt)⟩
      obtain ⟨gb, off, rfl, hb, hc⟩ : ∃ gb off, a = some ⟨gb, off, none⟩ ∧ gb < w.heap.size ∧ ∀ (i : Nat) (x : Ext), L[i]? = some x → Cells4 w gb (off + i * 4) x := by
        rcases HR.out with h0 | h0
        · rw [h0] at he; simp at he
        · exact h0
      obtain ⟨q0, q1, q2, q3⟩ := (hc k e he).kept HBw.out hb
      have hfe := HF.out e (List.mem_of_getElem? he)
      have HN := Lib.hid (extNumbers_any e hfe)
      have HRO := Lib.hid (row_e e hfe)
      obtain ⟨R, hR⟩ : ∃ R, R = str (eB e) := ⟨_, rfl⟩
      rw [← hR] at HRO
      have HSN := Lib.hid (HGS.out k e he R hR)
      have HRZ : Hid (R.size ≤ 10) := Lib.hid (by rw [hR, str_size, eB_len]; decide)
      have t1 : (k : Int) < (len : Int) := by omega
      have t2 : (0 : Int) ≤ (k : Int) := by omega
      have HB0 := Lib.hid hbel
      clear hc hfe he hbel hR
      go_wp2_with fail
      refine (HN.out _).mono ?_
      rintro r w4 ⟨X4, c4, rfl, hr4, hb4⟩
      have HBE : Hid (Below wr.heap.size wr w4) := Lib.hid ((below_box wr _).trans (hb4.mono (below_box wr _).size))
      have HR4 := Lib.hid hr4
      have HW4 : Hid (Row .i64 w4 b 4 WdE) := Lib.hid (HWD.out.kept (HBw.out.trans (HBE.out.mono HBw.out.size)) (Nat.le_refl _))
      clear hb4 hr4
      go_wp2_with fail
      refine (HRO.out _ _ _ _ _ HR4.out HW4.out).mono ?_
      rintro r w5 ⟨rfl, hb5⟩
      have HB5 : Hid (Below wr.heap.size wr w5) := Lib.hid (HBE.out.trans (hb5.mono HBE.out.size))
      have HZ5 : Hid (w1.heap.size ≤ w5.heap.size) := Lib.hid (Nat.le_trans hsz HB5.out.size)
      clear hb5
      go_wp2_with fail
      refine (write_any w1.heap.size w1.heap.size _ R w5 (builder_kept HBD.out HB5.out) (by have := HLEN.out k; have := HRZ.out; omega) HZ5.out).mono ?_
      rintro r w6 ⟨rfl, hbd6, hb6⟩
      rw [HSN.out] at hbd6
      have HBD6 := Lib.hid hbd6
      have HB6 : Hid (Below w1.heap.size w1 w6) := Lib.hid (HB0.out.trans ((HB5.out.mono hsz).trans hb6))
      clear hbd6 hb6
      go_wp2
      go_roundw
      case rel => exact ⟨k + 1, by omega, by go_num, Lib.hid (.inr HBD6.out), HB6.out⟩
      case measure => simp [intOf]; omega
    · obtain rfl : k = len := by omega
      have i0 : ¬ (k : Int) < (k : Int) := by omega
      have HBL := Lib.hid hbel
      clear hbel
      go_wp2_with fail
      refine (string_any w1.heap.size w1.heap.size _ wr HBD.out hsz).mono ?_
      rintro r w7 ⟨rfl, hb7⟩
      have HB7 := Lib.hid (HB1.out.trans ((HBL.out.trans hb7).mono hsz1))
      clear hb7
      go_wp2
      go_ret2
      exact ⟨by rw [← HND.out]; rfl, HB7.out⟩
theorem Leaf_no (L : List Ext) (len cap : Nat) (hlen : len = L.length) (hm : len ≤ maxLen) (a : Option Addr) (w : World) (hr : Exs w a L) (hwf : ∀ e ∈ L, WfE e) (h : ¬ Leafy L) :
    Calls Try.prog 10 #[.slice a len cap] w fun r w' => r = .returned (.tuple #[.string ⟨#[]⟩, .int .i64 1]) ∧ Below w.heap.size w w' := by
  have HM : Hid (∀ w1 : World, Below w.heap.size w w1 → Calls Try.prog 25 #[.slice a len cap] w1 fun e w' => e = .returned (.bool false) ∧ Below w1.heap.size w1 w') := Lib.hid fun w1 hb => by
    have := leafMayBe_any L len cap hlen hm a w1 (hr.below hb) hwf
    rwa [decide_eq_false h] at this
  clear hr h hlen
  go_enter Try.func10, Try.ntmps10
  go_wp2_with fail
  refine (extWidths_any _).mono ?_
  rintro r w1 ⟨rfl, hr1, hb1⟩
  have HB1 := Lib.hid hb1
  have HW := Lib.hid (writeE_no L len cap a (.slice (some ⟨w.heap.size, 0, none⟩) 4 4) (.func (.func 27) #[] #[]) w1 (Lib.hid (HM.out _ hb1)))
  clear hr1 hb1
  go_wp2_with fail
  refine HW.out.mono ?_
  rintro r w2 ⟨rfl, hb2⟩
  have HB2 := Lib.hid (bkept HB1.out hb2)
  clear hb2
  go_wp2
  go_ret2
  exact ⟨rfl, HB2.out⟩
set_option maxHeartbeats 4000000 in
theorem Leaf_ok (L : List Ext) (len cap : Nat) (hlen : len = L.length) (hm : len ≤ maxLen) (a : Option Addr) (w : World) (hr : Exs w a L) (h : Leafy L) :
    Calls Try.prog 10 #[.slice a len cap] w fun r w' => r = .returned (.tuple #[.string (str (nodeB eB L)), .int .i64 0]) ∧ Below w.heap.size w w' := by
  have HM : Hid (∀ w1 : World, Below w.heap.size w w1 → Calls Try.prog 25 #[.slice a len cap] w1 fun e w' => e = .returned (.bool true) ∧ Below w1.heap.size w1 w') := Lib.hid fun w1 hb => by
    have := leafMayBe_any L len cap hlen hm a w1 (hr.below hb) (fun e he => One.wf (h.2.1 e he))
    rwa [decide_eq_true h] at this
  have HR := Lib.hid hr
  have HH := Lib.hid h
  have HW : Hid (∀ (b : Option Addr) (w1 : World), Below w.heap.size w w1 → Row .i64 w1 b 4 WdE → Calls Try.prog 24 #[.slice a len cap, .func (.func 25) #[] #[], .slice b 4 4, .func (.func 27) #[] #[]] w1 fun r w' => r = .returned (.tuple #[.string (str (nodeB eB L)), .int .i64 0]) ∧ Below w1.heap.size w1 w') :=
    Lib.hid fun b w1 hb1 hr1 => writeE_ok L len cap hlen (by have := HH.out.1.2; omega) a b 4 w1 (HR.out.below hb1) hr1 (fun e he => One.fit (HH.out.2.1 e he)) (Lib.hid (HM.out _ hb1))
  obtain ⟨S9, hS9⟩ : ∃ S, S = str (nodeB eB L) := ⟨_, rfl⟩
  rw [← hS9] at HW
  rw [← hS9]
  clear hr h hS9 HM HR hlen
  go_enter Try.func10, Try.ntmps10
  go_wp2_with fail
  refine (extWidths_any _).mono ?_
  rintro r w1 ⟨rfl, hr1, hb1⟩
  have HB1 := Lib.hid hb1
  have HW1 := Lib.hid (HW.out (some ⟨w.heap.size, 0, none⟩) w1 hb1 hr1)
  clear hr1 hb1
  go_wp2_with fail
  refine HW1.out.mono ?_
  rintro r w2 ⟨rfl, hb2⟩
  have HB2 := Lib.hid (bkept HB1.out hb2)
  clear hb2
  go_wp2
  go_ret2
  exact ⟨rfl, HB2.out⟩

set_option maxHeartbeats 4000000 in
theorem writeK_no (L : List Kid) (len cap : Nat) (a : Option Addr) (c d : Value) (w : World)
    (HM : Hid (Calls Try.prog 31 #[.slice a len cap] w fun e w' => e = .returned (.bool false) ∧ Below w.heap.size w w')) :
    Calls Try.prog 30 #[.slice a len cap, .func (.func 31) #[] #[], c, d] w fun r w' => r = .returned (.tuple #[.string ⟨#[]⟩, .int .i64 1]) ∧ Below w.heap.size w w' := by
  go_enter Try.func30, Try.ntmps30
  go_wp2_with fail
  refine HM.out.mono ?_
  rintro e w1 ⟨rfl, hb1⟩
  go_wp2
  go_ret2
  exact ⟨rfl, hb1⟩
set_option maxHeartbeats 8000000 in
theorem writeK_ok (L : List Kid) (len cap : Nat) (hlen : len = L.length) (h8 : len ≤ 8) (a b : Option Addr) (cb : Nat) (w : World) (hr : Kds w a L) (hw : Row .i64 w b 2 WdK) (hf : ∀ e ∈ L, InK e)
    (HM : Hid (Calls Try.prog 31 #[.slice a len cap] w fun e w' => e = .returned (.bool true) ∧ Below w.heap.size w w')) :
    Calls Try.prog 30 #[.slice a len cap, .func (.func 31) #[] #[], .slice b 2 cb, .func (.func 33) #[] #[]] w fun r w' => r = .returned (.tuple #[.string (str (nodeB kB L)), .int .i64 0]) ∧ Below w.heap.size w w' := by
  have HR := Lib.hid hr
  have HWD := Lib.hid hw
  have HF := Lib.hid hf
  have HL := Lib.hid hlen
  have HP := Lib.hid (put_ok len 1 (by omega) (by decide) (by decide) (by omega))
  obtain ⟨S0, hS0⟩ : ∃ S, S = str (fb len 1) := ⟨_, rfl⟩
  obtain ⟨S9, hS9⟩ : ∃ S, S = str (nodeB kB L) := ⟨_, rfl⟩
  obtain ⟨G, hG⟩ : ∃ G : Nat → List UInt8, ∀ k, G k = fb len 1 ++ (L.take k).flatMap kB := ⟨_, fun _ => rfl⟩
  have HLEN : Hid (∀ k, (Lib.byteCells (G k)).length ≤ 81) := Lib.hid fun k => by
    have := part_len kB 5 kB_len L len k
    rw [hG]; omega
  have HSZ : Hid (S0.size ≤ 1) := Lib.hid (by rw [hS0, str_size, fb_length]; exact Nat.le_refl _)
  have HG0 : Hid (([] : List Value) ++ Lib.strCells S0 = Lib.byteCells (G 0)) := Lib.hid (by
    have e0 := cells_cat [] (fb len 1)
    rw [hS0, hG, show (L.take 0).flatMap kB = [] from by simp, List.append_nil]; exact e0)
  have HND : Hid (str (G len) = S9) := Lib.hid (by
    rw [hG, hS9, List.take_of_length_le (by rw [← hlen]; exact Nat.le_refl _)]; unfold nodeB; rw [hlen])
  have HGS : Hid (∀ k e, L[k]? = some e → ∀ R, R = str (kB e) → Lib.byteCells (G k) ++ Lib.strCells R = Lib.byteCells (G (k + 1))) := Lib.hid fun k e he R hR => by
    rw [hR, hG, hG, cells_cat, ← nodeB_snoc kB len he]
  rw [← hS0] at HP
  rw [← hS9]
  clear hS0 hS9 hG
  have eU := u64_of (x := (len : Int)) (by omega) (by omega)
  clear hr hw hf hlen
  go_enter Try.func30, Try.ntmps30
  go_wp2_with fail
  refine HM.out.mono ?_
  rintro e w1 ⟨rfl, hb1⟩
  have HB1 := Lib.hid hb1
  have hsz1 := hb1.size
  clear hb1
  go_wp2_with fail
  refine (HP.out _).mono ?_
  rintro e w2 ⟨rfl, hb2⟩
  have hib2 := builder_kept (Lib.fresh_isBuilder _ 5 w1) hb2
  have HZ2 : Hid (w1.heap.size < w2.heap.size) := Lib.hid (by have := hb2.size; simp at this; omega)
  have HI2 := Lib.hid hib2
  have HB2 : Hid (Below w1.heap.size w1 w2) := Lib.hid ((below_box w1 _).trans (hb2.mono (below_box w1 _).size))
  clear hb2 hib2
  go_wp2_with fail
  refine (write_any w1.heap.size w1.heap.size _ S0 w2 HI2.out (by have := HSZ.out; simp; omega) (Nat.le_of_lt HZ2.out)).mono ?_
  rintro e w3 ⟨rfl, hbd3, hb3⟩
  rw [HG0.out] at hbd3
  have HBD3 := Lib.hid hbd3
  have HB3 : Hid (Below w1.heap.size w1 w3) := Lib.hid (HB2.out.trans hb3)
  clear hbd3 hb3
  go_wp2
  go_loopw [32] (fun i wr => ∃ k : Nat, k ≤ len ∧ i = .int .i64 k ∧ Hid (Lib.IsBuilder 80 5 w1.heap.size w1.heap.size (Lib.byteCells (G k)) wr) ∧ Below w1.heap.size w1 wr) (fun i _ => len - (intOf i).toNat)
  case atStart => exact ⟨0, Nat.zero_le _, rfl, Lib.hid (.inr HBD3.out), HB3.out⟩
  case round =>
    obtain ⟨k, hk, rfl, HBD, hbel⟩ := hrel
    have hsz := hbel.size
    have HBw : Hid (Below w.heap.size w wr) := Lib.hid (HB1.out.trans (hbel.mono hsz1))
    by_cases hlt : k < len
    · obtain ⟨e, he⟩ : ∃ e, L[k]? = some e := ⟨_, List.getElem?_eq_getElem (by rw [← HL.out]; exact hlt)⟩
      obtain ⟨gb, off, rfl, hb, hc⟩ : ∃ gb off, a = some ⟨gb, off, none⟩ ∧ gb < w.heap.size ∧ ∀ (i : Nat) (x : Kid), L[i]? = some x → Cells2 w gb (off + i * 2) x := by
        rcases HR.out with h0 | h0
        · rw [h0] at he; simp at he
        · exact h0
      obtain ⟨q0, q1⟩ := (hc k e he).kept HBw.out hb
      have hfe := HF.out e (List.mem_of_getElem? he)
      have HN := Lib.hid (kidNumbers_any e hfe)
      have HRO := Lib.hid (row_k e hfe)
      obtain ⟨R, hR⟩ : ∃ R, R = str (kB e) := ⟨_, rfl⟩
      rw [← hR] at HRO
      have HSN := Lib.hid (HGS.out k e he R hR)
      have HRZ : Hid (R.size ≤ 10) := Lib.hid (by rw [hR, str_size, kB_len]; decide)
      have t1 : (k : Int) < (len : Int) := by omega
      have t2 : (0 : Int) ≤ (k : Int) := by omega
      have HB0 := Lib.hid hbel
      clear hc hfe he hbel hR
      go_wp2_with fail
      refine (HN.out _).mono ?_
      rintro r w4 ⟨X4, c4, rfl, hr4, hb4⟩
      have HBE : Hid (Below wr.heap.size wr w4) := Lib.hid ((below_box wr _).trans (hb4.mono (below_box wr _).size))
      have HR4 := Lib.hid hr4
      have HW4 : Hid (Row .i64 w4 b 2 WdK) := Lib.hid (HWD.out.kept (HBw.out.trans (HBE.out.mono HBw.out.size)) (Nat.le_refl _))
      clear hb4 hr4
      go_wp2_with fail
      refine (HRO.out _ _ _ _ _ HR4.out HW4.out).mono ?_
      rintro r w5 ⟨rfl, hb5⟩
      have HB5 : Hid (Below wr.heap.size wr w5) := Lib.hid (HBE.out.trans (hb5.mono HBE.out.size))
      have HZ5 : Hid (w1.heap.size ≤ w5.heap.size) := Lib.hid (Nat.le_trans hsz HB5.out.size)
      clear hb5
      go_wp2_with fail
      refine (write_any w1.heap.size w1.heap.size _ R w5 (builder_kept HBD.out HB5.out) (by have := HLEN.out k; have := HRZ.out; omega) HZ5.out).mono ?_
      rintro r w6 ⟨rfl, hbd6, hb6⟩
      rw [HSN.out] at hbd6
      have HBD6 := Lib.hid hbd6
      have HB6 : Hid (Below w1.heap.size w1 w6) := Lib.hid (HB0.out.trans ((HB5.out.mono hsz).trans hb6))
      clear hbd6 hb6
      go_wp2
      go_roundw
      case rel => exact ⟨k + 1, by omega, by go_num, Lib.hid (.inr HBD6.out), HB6.out⟩
      case measure => simp [intOf]; omega
    · obtain rfl : k = len := by omega
      have i0 : ¬ (k : Int) < (k : Int) := by omega
      have HBL := Lib.hid hbel
      clear hbel
      go_wp2_with fail
      refine (string_any w1.heap.size w1.heap.size _ wr HBD.out hsz).mono ?_
      rintro r w7 ⟨rfl, hb7⟩
      have HB7 := Lib.hid (HB1.out.trans ((HBL.out.trans hb7).mono hsz1))
      clear hb7
      go_wp2
      go_ret2
      exact ⟨by rw [← HND.out]; rfl, HB7.out⟩
theorem Inner_no (L : List Kid) (len cap : Nat) (hlen : len = L.length) (hm : len ≤ maxLen) (hcap : len ≤ cap) (a : Option Addr) (w : World) (hr : Kds w a L) (h : ¬ Kidy L) :
    Calls Try.prog 13 #[.slice a len cap] w fun r w' => r = .returned (.tuple #[.string ⟨#[]⟩, .int .i64 1]) ∧ Below w.heap.size w w' := by
  have HM : Hid (∀ w1 : World, Below w.heap.size w w1 → Calls Try.prog 31 #[.slice a len cap] w1 fun e w' => e = .returned (.bool false) ∧ Below w1.heap.size w1 w') := Lib.hid fun w1 hb => by
    have := innerMayBe_any L len cap hlen hm hcap a w1 (hr.below hb) 
    rwa [decide_eq_false h] at this
  clear hr h hlen
  go_enter Try.func13, Try.ntmps13
  go_wp2_with fail
  refine (kidWidths_any _).mono ?_
  rintro r w1 ⟨rfl, hr1, hb1⟩
  have HB1 := Lib.hid hb1
  have HW := Lib.hid (writeK_no L len cap a (.slice (some ⟨w.heap.size, 0, none⟩) 2 2) (.func (.func 33) #[] #[]) w1 (Lib.hid (HM.out _ hb1)))
  clear hr1 hb1
  go_wp2_with fail
  refine HW.out.mono ?_
  rintro r w2 ⟨rfl, hb2⟩
  have HB2 := Lib.hid (bkept HB1.out hb2)
  clear hb2
  go_wp2
  go_ret2
  exact ⟨rfl, HB2.out⟩
set_option maxHeartbeats 4000000 in
theorem Inner_ok (L : List Kid) (len cap : Nat) (hlen : len = L.length) (hm : len ≤ maxLen) (hcap : len ≤ cap) (a : Option Addr) (w : World) (hr : Kds w a L) (h : Kidy L) :
    Calls Try.prog 13 #[.slice a len cap] w fun r w' => r = .returned (.tuple #[.string (str (nodeB kB L)), .int .i64 0]) ∧ Below w.heap.size w w' := by
  have HM : Hid (∀ w1 : World, Below w.heap.size w w1 → Calls Try.prog 31 #[.slice a len cap] w1 fun e w' => e = .returned (.bool true) ∧ Below w1.heap.size w1 w') := Lib.hid fun w1 hb => by
    have := innerMayBe_any L len cap hlen hm hcap a w1 (hr.below hb) 
    rwa [decide_eq_true h] at this
  have HR := Lib.hid hr
  have HH := Lib.hid h
  have HW : Hid (∀ (b : Option Addr) (w1 : World), Below w.heap.size w w1 → Row .i64 w1 b 2 WdK → Calls Try.prog 30 #[.slice a len cap, .func (.func 31) #[] #[], .slice b 2 2, .func (.func 33) #[] #[]] w1 fun r w' => r = .returned (.tuple #[.string (str (nodeB kB L)), .int .i64 0]) ∧ Below w1.heap.size w1 w') :=
    Lib.hid fun b w1 hb1 hr1 => writeK_ok L len cap hlen (by have := HH.out.1.2; omega) a b 2 w1 (HR.out.below hb1) hr1 (HH.out.2.ink) (Lib.hid (HM.out _ hb1))
  obtain ⟨S9, hS9⟩ : ∃ S, S = str (nodeB kB L) := ⟨_, rfl⟩
  rw [← hS9] at HW
  rw [← hS9]
  clear hr h hS9 HM HR hlen
  go_enter Try.func13, Try.ntmps13
  go_wp2_with fail
  refine (kidWidths_any _).mono ?_
  rintro r w1 ⟨rfl, hr1, hb1⟩
  have HB1 := Lib.hid hb1
  have HW1 := Lib.hid (HW.out (some ⟨w.heap.size, 0, none⟩) w1 hb1 hr1)
  clear hr1 hb1
  go_wp2_with fail
  refine HW1.out.mono ?_
  rintro r w2 ⟨rfl, hb2⟩
  have HB2 := Lib.hid (bkept HB1.out hb2)
  clear hb2
  go_wp2
  go_ret2
  exact ⟨rfl, HB2.out⟩
end LF
end Go.Proofs.Ytmndbdkodijlbaa
