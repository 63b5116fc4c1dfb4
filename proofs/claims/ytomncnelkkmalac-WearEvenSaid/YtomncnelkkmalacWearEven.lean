/- The law WearEven holds: its Go text answers true for every input, and leaves its arguments as they were. No condition beyond the statement's own. -/
import Derived.Test.YtomncnelkkmalacRows
import Derived.Test.YtomncnelkkmalacWrX
import Derived.Test.YtomncnelkkmalacWrW
import Derived.Test.YtomncnelkkmalacWrE
import Derived.Test.YtomncnelkkmalacWrF
import Derived.Test.YtomncnelkkmalacCutRow
import Derived.Test.YtomncnelkkmalacOpen
import Derived.BigRegion
import Derived.ProofKit
import Derived.OpenShut
import Derived.ShutString
import Derived.ChangeOld
import Derived.Below
import Derived.SizedLaws
namespace Go.Proofs.Ytomncnelkkmalac.wearEven
open Go.ChangeShapes Go.WideShapes Go.ChangeAt Go.RowKit
open Go.ChangeMaps (open_string shut_string)
open Go.Proofs.Ytomncnelkkmalac.FM
set_option linter.unusedVariables false
set_option linter.unusedSimpArgs false

theorem own : ownKnob Try.prog.godebug = none := by kernel_rfl
theorem laidOut : laidOutB Try.prog = true := by kernel_rfl

open MM WR

theorem up_of (a : Int) (n : Nat) (h : 1 ≤ n) (h2 : n ≤ 1000) : ∃ k : Nat, (wrap64 (a.tmod (n : Int) + (n : Int))).tmod (n : Int) = (k : Int) ∧ k < n := by
  have hp : (0 : Int) < (n : Int) := by omega
  have h1 := Int.tmod_lt_of_pos a hp
  have h2 := Int.lt_tmod_of_pos a hp
  generalize a.tmod (n : Int) = q at h1 h2 ⊢
  rw [IntWalk.wrap64_in _ ⟨by omega, by omega⟩, Int.tmod_eq_emod_of_nonneg (by omega)]
  have h3 := Int.emod_nonneg (q + (n : Int)) (by omega : (n : Int) ≠ 0)
  have h4 := Int.emod_lt_of_pos (q + (n : Int)) hp
  refine ⟨((q + (n : Int)) % (n : Int)).toNat, ?_, ?_⟩ <;> omega

theorem info_blk : (Try.prog.info? 33).map (fun i => (i.zero, i.size, i.bytes)) = some (some (.agg #[.int .i64 0, .int .i64 0, .int .i64 0]), 3, 24) := by kernel_rfl
theorem info_int : (Try.prog.info? 3).map (fun i => (i.zero, i.size, i.bytes)) = some (some (.int .i64 0), 1, 8) := by kernel_rfl
theorem size_int (w : World) : (sizeOf (Try.prog.elem 31)).run Try.prog w = .ok 1 w := by kernel_rfl
theorem elem_int : Try.prog.underlying 31 = some (.slice (Try.prog.elem 31)) := by kernel_rfl
theorem make_tab (w : World) (B : Nat) (h : B ≤ 64) : (Instr.makeSlice 22 (.int .i64 (B : Int)) (.int .i64 (B : Int))).run Try.prog w = .ok (.slice (some ⟨w.heap.size, 0, none⟩) B B) (w.alloc (.cells (tab (List.replicate B Bk.zero)) 33)) := by
  obtain ⟨i0, hi, hz0, hz1, hz2⟩ := info_parts info_blk
  have := run_make (P := Try.prog) w 22 33 i0 (.agg #[.int .i64 0, .int .i64 0, .int .i64 0]) Try.underlying22 hi hz0 .i64 .i64 (B : Int) (B : Int) (by omega) (Int.le_refl _) (by rw [hz2]; omega) (by omega)
  rw [hz1, Int.toNat_natCast] at this
  rw [this]
  rw [← made_tab]
  rfl

set_option maxRecDepth 100000 in
set_option maxHeartbeats 4000000 in
theorem walk (a0 : Int) (a1 : Int) (a2 : Int) (w : World) (w0 : (Lit.int .i64 a0).wf = true) (w1 : (Lit.int .i64 a1).wf = true) (w2 : (Lit.int .i64 a2).wf = true) :
    Calls Try.prog 4 #[.int .i64 a0, .int .i64 a1, .int .i64 a2] w fun e w' => e = .returned (.bool true) ∧ Below w.heap.size w w' := by
  obtain ⟨b, hb, hbl⟩ := up_of a0 63 (by omega) (by omega)
  have hb' : (wrap64 (a0.tmod 63 + 63)).tmod 63 = (b : Int) := hb
  clear hb
  obtain ⟨t, ht, htl⟩ := up_of a2 500 (by omega) (by omega)
  have ht' : (wrap64 (a2.tmod 500 + 500)).tmod 500 = (t : Int) := ht
  clear ht
  obtain ⟨n, hn⟩ : ∃ n, n = b + 1 := ⟨_, rfl⟩
  obtain ⟨B, hB⟩ : ∃ B, B = b + 2 := ⟨_, rfl⟩
  obtain ⟨k, hk, hkl⟩ := up_of a1 n (by omega) (by omega)
  obtain ⟨K, hK⟩ : ∃ K, K = k + 1 := ⟨_, rfl⟩
  have e1 : (2 : Int) + (b : Int) = (B : Int) := by omega
  have e2 : (B : Int) - 1 = (n : Int) := by omega
  have e3 : (1 : Int) + (k : Int) = (K : Int) := by omega
  have e4 : (K : Int) - 1 = (k : Int) := by omega
  have n0 : ¬ (n : Int) = 0 := by omega
  have n63 : n ≤ 63 := by omega
  have B64 : B ≤ 64 := by omega
  have K64 : K ≤ 64 := by omega
  have HkB := Lib.hid (show k + 2 ≤ B by omega)
  have hmk := make_tab w B B64
  obtain ⟨W, hW⟩ : ∃ W, W = w.alloc (.cells (tab (List.replicate B Bk.zero)) 33) := ⟨_, rfl⟩
  obtain ⟨H, hH⟩ : ∃ H, H = w.heap.size := ⟨_, rfl⟩
  have hblk : Blk W H 33 (tab (List.replicate B Bk.zero)) := by rw [hW, hH]; exact Blk.new w _ _
  have hbel : Below H w W := by rw [hW, hH]; exact (Below.refl _ w).alloc (Nat.le_refl _) _
  have hHW : H < W.heap.size := hblk.lt
  rw [← hW, ← hH] at hmk
  rw [← hH]
  obtain ⟨i0, hi, hz0, hz1, hz2⟩ := info_parts info_int
  clear hn hB hK hkl hbl hW hH
  go_enter Try.func4, Try.ntmps4
  go_wp2
  go_loopw [8, 9] (fun f i wr => ∃ (j : Nat) (L : List Bk) (Q : List Nat) (m : Int) (A : Option Addr) (c n : Nat), j ≤ t ∧ i = .int .i64 j ∧ f = .slice A n c ∧ n = Q.length ∧ Hid (Turn B k L Q m) ∧ Hid (m ≤ j) ∧ Blk wr H 33 (tab L) ∧ CutRow wr (H + 1) 3 A c Q ∧ Below H w wr) (fun _ i _ => t - (intOf i).toNat)
  case atStart => exact ⟨0, _, [], 0, none, 0, 0, Nat.zero_le _, rfl, rfl, rfl, Lib.hid (turn_start B k), Lib.hid (Int.le_refl _), hblk, cut_nil _ _ _, hbel⟩
  case round =>
    obtain ⟨j, L, Q, m, A, c, n, hj, rfl, rfl, hn, hT, hm, hblk, hcut, hbel⟩ := hrel
    clear hmk hHW
    by_cases hlt : j < t
    · have HB := Lib.hid hblk
      have HC := Lib.hid hcut
      have HBE := Lib.hid hbel
      have HN := Lib.hid hn
      clear hblk hcut hbel hn
      have j1 : (j : Int) < (t : Int) := by omega
      have HLT := Lib.hid hlt
      go_wp2_with fail
      refine (pick_any L B B (by rw [hT.out.len]) (by omega) (some ⟨H, 0, none⟩) _ (tab_bks HB.out)).mono ?_
      rintro r w1 ⟨p, rfl, hp, hb1⟩
      obtain ⟨q, e, rfl, hqB, he, hst, hqQ, hT2⟩ := turn_pick hT.out (by have := HkB.out; omega) hp
      have HB1 := Lib.hid (HB.out.below hb1 HB.out.lt)
      have HC1 := Lib.hid (HC.out.below hb1)
      have BE1 := Lib.hid (HBE.out.trans (hb1.mono (Nat.le_of_lt HB.out.lt)))
      have HT2 := Lib.hid hT2
      have HE := Lib.hid he
      have c0 : w1.cell? ⟨H, q * 3, none⟩ = some (.int .i64 0) := by rw [HB1.out.cell, (tab_get he).1, hst]
      have f0 : w1.frozen? ⟨H, q * 3, none⟩ = false := HB1.out.frozen _
      have q1 : (0 : Int) ≤ (q : Int) := by omega
      have q2 : (q : Int) < (B : Int) := by omega
      obtain ⟨W2, hW2⟩ : ∃ W2, w1.setCell ⟨H, q * 3, none⟩ (.int .i64 2) = W2 := ⟨_, rfl⟩
      have HB2 : Hid (Blk W2 H 33 (tab (L.set q ⟨2, e.va, e.wo⟩))) := Lib.hid (by rw [← hW2]; exact tab_set HB1.out he 2)
      have HC2 : Hid (CutRow W2 (H + 1) 3 A c Q) := Lib.hid (by rw [← hW2]; exact HC1.out.far HB1.out (by decide) _ _)
      have BE2 : Hid (Below H w W2) := Lib.hid (by rw [← hW2]; exact BE1.out.setCell (Nat.le_refl _) _)
      have hQl : n ≤ 100 := by have := HT2.out.few; have h9 := HN.out; simp at this; have := HkB.out; omega
      have HM := Lib.hid hm.out
      clear hb1 hT2 hp he hst hqQ hT hm HB HC HBE
      go_wp2_with (at_builtin; refine wpList_append_cut _ rfl _ _ 31 rfl (H + 1) 3 i0 (.int .i64 0) Try.underlying31 hi hz0 hz1 hz2 rfl A n c Q rfl HN.out ?c1 ?c2 ?c3 ⟨W2.heap.size, 0, none⟩ 1 q rfl ?c4 ?_)
      case c1 => exact HC2.out.below ((Below.refl _ _).alloc (Nat.le_refl _) _)
      case c2 => have := HB2.out.lt; simp; omega
      case c3 => rw [← HN.out]; omega
      case c4 => exact new_cells _ _ _ 0 _ rfl
      intro A3 c3 w3 hc3 hb3 hk3
      have HB3 := Lib.hid (hk3 H _ _ (by decide) (HB2.out.alloc _))
      have BE3 := Lib.hid ((BE2.out.alloc (Nat.le_of_lt HB2.out.lt) _).trans (hb3.mono (Nat.le_succ _)))
      have HC3 := Lib.hid hc3
      obtain ⟨L2, hL2⟩ : ∃ L2, L2 = L.set q ⟨2, e.va, e.wo⟩ := ⟨_, rfl⟩
      rw [← hL2] at HB3 HT2
      obtain ⟨Q2, hQ2⟩ : ∃ Q2, Q2 = Q ++ [q] := ⟨_, rfl⟩
      rw [← hQ2] at HC3 HT2
      have HN3 : Hid (n + 1 = Q2.length) := Lib.hid (by rw [hQ2, HN.out]; simp)
      clear hc3 hb3 hk3 hL2 hQ2 c0 f0 hW2 q1 q2 HC2 HB2 BE2 HC1 HB1 BE1 HE HN
      by_cases hg : k < n + 1
      · have hg1 : (k : Int) < (n : Int) + 1 := by omega
        obtain ⟨q0, Qt, hq⟩ : ∃ q0 Qt, Q2 = q0 :: Qt := by
          match Q2, HN3.out with
          | [], h => simp at h
          | a :: l, _ => exact ⟨a, l, rfl⟩
        subst hq
        obtain ⟨g, off, rfl, hgH, hgl, hd⟩ := HC3.out.head
        have hq0 := HT2.out.low q0 (List.mem_cons_self ..)
        obtain ⟨e0, he0⟩ : ∃ e0, L2[q0]? = some e0 := ⟨_, List.getElem?_eq_getElem (by rw [HT2.out.len]; exact hq0)⟩
        have p0 : w3.cell? ⟨H, q0 * 3, none⟩ = some (.int .i64 e0.st) := by rw [HB3.out.cell]; exact (tab_get he0).1
        have p1 : w3.cell? ⟨H, q0 * 3 + 1, none⟩ = some (.int .i64 e0.va) := by rw [HB3.out.cell]; exact (tab_get he0).2.1
        have p2 : w3.cell? ⟨H, q0 * 3 + 2, none⟩ = some (.int .i64 e0.wo) := by rw [HB3.out.cell]; exact (tab_get he0).2.2
        have f0 : w3.frozen? ⟨H, q0 * 3, none⟩ = false := HB3.out.frozen _
        have f1 : w3.frozen? ⟨H, q0 * 3 + 1, none⟩ = false := HB3.out.frozen _
        have f2 : w3.frozen? ⟨H, q0 * 3 + 2, none⟩ = false := HB3.out.frozen _
        have x01 : 0 ≤ e0.wo ∧ e0.wo ≤ 600 := by
          have h1 := (HT2.out.blk q0 e0 he0).2.2
          have h2 := HT2.out.pos
          have h3 := HM.out
          have h4 := HLT.out
          omega
        obtain ⟨x0, x1⟩ := x01
        have q1 : (0 : Int) ≤ (q0 : Int) := by omega
        have q2 : (q0 : Int) < (B : Int) := by omega
        have HE0 := Lib.hid he0
        clear he0 hq0
        go_wp2
        go_region
        obtain ⟨W4, hW4⟩ : ∃ W4, (((w3.setCell ⟨H, q0 * 3, none⟩ (.int .i64 0)).setCell ⟨H, q0 * 3 + 1, none⟩ (.int .i64 0)).setCell ⟨H, q0 * 3 + 2, none⟩ (.int .i64 (e0.wo + 1))).drew = W4 := ⟨_, rfl⟩
        rw [hW4]
        have HB4 : Hid (Blk W4 H 33 (tab (L2.set q0 ⟨0, 0, e0.wo + 1⟩))) := Lib.hid (by rw [← hW4]; exact tab_set3 HB3.out HE0.out 0 0 (e0.wo + 1))
        have hc4 : CutRow W4 (H + 1) 3 (some ⟨g, off, none⟩) c3 (q0 :: Qt) := by
          rw [← hW4]
          exact (((HC3.out.far HB3.out (by decide) _ _).far (HB3.out.set_ _ _) (by decide) _ _).far ((HB3.out.set_ _ _).set_ _ _) (by decide) _ _).below (Below.refl _ _).drew
        have BE4 : Hid (Below H w W4) := Lib.hid (by rw [← hW4]; exact (((BE3.out.setCell (Nat.le_refl _) _).setCell (Nat.le_refl _) _).setCell (Nat.le_refl _) _).drew)
        have hnq : Qt.length = n := by have := HN3.out; simp at this; omega
        obtain ⟨A4, c4, hs4, hc5⟩ := run_tail_cut W4 31 (H + 1) 3 elem_int size_int _ c3 q0 Qt hc4
        rw [hnq] at hs4
        have HC4 := Lib.hid hc5
        obtain ⟨m4, hm4, ht4⟩ := turn_erase HT2.out HE0.out
        have HT4 := Lib.hid ht4
        have HM4 : Hid (m4 ≤ (j : Int) + 1) := Lib.hid (by have := HM.out; omega)
        obtain ⟨L4, hL4⟩ : ∃ L4, L4 = L2.set q0 ⟨0, 0, e0.wo + 1⟩ := ⟨_, rfl⟩
        rw [← hL4] at HB4 HT4
        clear hW4 hc4 hc5 ht4 hm4 hL4 p0 p1 p2 f0 f1 f2 hd x0 x1 q1 q2 HC3 HB3 BE3 HT2
        go_wp2_with fail
        refine (gap_any L4 B B (by rw [HT4.out.len]) (by omega) (some ⟨H, 0, none⟩) _ (tab_bks HB4.out) (turn_wf HT4.out (by have h1 := HM4.out; have h2 := HLT.out; omega))).mono ?_
        rintro r w5 ⟨g1, rfl, hg1, hb5⟩
        obtain ⟨g10, g11⟩ := turn_gap HT4.out hg1
        have gg1 : ¬ (1 : Int) < g1 := by omega
        have HB5 := Lib.hid (HB4.out.below hb5 HB4.out.lt)
        have HC5 := Lib.hid (HC4.out.below hb5)
        have BE5 := Lib.hid (BE4.out.trans (hb5.mono (Nat.le_of_lt HB4.out.lt)))
        clear hg1 hb5
        go_wp2_with fail
        refine (gap_any L4 B B (by rw [HT4.out.len]) (by omega) (some ⟨H, 0, none⟩) _ (tab_bks HB5.out) (turn_wf HT4.out (by have h1 := HM4.out; have h2 := HLT.out; omega))).mono ?_
        rintro r w6 ⟨g2, rfl, hg2, hb6⟩
        obtain ⟨g20, g21⟩ := turn_gap HT4.out hg2
        have gg2 : ¬ g2 < 0 := by omega
        have HB6 := Lib.hid (HB5.out.below hb6 HB5.out.lt)
        have HC6 := Lib.hid (HC5.out.below hb6)
        have BE6 := Lib.hid (BE5.out.trans (hb6.mono (Nat.le_of_lt HB5.out.lt)))
        clear hg2 hb6
        go_wp2
        go_roundw
        case rel => exact ⟨j + 1, L4, Qt, _, A4, c4, n, by have := HLT.out; omega, by go_num, rfl, hnq.symm, HT4, Lib.hid (by have := HM4.out; omega), HB6.out, HC6.out, BE6.out⟩
        case measure => simp [intOf] <;> (have := HLT.out; omega)
      · have hg1 : ¬ (k : Int) < (n : Int) + 1 := by omega
        have HT4 := Lib.hid (turn_keep (d := k) HT2.out (by rw [← HN3.out]; omega))
        have HM4 : Hid (m ≤ (j : Int) + 1) := Lib.hid (by have := HM.out; omega)
        clear HT2
        go_wp2_with fail
        refine (gap_any L2 B B (by rw [HT4.out.len]) (by omega) (some ⟨H, 0, none⟩) _ (tab_bks HB3.out) (turn_wf HT4.out (by have h1 := HM4.out; have h2 := HLT.out; omega))).mono ?_
        rintro r w5 ⟨g1, rfl, hg1, hb5⟩
        obtain ⟨g10, g11⟩ := turn_gap HT4.out hg1
        have gg1 : ¬ (1 : Int) < g1 := by omega
        have HB5 := Lib.hid (HB3.out.below hb5 HB3.out.lt)
        have HC5 := Lib.hid (HC3.out.below hb5)
        have BE5 := Lib.hid (BE3.out.trans (hb5.mono (Nat.le_of_lt HB3.out.lt)))
        clear hg1 hb5
        go_wp2_with fail
        refine (gap_any L2 B B (by rw [HT4.out.len]) (by omega) (some ⟨H, 0, none⟩) _ (tab_bks HB5.out) (turn_wf HT4.out (by have h1 := HM4.out; have h2 := HLT.out; omega))).mono ?_
        rintro r w6 ⟨g2, rfl, hg2, hb6⟩
        obtain ⟨g20, g21⟩ := turn_gap HT4.out hg2
        have gg2 : ¬ g2 < 0 := by omega
        have HB6 := Lib.hid (HB5.out.below hb6 HB5.out.lt)
        have HC6 := Lib.hid (HC5.out.below hb6)
        have BE6 := Lib.hid (BE5.out.trans (hb6.mono (Nat.le_of_lt HB5.out.lt)))
        clear hg2 hb6
        go_wp2
        go_roundw
        case rel => exact ⟨j + 1, L2, Q2, _, A3, c3, n + 1, by have := HLT.out; omega, by go_num, rfl, HN3.out, HT4, Lib.hid (by have := HM4.out; omega), HB6.out, HC6.out, BE6.out⟩
        case measure => simp [intOf] <;> (have := HLT.out; omega)
    · obtain rfl : j = t := by omega
      have i0 : ¬ (j : Int) < (j : Int) := by omega
      have HBE := Lib.hid hbel
      have HHL := Lib.hid hblk.lt
      clear hblk hcut hbel hn hT hm
      go_wp2_with fail
      refine (awake_any _).mono ?_
      rintro r w5 ⟨rfl, hb5⟩
      have B5 : Hid (Below H w w5) := Lib.hid (HBE.out.trans (hb5.mono (Nat.le_of_lt HHL.out)))
      clear hb5
      go_wp2
      go_ret
      exact ⟨rfl, B5.out⟩

set_option maxRecDepth 100000 in
theorem lifted (os : Os) (started : os.Started) (H : Type) (enc : TypeId × Value → H) :
    ReturnsInHanded {} Try.checked os 4 .any (Rows.wearEvenSpec.pre6 enc Try.prog Try.f4 Rows.wearEvenRow.domain false) (Rows.wearEvenSpec.post enc Try.prog Try.f4 false true false false) := by
  refine returnsInHanded_of_change_sized (C := Try.checked) own started (by kernel_rfl) Try.func4
    (ChangeSpec.witness6 (enc := enc) (C := Try.checked) false ⟨#[], #[.int .i64 0, .int .i64 0, .int .i64 0], []⟩ 8 (by kernel_rfl) (by kernel_rfl) (by kernel_rfl) (by kernel_rfl)) ?_
  intro W base args ds gs before hval0 hW hcnd hsz0 _
  have hval : ∀ (j : Nat) t v, Try.f4.params[j]? = some t → args[j]? = some v → Value.okWide Try.prog W .any base t v := hval0
  have hW' := hW
  obtain ⟨p, q, hA0, hV, rfl, hfz, hnd⟩ := hW
  have hA : DataW.TrodAll enc Try.prog W 0 (fun _ => true) true Try.f4.params.toList args.toList ds p := hA0
  have hsz : (DataW.weightsEach Try.prog (Try.f4.params.toList ++ Rows.wearEvenSpec.plain.varTypes Try.prog) (ds ++ gs)).all (· ≤ reachBytes) = true := hsz0
  rw [Try.params4] at hA hval hsz
  obtain ⟨v0, vs0, d0, ds0, p0, q0, hargs, rfl, rfl, h0, r0⟩ := trodAll_cons hA
  obtain ⟨v1, vs1, d1, ds1, p1, q1, rfl, rfl, rfl, h1, r1⟩ := trodAll_cons r0
  obtain ⟨v2, vs2, d2, ds2, p2, q2, rfl, rfl, rfl, h2, r2⟩ := trodAll_cons r1
  obtain ⟨rfl, rfl, rfl⟩ := trodAll_nil r2
  obtain rfl : args = #[v0, v1, v2] := by cases args; simp_all
  obtain ⟨rfl, rfl⟩ := trodVars_none hV
  obtain ⟨a0, rfl, rfl, rfl, w0⟩ := open_int Try.underlying3 (hval 0 3 v0 rfl rfl) h0
  obtain ⟨a1, rfl, rfl, rfl, w1⟩ := open_int Try.underlying3 (hval 1 3 v1 rfl rfl) h1
  obtain ⟨a2, rfl, rfl, rfl, w2⟩ := open_int Try.underlying3 (hval 2 3 v2 rfl rfl) h2
  clear hA0 hval0 hsz0
  refine (walk a0 a1 a2 W w0 w1 w2).mono fun e W' ⟨he, bel⟩ => ?_
  subst he
  exact ⟨_, rfl, _, _, _, [], _, [], hW', trodAll_mk1 (shut_bool Try.underlying4 _), (trodAll_cons_mk (shut_int Try.underlying3 w0) (trodAll_cons_mk (shut_int Try.underlying3 w1) (trodAll_cons_mk (shut_int Try.underlying3 w2) trodAll_mk0))), rfl, bel.frame _, fun h => by cases h⟩

theorem over : Rows.wearEvenRow.holds Try.pinned (OpenSpec.ofChange Rows.wearEvenSpec) :=
  OpenClaim.holds_of_wide 4 Try.f4 rfl rfl rfl rfl rfl rfl rfl ⟨rfl, rfl, rfl, rfl, rfl⟩ rfl rfl rfl rfl rfl (by kernel_rfl) Try.func4 (by kernel_rfl)
    (of_decide_eq_true (by kernel_rfl)) (by unfold Func.isWrapper; first | (rw [if_pos (by decide +kernel)]; kernel_rfl) | (rw [if_neg (by decide +kernel)]; exact ⟨rfl, rfl⟩))
    (fun os started H enc _ => lifted os started H enc)

theorem proved : Rows.WearEvenSaid := over
#print axioms proved
end Go.Proofs.Ytomncnelkkmalac.wearEven
