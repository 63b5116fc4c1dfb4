/- The law TopWays holds: its Go text answers true for every input, and leaves its arguments as they were. No condition beyond the statement's own. -/
import Derived.Test.YtdjlflinepefbabGreatRows
import Derived.Test.YtdjlflinepefbabGreatQ33
import Derived.Test.YtdjlflinepefbabGreatQ46
import Derived.Test.YtdjlflinepefbabGreatQ47
import Derived.Test.YtdjlflinepefbabGreatQ40
import Derived.ProofKit
import Derived.OpenShut
import Derived.ShutString
import Derived.ChangeOld
import Derived.Below
import Derived.SizedLaws

namespace Go.Proofs.YtdjlflinepefbabGreat.topWays
open Go.ChangeShapes Go.WideShapes Go.ChangeAt Go.RowKit
open Go.ChangeMaps (open_string shut_string)
open Go.Proofs.YtdjlflinepefbabGreat.FM
set_option linter.unusedVariables false
set_option linter.unusedSimpArgs false

theorem own : ownKnob Tryz.prog.godebug = none := by kernel_rfl
theorem laidOut : laidOutB Tryz.prog = true := by kernel_rfl

open MM EX OP TR TP

theorem over_front {e : Ext} {r : List Ext} (h : Valid (e :: r)) : over r e = e :: r :=
  uniq (over_ok (h.sub (List.sublist_cons_self e r)) (h.1 e (List.mem_cons_self ..))) h fun s => by
    rw [over_say (h.sub (List.sublist_cons_self e r)) (h.1 e (List.mem_cons_self ..))]; rfl
/-- Two trees of the call's own. -/
structure Two (w : World) (gt gu : Nat) (M K : List Ext) (wr : World) : Prop where
  t : TreeAt [gt, gu] wr gt M
  u : TreeAt [gt, gu] wr gu K
  vt : Valid M
  vu : Valid K
  ne : gt ≠ gu
  lt : w.heap.size ≤ gt
  lu : w.heap.size ≤ gu
  bel : Below w.heap.size w wr
theorem Two.below {w : World} {gt gu : Nat} {M K : List Ext} {wr w' : World} (h : Two w gt gu M K wr) (hb : Below wr.heap.size wr w') : Two w gt gu M K w' := ⟨h.t.below hb, h.u.below hb, h.vt, h.vu, h.ne, h.lt, h.lu, bkept h.bel hb⟩
theorem Two.hI {w : World} {gt gu : Nat} {M K : List Ext} {wr : World} (h : Two w gt gu M K wr) : ∀ b ∈ [gt, gu], b < wr.heap.size ∧ ∀ o x, wr.cell? ⟨b, o, none⟩ ≠ some (.int .i64 x) := by
  intro b hb
  rcases List.mem_cons.1 hb with rfl | hb
  · exact ⟨h.t.lt, h.t.not_int⟩
  · rw [List.mem_singleton.1 hb]
    exact ⟨h.u.lt, h.u.not_int⟩
theorem Two.nextT {w : World} {gt gu : Nat} {M M' K : List Ext} {wr w' : World} (h : Two w gt gu M K wr) (hv : Valid M') (hb : But gt wr w') (ht : TreeAt [gt, gu] w' gt M') : Two w gt gu M' K w' :=
  ⟨ht, h.u.but (by simp) h.ne.symm hb, hv, h.vu, h.ne, h.lt, h.lu, h.bel.trans (hb.below h.lt h.bel.size)⟩
theorem Two.nextU {w : World} {gt gu : Nat} {M K K' : List Ext} {wr w' : World} (h : Two w gt gu M K wr) (hv : Valid K') (hb : But gu wr w') (ht : TreeAt [gt, gu] w' gu K') : Two w gt gu M K' w' :=
  ⟨h.t.but (by simp) h.ne hb, ht, h.vt, hv, h.ne, h.lt, h.lu, h.bel.trans (hb.below h.lu h.bel.size)⟩
set_option maxRecDepth 100000 in
set_option maxHeartbeats 8000000 in
theorem walk (a0 : Option Addr) (len0 cap0 : Nat) (L0 : List OP.Lay) (w : World) (hl0 : len0 = L0.length) (lm0 : len0 ≤ maxLen) (w0 : OP.Lays w a0 L0) (wf0 : ∀ x ∈ L0, EX.WfE x.e) :
    Calls Tryz.prog 10 #[.slice a0 len0 cap0] w fun e w' => e = .returned (.bool true) ∧ Below w.heap.size w w' := by
  have HFI : Hid (∀ w, Calls Tryz.prog 32 #[] w fun e w' => e = .returned (.bool true) ∧ Below w.heap.size w w') := Lib.hid fine_any
  have HL := Lib.hid hl0
  have HX := Lib.hid w0
  have HWF := Lib.hid wf0
  clear hl0 w0 wf0
  go_enter Tryz.func10, Tryz.ntmps10
  go_wp2_with fail
  refine (new_any _).mono ?_
  rintro r W ⟨rfl, hW⟩
  have HW := Lib.hid hW
  clear hW
  go_wp2_with fail
  refine (new_any _).mono ?_
  rintro r W2 ⟨rfl, hW2⟩
  have hW := HW.out
  have hz : W.heap.size = w.heap.size + 1 := by rw [hW]; simp
  have hP : Two w w.heap.size W.heap.size [] [] W2 := by
    have h1 : Below w.heap.size w W := by rw [hW]; exact below_box _ _
    have h2 : Below W.heap.size W W2 := by rw [hW2]; exact below_box _ _
    refine ⟨?_, by rw [hW2]; exact TreeAt.new _ _, valid_nil, valid_nil, by omega, Nat.le_refl _, by omega, bkept h1 h2⟩
    refine TreeAt.below (w := W) ?_ h2
    conv => arg 2; rw [hW]
    exact TreeAt.new _ _
  obtain ⟨gu, hgu⟩ : ∃ g, g = W.heap.size := ⟨_, rfl⟩
  obtain ⟨gt, hgt⟩ : ∃ g, g = w.heap.size := ⟨_, rfl⟩
  rw [← hgu, ← hgt] at hP
  have HP := Lib.hid hP
  rw [← hgu, ← hgt]
  clear hW HW hW2 hz hP hgu hgt
  go_wp2_with fail
  refine (HFI.out _).mono ?_
  rintro r w2 ⟨rfl, hb2⟩
  have HP2 := Lib.hid (HP.out.below hb2)
  clear HP hb2
  go_wp2
  go_loopw [5] (fun i wr => ∃ (k : Nat) (M : List Ext), k ≤ len0 ∧ k ≤ 100 ∧ i = .int .i64 k ∧ Hid (M.length ≤ 3 * k) ∧ Hid (Two w gt gu M [] wr)) (fun i _ => len0 - (intOf i).toNat)
  case atStart => exact ⟨0, [], Nat.zero_le _, Nat.zero_le _, rfl, Lib.hid (Nat.le_refl _), HP2⟩
  case round =>
    obtain ⟨k, M, hk, hk2, rfl, HFEW0, HP3⟩ := hrel
    have HFEW : Hid (M.length ≤ 1000) := Lib.hid (by have := HFEW0.out; omega)
    by_cases hlt : k < len0
    · by_cases hlt2 : k < 100
      · obtain ⟨x, hx⟩ : ∃ x, L0[k]? = some x := ⟨_, List.getElem?_eq_getElem (by rw [← HL.out]; exact hlt)⟩
        obtain ⟨b, off, rfl, hb, ⟨q0, q1, q2, q3⟩, q4⟩ := (HX.out.kept HP3.out.bel (Nat.le_refl _)).get hx
        have HWX := Lib.hid (HWF.out x (List.mem_of_getElem? hx))
        have t1 : (k : Int) < (len0 : Int) := by omega
        have t2 : (0 : Int) ≤ (k : Int) := by omega
        have t3 : (k : Int) < 100 := by omega
        clear hx hb
        obtain ⟨⟨ef, en, ek, ea⟩, xc⟩ := x
        cases xc
        · by_cases ho : One ⟨ef, en, ek, ea⟩
          · have HT := Lib.hid (tover_yes HP3.out.t (by simp) HP3.out.hI HP3.out.vt (by have := HFEW.out; omega) ⟨ef, en, ek, ea⟩ ho)
            have HNX := Lib.hid (fun (w4 : World) (hbut : But gt wr w4) (ht : TreeAt [gt, gu] w4 gt (over M ⟨ef, en, ek, ea⟩)) => HP3.out.nextT (over_ok HP3.out.vt ho) hbut ht)
            have HF2 := Lib.hid (over_few' HP3.out.vt ho)
            clear ho
            go_wp2_with fail
            refine HT.out.mono ?_
            rintro r w4 ⟨rfl, hbut, ht⟩
            have HP4 := Lib.hid (HNX.out _ hbut ht)
            clear hbut ht HT q0 q1 q2 q3 q4
            go_wp2
            go_roundw
            case rel => exact ⟨k + 1, _, by omega, by omega, by go_num, Lib.hid (by have := HF2.out; have := HFEW0.out; omega), HP4⟩
            case measure => simp [intOf]; omega
          · have HT := Lib.hid (tover_no gt wr ⟨ef, en, ek, ea⟩ HWX.out ho)
            clear ho
            go_wp2_with fail
            refine HT.out.mono ?_
            rintro r w4 ⟨rfl, hb4⟩
            have HP4 := Lib.hid (HP3.out.below hb4)
            clear hb4 HT q0 q1 q2 q3 q4
            go_wp2
            go_roundw
            case rel => exact ⟨k + 1, M, by omega, by omega, by go_num, Lib.hid (by have := HFEW0.out; omega), HP4⟩
            case measure => simp [intOf]; omega
        · have HFF : Hid (ef ≤ 9223372036854775807) := Lib.hid HWX.out.1.2
          by_cases ho : Rng ef en 16777216
          · have HPD := Lib.hid (HP3.out.below (Below.refl _ _).drew)
            have HT := Lib.hid (tcut_yes HPD.out.t (by simp) HPD.out.hI HPD.out.vt (by have := HFEW.out; omega) ef en ho)
            have HNX := Lib.hid (fun (w4 : World) (hbut : But gt wr.drew w4) (ht : TreeAt [gt, gu] w4 gt (cut M ef en)) => HPD.out.nextT (cut_valid HPD.out.vt ho) hbut ht)
            have HF2 := Lib.hid (cut_few' HP3.out.vt ho)
            clear ho HPD
            go_wp2
            go_region_law (go_simp; go_at_call 23; (with_reducible refine HT.out.mono ?_); rintro r w4 ⟨rfl, hbut, ht⟩; have HP4 := Lib.hid (HNX.out _ hbut ht); clear hbut ht)
            all_goals
              clear HT q0 q1 q2 q3 q4
              go_wp2
              go_roundw
              case rel => exact ⟨k + 1, _, by omega, by omega, by go_num, Lib.hid (by have := HF2.out; have := HFEW0.out; omega), HP4⟩
              case measure => simp [intOf]; omega
          · have HT := Lib.hid (tcut_no gt wr.drew ef en HFF.out ho)
            have HPD := Lib.hid (HP3.out.below (Below.refl _ _).drew)
            clear ho
            go_wp2
            go_region_law (go_simp; go_at_call 23; (with_reducible refine HT.out.mono ?_); rintro r w4 ⟨rfl, hb4⟩; have HP4 := Lib.hid (HPD.out.below hb4); clear hb4)
            all_goals
              clear HT q0 q1 q2 q3 q4
              go_wp2
              go_roundw
              case rel => exact ⟨k + 1, M, by omega, by omega, by go_num, Lib.hid (by have := HFEW0.out; omega), HP4⟩
              case measure => simp [intOf]; omega
      · have t3 : ¬ (k : Int) < 100 := by omega
        have t1 : (k : Int) < (len0 : Int) := by omega
        clear hk hk2
        have HA := Lib.hid (all_any HP3.out.t HP3.out.vt (by have := HFEW.out; omega))
        go_wp2_with fail
        refine HA.out.mono ?_
        rintro r w3 ⟨A, n, c, rfl, hn, _, hx, _, hb3⟩
        have HP4 := Lib.hid (HP3.out.below hb3)
        have HN := Lib.hid hn
        have HEX := Lib.hid hx
        have hnm : n ≤ 1000 := by rw [hn]; exact HFEW.out
        clear hn hx hb3 HA
        go_wp2
        go_loopw [7] (fun i wr => ∃ (j : Nat) (z : Int), j ≤ n ∧ z = (j : Int) - 1 ∧ i = .int .i64 z ∧ Hid (Two w gt gu M (M.drop j) wr) ∧ Hid (Exs wr A M)) (fun i _ => (intOf i + 1).toNat)
        case atStart => exact ⟨n, (n : Int) - 1, Nat.le_refl _, rfl, by go_num, Lib.hid (by rw [HN.out, List.drop_length]; exact HP4.out), HEX⟩
        case round =>
          obtain ⟨j, z, hj, hz, rfl, HPJ, HXJ⟩ := hrel
          clear HP4 HEX HP3
          by_cases h0 : j = 0
          · subst h0
            obtain rfl : z = -1 := by omega
            clear hz hj
            have HPK : Hid (Two w gt gu M M wr) := HPJ
            clear HPJ
            have HA := Lib.hid (all_any HPK.out.u HPK.out.vu (by have := HFEW.out; omega))
            go_wp2_with fail
            refine HA.out.mono ?_
            rintro r w6 ⟨A6, n6, c6, rfl, hn6, _, hx6, _, hb6⟩
            have HP7 := Lib.hid (HPK.out.below hb6)
            have HAL := Lib.hid (talike_yes M n c6 c HN.out (by omega) A6 A w6 hx6 (HXJ.out.below hb6))
            have e6 : n6 = n := hn6.trans HN.out.symm
            subst e6
            clear hn6 hx6 hb6 HA
            go_wp2_with fail
            refine HAL.out.mono ?_
            rintro r w7 ⟨rfl, hb7⟩
            have HP8 := Lib.hid (HP7.out.below hb7)
            clear hb7 HAL
            have HCT := Lib.hid (tcount_any HP8.out.u HP8.out.vu (by have := HFEW.out; omega))
            go_wp2_with fail
            refine HCT.out.mono ?_
            rintro r w8 ⟨rfl, hb8⟩
            have HP9 := Lib.hid (HP8.out.below hb8)
            have HCE := Lib.hid (tcount_any HP9.out.t HP9.out.vt (by have := HFEW.out; omega))
            clear hb8 HCT
            go_wp2_with fail
            refine HCE.out.mono ?_
            rintro r w9 ⟨rfl, hb9⟩
            have HPA := Lib.hid (HP9.out.below hb9)
            clear hb9 HCE
            go_wp2
            go_ret
            exact ⟨by simp, HPA.out.bel⟩
          · obtain ⟨i, rfl⟩ : ∃ i, j = i + 1 := ⟨j - 1, by omega⟩
            obtain rfl : z = (i : Int) := by omega
            have hi : i < M.length := by rw [← HN.out]; omega
            obtain ⟨e, he⟩ : ∃ e, M[i]? = some e := ⟨_, List.getElem?_eq_getElem hi⟩
            have hdrop : M.drop i = e :: M.drop (i + 1) := by
              rw [List.drop_eq_getElem_cons hi]
              rw [List.getElem?_eq_getElem hi] at he
              rw [Option.some.inj he]
            have hvd : Valid (e :: M.drop (i + 1)) := by rw [← hdrop]; exact HPJ.out.vt.sub (List.drop_sublist _ _)
            have ho : One e := HPJ.out.vt.1 e (List.mem_of_getElem? he)
            have HT := Lib.hid (tover_yes HPJ.out.u (by simp) HPJ.out.hI HPJ.out.vu (by have := HFEW.out; rw [List.length_drop]; omega) e ho)
            rw [over_front hvd, ← hdrop] at HT
            have HNX := Lib.hid (fun (w4 : World) (hbut : But gu wr w4) (ht : TreeAt [gt, gu] w4 gu (M.drop i)) => (⟨HPJ.out.nextU (by rw [hdrop]; exact hvd) hbut ht, exs_but HXJ.out HPJ.out.u.not_int hbut⟩ : Two w gt gu M (M.drop i) w4 ∧ Exs w4 A M))
            obtain ⟨b2, o2, rfl, p0, p1, p2, p3⟩ := exs_at HXJ.out he
            have u1 : (0 : Int) ≤ (i : Int) := by omega
            have u2 : (i : Int) < (n : Int) := by omega
            clear hz he hdrop hvd ho h0 hi
            go_wp2_with fail
            refine HT.out.mono ?_
            rintro r w4 ⟨rfl, hbut, ht⟩
            have HQ := HNX.out _ hbut ht
            have HP5 := Lib.hid HQ.1
            have HX5 := Lib.hid HQ.2
            clear hbut ht HT HQ p0 p1 p2 p3
            go_wp2
            go_roundw
            case rel => exact ⟨i, (i : Int) - 1, by omega, rfl, by go_num, HP5, HX5⟩
            case measure => simp [intOf] <;> omega
    · have t1 : ¬ (k : Int) < (len0 : Int) := by omega
      clear hk hk2
      have HA := Lib.hid (all_any HP3.out.t HP3.out.vt (by have := HFEW.out; omega))
      go_wp2_with fail
      refine HA.out.mono ?_
      rintro r w3 ⟨A, n, c, rfl, hn, _, hx, _, hb3⟩
      have HP4 := Lib.hid (HP3.out.below hb3)
      have HN := Lib.hid hn
      have HEX := Lib.hid hx
      have hnm : n ≤ 1000 := by rw [hn]; exact HFEW.out
      clear hn hx hb3 HA
      go_wp2
      go_loopw [7] (fun i wr => ∃ (j : Nat) (z : Int), j ≤ n ∧ z = (j : Int) - 1 ∧ i = .int .i64 z ∧ Hid (Two w gt gu M (M.drop j) wr) ∧ Hid (Exs wr A M)) (fun i _ => (intOf i + 1).toNat)
      case atStart => exact ⟨n, (n : Int) - 1, Nat.le_refl _, rfl, by go_num, Lib.hid (by rw [HN.out, List.drop_length]; exact HP4.out), HEX⟩
      case round =>
        obtain ⟨j, z, hj, hz, rfl, HPJ, HXJ⟩ := hrel
        clear HP4 HEX HP3
        by_cases h0 : j = 0
        · subst h0
          obtain rfl : z = -1 := by omega
          clear hz hj
          have HPK : Hid (Two w gt gu M M wr) := HPJ
          clear HPJ
          have HA := Lib.hid (all_any HPK.out.u HPK.out.vu (by have := HFEW.out; omega))
          go_wp2_with fail
          refine HA.out.mono ?_
          rintro r w6 ⟨A6, n6, c6, rfl, hn6, _, hx6, _, hb6⟩
          have HP7 := Lib.hid (HPK.out.below hb6)
          have HAL := Lib.hid (talike_yes M n c6 c HN.out (by omega) A6 A w6 hx6 (HXJ.out.below hb6))
          have e6 : n6 = n := hn6.trans HN.out.symm
          subst e6
          clear hn6 hx6 hb6 HA
          go_wp2_with fail
          refine HAL.out.mono ?_
          rintro r w7 ⟨rfl, hb7⟩
          have HP8 := Lib.hid (HP7.out.below hb7)
          clear hb7 HAL
          have HCT := Lib.hid (tcount_any HP8.out.u HP8.out.vu (by have := HFEW.out; omega))
          go_wp2_with fail
          refine HCT.out.mono ?_
          rintro r w8 ⟨rfl, hb8⟩
          have HP9 := Lib.hid (HP8.out.below hb8)
          have HCE := Lib.hid (tcount_any HP9.out.t HP9.out.vt (by have := HFEW.out; omega))
          clear hb8 HCT
          go_wp2_with fail
          refine HCE.out.mono ?_
          rintro r w9 ⟨rfl, hb9⟩
          have HPA := Lib.hid (HP9.out.below hb9)
          clear hb9 HCE
          go_wp2
          go_ret
          exact ⟨by simp, HPA.out.bel⟩
        · obtain ⟨i, rfl⟩ : ∃ i, j = i + 1 := ⟨j - 1, by omega⟩
          obtain rfl : z = (i : Int) := by omega
          have hi : i < M.length := by rw [← HN.out]; omega
          obtain ⟨e, he⟩ : ∃ e, M[i]? = some e := ⟨_, List.getElem?_eq_getElem hi⟩
          have hdrop : M.drop i = e :: M.drop (i + 1) := by
            rw [List.drop_eq_getElem_cons hi]
            rw [List.getElem?_eq_getElem hi] at he
            rw [Option.some.inj he]
          have hvd : Valid (e :: M.drop (i + 1)) := by rw [← hdrop]; exact HPJ.out.vt.sub (List.drop_sublist _ _)
          have ho : One e := HPJ.out.vt.1 e (List.mem_of_getElem? he)
          have HT := Lib.hid (tover_yes HPJ.out.u (by simp) HPJ.out.hI HPJ.out.vu (by have := HFEW.out; rw [List.length_drop]; omega) e ho)
          rw [over_front hvd, ← hdrop] at HT
          have HNX := Lib.hid (fun (w4 : World) (hbut : But gu wr w4) (ht : TreeAt [gt, gu] w4 gu (M.drop i)) => (⟨HPJ.out.nextU (by rw [hdrop]; exact hvd) hbut ht, exs_but HXJ.out HPJ.out.u.not_int hbut⟩ : Two w gt gu M (M.drop i) w4 ∧ Exs w4 A M))
          obtain ⟨b2, o2, rfl, p0, p1, p2, p3⟩ := exs_at HXJ.out he
          have u1 : (0 : Int) ≤ (i : Int) := by omega
          have u2 : (i : Int) < (n : Int) := by omega
          clear hz he hdrop hvd ho h0 hi
          go_wp2_with fail
          refine HT.out.mono ?_
          rintro r w4 ⟨rfl, hbut, ht⟩
          have HQ := HNX.out _ hbut ht
          have HP5 := Lib.hid HQ.1
          have HX5 := Lib.hid HQ.2
          clear hbut ht HT HQ p0 p1 p2 p3
          go_wp2
          go_roundw
          case rel => exact ⟨i, (i : Int) - 1, by omega, rfl, by go_num, HP5, HX5⟩
          case measure => simp [intOf] <;> omega

set_option maxRecDepth 100000 in
theorem lifted (os : Os) (started : os.Started) (H : Type) (enc : TypeId × Value → H) :
    ReturnsInHanded {} Tryz.checked os 10 .any (Rows.topWaysSpec.pre6 enc Tryz.prog Tryz.f10 Rows.topWaysRow.domain false) (Rows.topWaysSpec.post enc Tryz.prog Tryz.f10 false true false false) := by
  refine returnsInHanded_of_change_sized (C := Tryz.checked) own started (by kernel_rfl) Tryz.func10
    (ChangeSpec.witness6 (enc := enc) (C := Tryz.checked) false ⟨#[], #[.slice none 0 0], []⟩ 8 (by kernel_rfl) (by kernel_rfl) (by kernel_rfl) (by kernel_rfl)) ?_
  intro W base args ds gs before hval0 hW hcnd hsz0 _
  have hval : ∀ (j : Nat) t v, Tryz.f10.params[j]? = some t → args[j]? = some v → Value.okWide Tryz.prog W .any base t v := hval0
  have hW' := hW
  obtain ⟨p, q, hA0, hV, rfl, hfz, hnd⟩ := hW
  have hA : DataW.TrodAll enc Tryz.prog W 0 (fun _ => true) true Tryz.f10.params.toList args.toList ds p := hA0
  have hsz : (DataW.weightsEach Tryz.prog (Tryz.f10.params.toList ++ Rows.topWaysSpec.plain.varTypes Tryz.prog) (ds ++ gs)).all (· ≤ reachBytes) = true := hsz0
  rw [Tryz.params10] at hA hval hsz
  obtain ⟨v0, vs0, d0, ds0, p0, q0, hargs, rfl, rfl, h0, r0⟩ := trodAll_cons hA
  obtain ⟨rfl, rfl, rfl⟩ := trodAll_nil r0
  obtain rfl : args = #[v0] := by cases args; simp_all
  obtain ⟨rfl, rfl⟩ := trodVars_none hV
  have k0 := h0
  have lt0 : ∀ x ∈ p0, x.block < W.heap.size := by obtain ⟨m, hm⟩ := k0; exact DataW.trod_lt m _ _ _ hm
  obtain ⟨a0, len0, cap0, L0, rfl, hl0, lm0, w0, wf0⟩ := OP.open_lays (hval 0 67 v0 rfl rfl) h0
  clear hA0 hval0 hsz0
  refine (walk a0 len0 cap0 L0 W hl0 lm0 w0 wf0).mono fun e W' ⟨he, bel⟩ => ?_
  subst he
  exact ⟨_, rfl, _, _, _, [], _, [], hW', trodAll_mk1 (shut_bool Tryz.underlying4 _), (trodAll_cons_mk (Below.trod laidOut (by kernel_rfl) (of_decide_eq_true (by kernel_rfl)) k0 bel lt0) trodAll_mk0), rfl, bel.frame _, fun h => by cases h⟩

theorem over : Rows.topWaysRow.holds Tryz.pinned (OpenSpec.ofChange Rows.topWaysSpec) :=
  OpenClaim.holds_of_wide 10 Tryz.f10 rfl rfl rfl rfl rfl rfl rfl ⟨rfl, rfl, rfl, rfl, rfl⟩ rfl rfl rfl rfl rfl (by kernel_rfl) Tryz.func10 (by kernel_rfl)
    (of_decide_eq_true (by kernel_rfl)) (by unfold Func.isWrapper; first | (rw [if_pos (by decide +kernel)]; kernel_rfl) | (rw [if_neg (by decide +kernel)]; exact ⟨rfl, rfl⟩))
    (fun os started H enc _ => lifted os started H enc)

theorem proved : Rows.TopWaysSaid := over
#print axioms proved
end Go.Proofs.YtdjlflinepefbabGreat.topWays
