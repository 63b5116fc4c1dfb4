/- The law TopTree holds: its Go text answers true for every input, and leaves its arguments as they were. No condition beyond the statement's own. -/
import Derived.Test.YtdjlflinepefbabGreatRows
import Derived.Test.YtdjlflinepefbabGreatQ33
import Derived.Test.YtdjlflinepefbabGreatQ46
import Derived.Test.YtdjlflinepefbabGreatQ47
import Derived.Test.YtdjlflinepefbabGreatQ40
import Derived.ProofKit
import Derived.OpenShut
import Derived.ShutString
import Derived.ChangeOld
import Derived.Below
import Derived.SizedLaws

namespace Go.Proofs.YtdjlflinepefbabGreat.topTree
open Go.ChangeShapes Go.WideShapes Go.ChangeAt Go.RowKit
open Go.ChangeMaps (open_string shut_string)
open Go.Proofs.YtdjlflinepefbabGreat.FM
set_option linter.unusedVariables false
set_option linter.unusedSimpArgs false

theorem own : ownKnob Tryz.prog.godebug = none := by kernel_rfl
theorem laidOut : laidOutB Tryz.prog = true := by kernel_rfl

open MM EX OP TR TP

theorem i64_hi {x : Int} (h : (Lit.int .i64 x).wf = true) : x ≤ 9223372036854775807 := by
  have : -9223372036854775808 ≤ x ∧ x ≤ 9223372036854775807 := by simpa [Lit.wf, IntKind.min, IntKind.max, IntKind.signed, IntKind.bits] using h
  exact this.2
set_option maxRecDepth 100000 in
set_option maxHeartbeats 8000000 in
theorem walk (a0 : Option Addr) (len0 cap0 : Nat) (L0 : List OP.Lay) (a1 : Int) (w : World) (hl0 : len0 = L0.length) (lm0 : len0 ≤ maxLen) (w0 : OP.Lays w a0 L0) (wf0 : ∀ x ∈ L0, EX.WfE x.e) (w1 : (Lit.int .i64 a1).wf = true) :
    Calls Tryz.prog 9 #[.slice a0 len0 cap0, .int .i64 a1] w fun e w' => e = .returned (.bool true) ∧ Below w.heap.size w w' := by
  have HFI : Hid (∀ w, Calls Tryz.prog 32 #[] w fun e w' => e = .returned (.bool true) ∧ Below w.heap.size w w') := Lib.hid fine_any
  have HL := Lib.hid hl0
  have HX := Lib.hid w0
  have HWF := Lib.hid wf0
  have HS : Hid (a1 ≤ 9223372036854775807) := Lib.hid (i64_hi w1)
  clear hl0 w0 wf0 w1
  go_enter Tryz.func9, Tryz.ntmps9
  go_wp2_with fail
  refine (new_any _).mono ?_
  rintro r W ⟨rfl, hW⟩
  have hP : Pair w w.heap.size none 0 0 [] W := ⟨by rw [hW]; exact TreeAt.new _ _, valid_nil, Nat.le_refl _, rfl, .inl rfl, Nat.le_refl _, by rw [hW]; exact below_box _ _⟩
  obtain ⟨g, hg⟩ : ∃ g, g = w.heap.size := ⟨_, rfl⟩
  rw [← hg] at hP
  have HG := Lib.hid hg
  have HP := Lib.hid hP
  rw [← hg]
  clear hW hg hP
  go_wp2_with fail
  refine (HFI.out _).mono ?_
  rintro r w2 ⟨rfl, hb2⟩
  have HP2 := Lib.hid (HP.out.below hb2)
  clear HP hb2
  go_wp2
  go_loopw [6, 7] (fun m i wr => ∃ (k n c : Nat) (A : Option Addr) (M : List Ext), k ≤ len0 ∧ k ≤ 150 ∧ i = .int .i64 k ∧ m = .slice A n c ∧ Hid (Pair w g A n k M wr)) (fun _ i _ => len0 - (intOf i).toNat)
  case atStart => exact ⟨0, 0, 0, none, [], Nat.zero_le _, Nat.zero_le _, rfl, rfl, HP2⟩
  case round =>
    obtain ⟨k, n, c, A, M, hk, hk2, rfl, rfl, HP3⟩ := hrel
    have HFEW : Hid (M.length ≤ 1000) := Lib.hid (by have := HP3.out.few; omega)
    by_cases hlt : k < len0
    · by_cases hlt2 : k < 150
      · obtain ⟨x, hx⟩ : ∃ x, L0[k]? = some x := ⟨_, List.getElem?_eq_getElem (by rw [← HL.out]; exact hlt)⟩
        obtain ⟨b, off, rfl, hb, ⟨q0, q1, q2, q3⟩, q4⟩ := (HX.out.kept HP3.out.bel (Nat.le_refl _)).get hx
        have HWX := Lib.hid (HWF.out x (List.mem_of_getElem? hx))
        have t1 : (k : Int) < (len0 : Int) := by omega
        have t2 : (0 : Int) ≤ (k : Int) := by omega
        have t3 : (k : Int) < 150 := by omega
        clear hx hb
        obtain ⟨⟨ef, en, ek, ea⟩, xc⟩ := x
        obtain ⟨V, hV⟩ : ∃ V, V = wr.alloc (.cells #[.int .i64 ef, .int .i64 en, .int .i64 ek, .int .i64 ea, .bool xc] 70) := ⟨_, rfl⟩
        have hbV : Below wr.heap.size wr V := by rw [hV]; exact below_box _ _
        have HPV := Lib.hid (HP3.out.below hbV)
        have HBX : Hid (Blk V wr.heap.size 70 #[.int .i64 ef, .int .i64 en, .int .i64 ek, .int .i64 ea, .bool xc]) := Lib.hid (by rw [hV]; exact Blk.new _ _ _)
        have HV := Lib.hid hV
        clear hV hbV
        cases xc
        · have HO1 := Lib.hid (over_any M n c HPV.out.len (by have := HPV.out.len; have := HFEW.out; unfold maxLen; omega) A ⟨ef, en, ek, ea⟩ HWX.out V HPV.out.row (fun e he => (HPV.out.valid.1 e he).wf))
          go_wp2_with fail
          rw [← HV.out]
          refine HO1.out.mono ?_
          rintro r w3 (⟨⟨_, ho⟩, A', n', c', rfl, hn', hx', hb'⟩ | ⟨hno, rfl, hb'⟩)
          · have HT := Lib.hid (tover_yes (HPV.out.below hb').tree (List.mem_singleton.2 rfl) (HPV.out.below hb').hI HPV.out.valid (by have := HFEW.out; omega) ⟨ef, en, ek, ea⟩ ho)
            have HNX := Lib.hid (fun (w4 : World) (hbut : But g w3 w4) (ht : TreeAt [g] w4 g (over M ⟨ef, en, ek, ea⟩)) => HPV.out.next hb' hx' hn' (over_ok HPV.out.valid ho) (over_few' HPV.out.valid ho) hbut ht)
            have hB3 := HBX.out.below hb' HBX.out.lt
            have m0 := hB3.cell 0
            have m1 := hB3.cell 1
            have m2 := hB3.cell 2
            have m3 := hB3.cell 3
            clear hn' hx' hb' ho hB3 q0 q1 q2 q3 q4
            go_wp2_with fail
            refine HT.out.mono ?_
            rintro r w4 ⟨rfl, hbut, ht⟩
            have HP4 := Lib.hid (HNX.out _ hbut ht)
            clear hbut ht HT m0 m1 m2 m3
            go_wp2
            go_roundw
            case rel => exact ⟨k + 1, n', c', A', _, by omega, by omega, by go_num, rfl, HP4⟩
            case measure => simp [intOf]; omega
          · have ho : ¬ One ⟨ef, en, ek, ea⟩ := fun h => hno ⟨HPV.out.valid, h⟩
            have HT := Lib.hid (tover_no g w3 ⟨ef, en, ek, ea⟩ HWX.out ho)
            have HP3' := Lib.hid (HPV.out.below hb')
            have hB3 := HBX.out.below hb' HBX.out.lt
            have m0 := hB3.cell 0
            have m1 := hB3.cell 1
            have m2 := hB3.cell 2
            have m3 := hB3.cell 3
            clear hb' ho hno hB3 q0 q1 q2 q3 q4
            go_wp2_with fail
            refine HT.out.mono ?_
            rintro r w4 ⟨rfl, hb4⟩
            have HP4 := Lib.hid (HP3'.out.below hb4).up
            clear hb4 HT m0 m1 m2 m3
            go_wp2
            go_roundw
            case rel => exact ⟨k + 1, n, c, A, M, by omega, by omega, by go_num, rfl, HP4⟩
            case measure => simp [intOf]; omega
        · have HO1 := Lib.hid (cut_any M n c HPV.out.len (by have := HPV.out.len; have := HFEW.out; unfold maxLen; omega) A ef en HWX.out.1.2 V HPV.out.row (fun e he => (HPV.out.valid.1 e he).wf))
          have HFF : Hid (ef ≤ 9223372036854775807) := Lib.hid HWX.out.1.2
          go_wp2_with fail
          rw [← HV.out]
          refine HO1.out.mono ?_
          rintro r w3 (⟨⟨_, ho⟩, A', n', c', rfl, hn', hx', hb'⟩ | ⟨hno, rfl, hb'⟩)
          · have HT := Lib.hid (tcut_yes (HPV.out.below hb').tree (List.mem_singleton.2 rfl) (HPV.out.below hb').hI HPV.out.valid (by have := HFEW.out; omega) ef en ho)
            have HNX := Lib.hid (fun (w4 : World) (hbut : But g w3 w4) (ht : TreeAt [g] w4 g (cut M ef en)) => HPV.out.next hb' hx' hn' (cut_valid HPV.out.valid ho) (cut_few' HPV.out.valid ho) hbut ht)
            have hB3 := HBX.out.below hb' HBX.out.lt
            have m0 := hB3.cell 0
            have m1 := hB3.cell 1
            clear hn' hx' hb' ho hB3 q0 q1 q2 q3 q4
            go_wp2_with fail
            refine HT.out.mono ?_
            rintro r w4 ⟨rfl, hbut, ht⟩
            have HP4 := Lib.hid (HNX.out _ hbut ht)
            clear hbut ht HT m0 m1
            go_wp2
            go_roundw
            case rel => exact ⟨k + 1, n', c', A', _, by omega, by omega, by go_num, rfl, HP4⟩
            case measure => simp [intOf]; omega
          · have ho : ¬ Rng ef en 16777216 := fun h => hno ⟨HPV.out.valid, h⟩
            have HT := Lib.hid (tcut_no g w3 ef en HFF.out ho)
            have HP3' := Lib.hid (HPV.out.below hb')
            have hB3 := HBX.out.below hb' HBX.out.lt
            have m0 := hB3.cell 0
            have m1 := hB3.cell 1
            clear hb' ho hno hB3 q0 q1 q2 q3 q4
            go_wp2_with fail
            refine HT.out.mono ?_
            rintro r w4 ⟨rfl, hb4⟩
            have HP4 := Lib.hid (HP3'.out.below hb4).up
            clear hb4 HT m0 m1
            go_wp2
            go_roundw
            case rel => exact ⟨k + 1, n, c, A, M, by omega, by omega, by go_num, rfl, HP4⟩
            case measure => simp [intOf]; omega
      · have t3 : ¬ (k : Int) < 150 := by omega
        have t1 : (k : Int) < (len0 : Int) := by omega
        have HF1 := Lib.hid (tfind_any HP3.out.tree HP3.out.valid a1 HS.out)
        clear hk hk2
        go_wp2_with fail
        refine HF1.out.mono ?_
        rintro r w3 ⟨rfl, hb3⟩
        have HP4 := Lib.hid (HP3.out.below hb3)
        have HF2 := Lib.hid (find_any M n c HP4.out.len (by have := HP4.out.len; have := HFEW.out; omega) A a1 w3 HP4.out.row HP4.out.valid.1)
        clear hb3 HF1
        go_wp2_with fail
        refine HF2.out.mono ?_
        rintro r w4 ⟨rfl, hb4⟩
        have HP5 := Lib.hid (HP4.out.below hb4)
        have HC := Lib.hid (check_any M n c HP5.out.len (by have := HP5.out.len; have := HFEW.out; unfold maxLen; omega) A w4 HP5.out.row (fun e he => (HP5.out.valid.1 e he).wf))
        rw [decide_eq_true HP5.out.valid] at HC
        clear hb4 HF2
        go_wp2_with fail
        refine HC.out.mono ?_
        rintro r w5 ⟨rfl, hb5⟩
        have HP6 := Lib.hid (HP5.out.below hb5)
        have HA := Lib.hid (all_any HP6.out.tree HP6.out.valid (by have := HFEW.out; omega))
        clear hb5 HC
        go_wp2_with fail
        refine HA.out.mono ?_
        rintro r w6 ⟨A6, n6, c6, rfl, hn6, _, hx6, _, hb6⟩
        have HP7 := Lib.hid (HP6.out.below hb6)
        have HAL := Lib.hid (talike_yes M n c6 c HP7.out.len (by have := HP7.out.len; have := HFEW.out; omega) A6 A w6 hx6 HP7.out.row)
        have e6 : n6 = n := hn6.trans HP7.out.len.symm
        subst e6
        clear hn6 hx6 hb6 HA
        go_wp2_with fail
        refine HAL.out.mono ?_
        rintro r w7 ⟨rfl, hb7⟩
        have HP8 := Lib.hid (HP7.out.below hb7)
        clear hb7 HAL
        obtain ⟨s1, hs1⟩ : ∃ s1, s1 = (say M a1).1 := ⟨_, rfl⟩
        obtain ⟨s2, hs2⟩ : ∃ s2, s2 = (say M a1).2 := ⟨_, rfl⟩
        rw [← hs1, ← hs2]
        clear hs1 hs2
        have HCT := Lib.hid (tcount_any HP8.out.tree HP8.out.valid (by have := HFEW.out; omega))
        go_wp2_with fail
        refine HCT.out.mono ?_
        rintro r w8 ⟨rfl, hb8⟩
        have HP9 := Lib.hid (HP8.out.below hb8)
        have HCE := Lib.hid (count_ok M n6 c HP9.out.len (by have := HP9.out.len; have := HFEW.out; unfold maxLen; omega) A w8 HP9.out.row HP9.out.valid)
        clear hb8 HCT
        go_wp2_with fail
        refine HCE.out.mono ?_
        rintro r w9 ⟨rfl, hb9⟩
        have HPA := Lib.hid (HP9.out.below hb9)
        clear hb9 HCE
        go_wp2
        go_ret
        exact ⟨by simp, HPA.out.bel⟩
    · have t1 : ¬ (k : Int) < (len0 : Int) := by omega
      have HF1 := Lib.hid (tfind_any HP3.out.tree HP3.out.valid a1 HS.out)
      clear hk hk2
      go_wp2_with fail
      refine HF1.out.mono ?_
      rintro r w3 ⟨rfl, hb3⟩
      have HP4 := Lib.hid (HP3.out.below hb3)
      have HF2 := Lib.hid (find_any M n c HP4.out.len (by have := HP4.out.len; have := HFEW.out; omega) A a1 w3 HP4.out.row HP4.out.valid.1)
      clear hb3 HF1
      go_wp2_with fail
      refine HF2.out.mono ?_
      rintro r w4 ⟨rfl, hb4⟩
      have HP5 := Lib.hid (HP4.out.below hb4)
      have HC := Lib.hid (check_any M n c HP5.out.len (by have := HP5.out.len; have := HFEW.out; unfold maxLen; omega) A w4 HP5.out.row (fun e he => (HP5.out.valid.1 e he).wf))
      rw [decide_eq_true HP5.out.valid] at HC
      clear hb4 HF2
      go_wp2_with fail
      refine HC.out.mono ?_
      rintro r w5 ⟨rfl, hb5⟩
      have HP6 := Lib.hid (HP5.out.below hb5)
      have HA := Lib.hid (all_any HP6.out.tree HP6.out.valid (by have := HFEW.out; omega))
      clear hb5 HC
      go_wp2_with fail
      refine HA.out.mono ?_
      rintro r w6 ⟨A6, n6, c6, rfl, hn6, _, hx6, _, hb6⟩
      have HP7 := Lib.hid (HP6.out.below hb6)
      have HAL := Lib.hid (talike_yes M n c6 c HP7.out.len (by have := HP7.out.len; have := HFEW.out; omega) A6 A w6 hx6 HP7.out.row)
      have e6 : n6 = n := hn6.trans HP7.out.len.symm
      subst e6
      clear hn6 hx6 hb6 HA
      go_wp2_with fail
      refine HAL.out.mono ?_
      rintro r w7 ⟨rfl, hb7⟩
      have HP8 := Lib.hid (HP7.out.below hb7)
      clear hb7 HAL
      obtain ⟨s1, hs1⟩ : ∃ s1, s1 = (say M a1).1 := ⟨_, rfl⟩
      obtain ⟨s2, hs2⟩ : ∃ s2, s2 = (say M a1).2 := ⟨_, rfl⟩
      rw [← hs1, ← hs2]
      clear hs1 hs2
      have HCT := Lib.hid (tcount_any HP8.out.tree HP8.out.valid (by have := HFEW.out; omega))
      go_wp2_with fail
      refine HCT.out.mono ?_
      rintro r w8 ⟨rfl, hb8⟩
      have HP9 := Lib.hid (HP8.out.below hb8)
      have HCE := Lib.hid (count_ok M n6 c HP9.out.len (by have := HP9.out.len; have := HFEW.out; unfold maxLen; omega) A w8 HP9.out.row HP9.out.valid)
      clear hb8 HCT
      go_wp2_with fail
      refine HCE.out.mono ?_
      rintro r w9 ⟨rfl, hb9⟩
      have HPA := Lib.hid (HP9.out.below hb9)
      clear hb9 HCE
      go_wp2
      go_ret
      exact ⟨by simp, HPA.out.bel⟩

set_option maxRecDepth 100000 in
theorem lifted (os : Os) (started : os.Started) (H : Type) (enc : TypeId × Value → H) :
    ReturnsInHanded {} Tryz.checked os 9 .any (Rows.topTreeSpec.pre6 enc Tryz.prog Tryz.f9 Rows.topTreeRow.domain false) (Rows.topTreeSpec.post enc Tryz.prog Tryz.f9 false true false false) := by
  refine returnsInHanded_of_change_sized (C := Tryz.checked) own started (by kernel_rfl) Tryz.func9
    (ChangeSpec.witness6 (enc := enc) (C := Tryz.checked) false ⟨#[], #[.slice none 0 0, .int .i64 0], []⟩ 8 (by kernel_rfl) (by kernel_rfl) (by kernel_rfl) (by kernel_rfl)) ?_
  intro W base args ds gs before hval0 hW hcnd hsz0 _
  have hval : ∀ (j : Nat) t v, Tryz.f9.params[j]? = some t → args[j]? = some v → Value.okWide Tryz.prog W .any base t v := hval0
  have hW' := hW
  obtain ⟨p, q, hA0, hV, rfl, hfz, hnd⟩ := hW
  have hA : DataW.TrodAll enc Tryz.prog W 0 (fun _ => true) true Tryz.f9.params.toList args.toList ds p := hA0
  have hsz : (DataW.weightsEach Tryz.prog (Tryz.f9.params.toList ++ Rows.topTreeSpec.plain.varTypes Tryz.prog) (ds ++ gs)).all (· ≤ reachBytes) = true := hsz0
  rw [Tryz.params9] at hA hval hsz
  obtain ⟨v0, vs0, d0, ds0, p0, q0, hargs, rfl, rfl, h0, r0⟩ := trodAll_cons hA
  obtain ⟨v1, vs1, d1, ds1, p1, q1, rfl, rfl, rfl, h1, r1⟩ := trodAll_cons r0
  obtain ⟨rfl, rfl, rfl⟩ := trodAll_nil r1
  obtain rfl : args = #[v0, v1] := by cases args; simp_all
  obtain ⟨rfl, rfl⟩ := trodVars_none hV
  have k0 := h0
  have lt0 : ∀ x ∈ p0, x.block < W.heap.size := by obtain ⟨m, hm⟩ := k0; exact DataW.trod_lt m _ _ _ hm
  obtain ⟨a0, len0, cap0, L0, rfl, hl0, lm0, w0, wf0⟩ := OP.open_lays (hval 0 67 v0 rfl rfl) h0
  obtain ⟨a1, rfl, rfl, rfl, w1⟩ := open_int Tryz.underlying3 (hval 1 3 v1 rfl rfl) h1
  clear hA0 hval0 hsz0
  refine (walk a0 len0 cap0 L0 a1 W hl0 lm0 w0 wf0 w1).mono fun e W' ⟨he, bel⟩ => ?_
  subst he
  exact ⟨_, rfl, _, _, _, [], _, [], hW', trodAll_mk1 (shut_bool Tryz.underlying4 _), (trodAll_cons_mk (Below.trod laidOut (by kernel_rfl) (of_decide_eq_true (by kernel_rfl)) k0 bel lt0) (trodAll_cons_mk (shut_int Tryz.underlying3 w1) trodAll_mk0)), rfl, bel.frame _, fun h => by cases h⟩

theorem over : Rows.topTreeRow.holds Tryz.pinned (OpenSpec.ofChange Rows.topTreeSpec) :=
  OpenClaim.holds_of_wide 9 Tryz.f9 rfl rfl rfl rfl rfl rfl rfl ⟨rfl, rfl, rfl, rfl, rfl⟩ rfl rfl rfl rfl rfl (by kernel_rfl) Tryz.func9 (by kernel_rfl)
    (of_decide_eq_true (by kernel_rfl)) (by unfold Func.isWrapper; first | (rw [if_pos (by decide +kernel)]; kernel_rfl) | (rw [if_neg (by decide +kernel)]; exact ⟨rfl, rfl⟩))
    (fun os started H enc _ => lifted os started H enc)

theorem proved : Rows.TopTreeSaid := over
#print axioms proved
end Go.Proofs.YtdjlflinepefbabGreat.topTree
