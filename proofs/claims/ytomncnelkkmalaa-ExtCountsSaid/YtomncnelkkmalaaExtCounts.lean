/- The law ExtCounts holds: its Go text answers true for every input, and leaves its arguments as they were. No condition beyond the statement's own. -/
import Derived.Test.YtomncnelkkmalaaRows
import Derived.Test.YtomncnelkkmalaaExR4
import Derived.Test.YtomncnelkkmalaaExW
import Derived.Test.YtomncnelkkmalaaOpen7
import Derived.Test.YtomncnelkkmalaaOpen
import Derived.ProofKit
import Derived.OpenShut
import Derived.ShutString
import Derived.ChangeOld
import Derived.Below
import Derived.SizedLaws
namespace Go.Proofs.Ytomncnelkkmalaa.extCounts
open Go.ChangeShapes Go.WideShapes Go.ChangeAt Go.RowKit
open Go.ChangeMaps (open_string shut_string)
open Go.Proofs.Ytomncnelkkmalaa.FM
set_option linter.unusedVariables false
set_option linter.unusedSimpArgs false

theorem own : ownKnob Try.prog.godebug = none := by kernel_rfl
theorem laidOut : laidOutB Try.prog = true := by kernel_rfl

open MM EX OP

set_option maxHeartbeats 1000000 in
theorem big (a0 : Option Addr) (len0 cap0 : Nat) (L0 : List EX.Ext) (w : World) (lm0 : len0 ≤ maxLen) (hbig : ¬ len0 ≤ 60) :
    Calls Try.prog 8 #[.slice a0 len0 cap0] w fun e w' => e = .returned (.bool true) ∧ Below w.heap.size w w' := by
  have hf : decide ((len0 : Int) ≤ 60) = false := decide_eq_false (by omega)
  have HF := Lib.hid (few_any len0 cap0 lm0 a0)
  rw [hf] at HF
  clear hf lm0 hbig
  go_enter Try.func8, Try.ntmps8
  go_wp2_with fail
  refine (HF.out _).mono ?_
  rintro r w1 ⟨rfl, rfl⟩
  go_wp2_with fail
  refine (awake_any _).mono ?_
  rintro r w2 ⟨rfl, hb2⟩
  have B2 := Lib.hid hb2
  clear hb2
  go_wp2
  go_ret
  exact ⟨rfl, B2.out⟩

set_option maxHeartbeats 4000000 in
theorem bad (a0 : Option Addr) (len0 cap0 : Nat) (L0 : List EX.Ext) (w : World) (hl0 : len0 = L0.length) (lm0 : len0 ≤ 60) (w0 : Exs w a0 L0) (wf0 : ∀ e ∈ L0, WfE e) (hv : ¬ Valid L0) :
    Calls Try.prog 8 #[.slice a0 len0 cap0] w fun e w' => e = .returned (.bool true) ∧ Below w.heap.size w w' := by
  have HX := Lib.hid w0
  have HL := Lib.hid hl0
  have hf : decide ((len0 : Int) ≤ 60) = true := decide_eq_true (by omega)
  have HF := Lib.hid (few_any len0 cap0 (by unfold maxLen; omega) a0)
  rw [hf] at HF
  clear hf
  have HC := Lib.hid (fun w1 (h : Below w.heap.size w w1) => count_bad L0 len0 cap0 hl0 (by unfold maxLen; omega) a0 w1 (w0.below h) wf0 hv)
  have HP := Lib.hid (fun w1 (h : Below w.heap.size w w1) => pages_bad L0 len0 cap0 hl0 (by unfold maxLen; omega) a0 w1 (w0.below h) wf0 hv)
  have HV := Lib.hid hv
  clear hl0 w0 wf0 hv
  go_enter Try.func8, Try.ntmps8
  go_wp2_with fail
  refine (HF.out _).mono ?_
  rintro r w1 ⟨rfl, rfl⟩
  clear HF
  go_wp2_with fail
  refine (refs_any L0 len0 cap0 HL.out (by omega) a0 _ HX.out).mono ?_
  rintro r w1 ⟨A1, n1, c1, rfl, hn1, hx1, hb1⟩
  have HK := Lib.hid (rcheck_any L0 n1 c1 hn1 (by rw [hn1, ← HL.out]; unfold maxLen; omega) A1 w1 hx1)
  rw [decide_eq_false HV.out] at HK
  have B1 := Lib.hid hb1
  clear hn1 hx1 hb1
  go_wp2_with fail
  refine (HK.out).mono ?_
  rintro r w2 ⟨rfl, hb2⟩
  have B2 := Lib.hid (below_kept B1.out hb2)
  clear hb2 HK
  go_wp2_with fail
  refine (awake_any _).mono ?_
  rintro r w3 ⟨rfl, hb3⟩
  have B3 := Lib.hid (below_kept B2.out hb3)
  clear hb3
  go_wp2_with fail
  refine (HC.out _ B3.out).mono ?_
  rintro r w4 ⟨rfl, hb4⟩
  have B4 := Lib.hid (below_kept B3.out hb4)
  clear hb4
  go_wp2_with fail
  refine (HP.out _ B4.out).mono ?_
  rintro r w5 ⟨rfl, hb5⟩
  have B5 := Lib.hid (below_kept B4.out hb5)
  clear hb5
  go_wp2
  go_ret
  exact ⟨rfl, B5.out⟩

theorem ins_get {w : World} {A : Option Addr} {l : List Int} (h : Ins w A l) {k : Nat} {x : Int} (hx : l[k]? = some x) : ∃ b off, A = some ⟨b, off, none⟩ ∧ w.cell? ⟨b, off + k, none⟩ = some (.int .i64 x) ∧ b < w.heap.size := by
  rcases h with h | ⟨b, off, h1, h2, h3⟩
  · rw [h] at hx; simp at hx
  · exact ⟨b, off, h1, h3 k x hx, h2⟩
theorem nil_row (w : World) (hw : w.heap.size = w.heap.size) : (w.alloc (.cells #[] 3)).ownsRow w.heap.size 3 1 (.slice (some ⟨w.heap.size, 0, none⟩) 0 0) 0 (inCells []) :=
  ⟨rfl, .inr ⟨w.heap.size, 0, #[], rfl, Nat.le_refl _, heap_alloc_new w _, Nat.le_refl _, Nat.zero_le _, rfl, rfl⟩⟩

set_option maxHeartbeats 8000000 in
theorem good (a0 : Option Addr) (len0 cap0 : Nat) (L0 : List EX.Ext) (w : World) (hl0 : len0 = L0.length) (lm0 : len0 ≤ 60) (w0 : Exs w a0 L0) (hv : Valid L0) :
    Calls Try.prog 8 #[.slice a0 len0 cap0] w fun e w' => e = .returned (.bool true) ∧ Below w.heap.size w w' := by
  obtain ⟨i0, hi, hz0, hz1, hz2⟩ := info_parts info_int
  have HX := Lib.hid w0
  have HL := Lib.hid hl0
  have hf : decide ((len0 : Int) ≤ 60) = true := decide_eq_true (by omega)
  have HF := Lib.hid (few_any len0 cap0 (by unfold maxLen; omega) a0)
  rw [hf] at HF
  clear hf
  have HC := Lib.hid (fun w1 (h : Below w.heap.size w w1) => count_ok L0 len0 cap0 hl0 (by unfold maxLen; omega) a0 w1 (w0.below h) hv)
  have HP := Lib.hid (fun w1 (h : Below w.heap.size w w1) => pages_ok L0 len0 cap0 hl0 (by unfold maxLen; omega) a0 w1 (w0.below h) hv)
  have HV := Lib.hid hv
  clear hl0 w0 hv
  go_enter Try.func8, Try.ntmps8
  go_wp2_with fail
  refine (HF.out _).mono ?_
  rintro r w1 ⟨rfl, rfl⟩
  clear HF
  go_wp2_with fail
  refine (refs_any L0 len0 cap0 HL.out (by omega) a0 _ HX.out).mono ?_
  rintro r w1 ⟨A1, n1, c1, rfl, hn1, hx1, hb1⟩
  have HK := Lib.hid (rcheck_any L0 n1 c1 hn1 (by rw [hn1, ← HL.out]; unfold maxLen; omega) A1 w1 hx1)
  rw [decide_eq_true HV.out] at HK
  have B1 := Lib.hid hb1
  clear hn1 hx1 hb1
  go_wp2_with fail
  refine (HK.out).mono ?_
  rintro r w2 ⟨rfl, hb2⟩
  have B2 := Lib.hid (below_kept B1.out hb2)
  clear hb2 HK
  have hrow := own_base (nil_row w2 rfl) B2.out.size
  have hb3 := below_kept B2.out (below_box w2 (.cells #[] 3))
  have O3 := Lib.hid hrow
  have B3 := Lib.hid hb3
  clear hrow hb3
  go_wp2
  go_loopw [3, 4, 5] (fun c x i wr => ∃ (k : Nat) (q : Int) (A : Option Addr) (n c' : Nat) (R : List Int), k ≤ len0 ∧ i = .int .i64 k ∧ c = .int .i64 q ∧ x = .slice A n c' ∧ Hid (q = count (L0.take k)) ∧ 0 ≤ q ∧ q ≤ 2000 ∧ Hid (R = pages (L0.take k)) ∧ n ≤ 2000 ∧ wr.ownsRow w.heap.size 3 1 (.slice A n c') n (inCells R) ∧ Below w.heap.size w wr) (fun _ _ i _ => len0 - (intOf i).toNat)
  case atStart => exact ⟨0, 0, _, 0, 0, [], Nat.zero_le _, rfl, rfl, rfl, Lib.hid (by simp [count]), by omega, by omega, Lib.hid (by simp [pages]), by omega, O3.out, B3.out⟩
  case round =>
    obtain ⟨k, q, A, n, c', R, hk, rfl, rfl, rfl, hq, q0, q9, hR, hn, hown, hbel⟩ := hrel
    have HOW := Lib.hid hown
    have HBE := Lib.hid hbel
    by_cases hlt : k < len0
    · obtain ⟨e, he⟩ : ∃ e, L0[k]? = some e := ⟨_, List.getElem?_eq_getElem (by rw [← HL.out]; exact hlt)⟩
      rcases HX.out with h0 | ⟨b, off, rfl, hb, hc⟩
      · rw [h0] at he; simp at he
      · have Q0 := Lib.hid (hc k e he)
        obtain ⟨p0, p1, p2, p3⟩ := (hc k e he).kept hbel hb
        have ho := valid_at HV.out he
        have o1 := ho.pos; have o2 := ho.high; have o3 := ho.low
        have hq1 : Hid (q + e.n = count (L0.take (k + 1))) := by show q + e.n = _; rw [count_take he, ← hq.out]
        have hq2 : q + e.n ≤ 16777216 := by rw [hq1.out]; have := wv_len (HV.out.wv.take (k + 1)); omega
        have hnl : n = R.length := by have := hown.1; simp [inCells] at this; omega
        have hbd : ((pages (L0.take (k + 1))).length : Int) ≤ q + e.n := by rw [hq1.out]; exact pages_len (HV.out.wv.take (k + 1)).1
        have t1 : (k : Int) < (len0 : Int) := by omega
        have t2 : (0 : Int) ≤ (k : Int) := by omega
        have e9 : IntKind.i64.wrap (q + e.n) = q + e.n := IntWalk.i64_in _ (by omega)
        have HE := Lib.hid he
        by_cases hbig : 2000 < q + e.n
        · have hg : decide (2000 < q + e.n) = true := decide_eq_true hbig
          clear hc he ho o2 o3 hbel hown hnl hbd
          go_wp2_with fail
          refine (awake_any _).mono ?_
          rintro r w5 ⟨rfl, hb5⟩
          have B5 := Lib.hid (below_kept HBE.out hb5)
          clear hb5
          go_wp2
          go_ret
          exact ⟨rfl, B5.out⟩
        · have hg : decide (2000 < q + e.n) = false := decide_eq_false hbig
          obtain ⟨N, hN⟩ := Int.eq_ofNat_of_zero_le (show 0 ≤ e.n by omega)
          by_cases hk2 : e.kind = 2
          · have hA0 : 0 ≤ e.at_ := by have := ho.2; omega
            have hA1 : e.at_ ≤ 2048 := by have := ho.2; omega
            have HT : Hid (pages (L0.take (k + 1)) = R ++ pagesOf e N) := by show _ = _; rw [pages_take he, if_pos hk2, ← hR.out, hN]; rfl
            have hbd2 : n + N ≤ 2000 := by rw [HT.out] at hbd; simp [pagesOf] at hbd; omega
            obtain ⟨f', n', k', t'⟩ := e
            simp only at p0 p1 p2 p3 hk2 hN hA0 hA1 o1 o2 o3 hq1 hq2 e9 hg hbig Q0 HT hbd
            subst hk2 hN
            clear hc he ho o2 o3 hbel hown hbd hnl HE
            obtain ⟨wo, rfl⟩ : ∃ wo : World, wo = wr := ⟨_, rfl⟩
            go_wp2
            go_loopw [4, 6] (fun x i wi => ∃ (m : Nat) (A' : Option Addr) (n' c' : Nat), m ≤ N ∧ i = .int .i64 m ∧ x = .slice A' n' c' ∧ Hid (n' = n + m) ∧ wi.ownsRow w.heap.size 3 1 (.slice A' n' c') n' (inCells (R ++ pagesOf ⟨f', (N : Int), 2, t'⟩ m)) ∧ Below w.heap.size w wi) (fun _ i _ => N - (intOf i).toNat)
            case atStart => exact ⟨0, A, n, c', Nat.zero_le _, rfl, rfl, Lib.hid rfl, by simpa [pagesOf] using HOW.out, HBE.out⟩
            case round =>
              obtain ⟨m, A', n', c2, hm', rfl, rfl, hn', hown', hbel'⟩ := hrel
              have HO' := Lib.hid hown'
              have HL' := Lib.hid hbel'
              have hn2 : n' ≤ n + N := by rw [hn'.out]; omega
              obtain ⟨b0, b1, b2, b3⟩ := Q0.out.kept hbel' hb
              simp only at b0 b1 b2 b3
              clear hown' hbel' p0 p1 p2 p3
              by_cases hlt2 : m < N
              · have u1 : (m : Int) < (N : Int) := by omega
                have u2 : (0 : Int) ≤ (m : Int) := by omega
                have e8 : IntKind.i64.wrap (t' + (m : Int)) = t' + (m : Int) := IntWalk.i64_in _ (by omega)
                have hsz : w.heap.size ≤ wr.heap.size := HL'.out.size
                go_wp2_with (at_builtin; refine wpList_append_own _ rfl _ _ 52 rfl w.heap.size 3 i0 (.int .i64 0) 1 8 Try.underlying52 hi hz0 hz1 hz2 rfl (by decide) _ _ _ rfl (HO'.out.alloc _) ⟨wr.heap.size, 0, none⟩ 1 1 [.int .i64 (t' + (m : Int))] rfl rfl ?c1 ?c2 ?c3 ?c4 ?c5 ?_)
                case c1 => exact new_cells _ _ _
                case c2 => intro u hu; simp at hu; subst hu; rfl
                case c3 => unfold maxLen; omega
                case c4 => omega
                case c5 => simp; omega
                intro v8 w8 own8 hgrow _
                have hl8 : Below w.heap.size w w8 := (HL'.out.alloc hsz _).grown hgrow (by simp; omega) (fun j hj => (HO'.out.lt j hj).1)
                have own8' : w8.ownsRow w.heap.size 3 1 v8 (n' + 1) (inCells (R ++ pagesOf ⟨f', (N : Int), 2, t'⟩ (m + 1))) := by
                  rw [pagesOf_succ, ← List.append_assoc]
                  have e1 : inCells ((R ++ pagesOf ⟨f', (N : Int), 2, t'⟩ m) ++ [t' + (m : Int)]) = inCells (R ++ pagesOf ⟨f', (N : Int), 2, t'⟩ m) ++ [.int .i64 (t' + (m : Int))] := by simp [inCells]
                  rw [e1]; exact own8
                obtain ⟨A8, c8, rfl⟩ := own_slice own8'
                have O8 := Lib.hid own8'
                have L8 := Lib.hid hl8
                clear own8 own8' hl8 hgrow
                go_wp2
                go_roundw
                case rel => exact ⟨m + 1, A8, n' + 1, c8, by omega, by go_num, rfl, Lib.hid (by rw [hn'.out]; omega), O8.out, L8.out⟩
                case measure => simp [intOf]; omega
              · obtain rfl : m = N := by omega
                have u1 : ¬ (m : Int) < (m : Int) := by omega
                have u2 : decide ((m : Int) < (m : Int)) = false := decide_eq_false u1
                go_wp2
                go_roundw
                case rel => exact ⟨k + 1, q + (m : Int), A', n', c2, _, by omega, by go_num, rfl, rfl, hq1, by omega, by omega, Lib.hid (by rw [HT.out]), by omega, HO'.out, HL'.out⟩
                case measure => simp [intOf]; omega
          · have HT : Hid (pages (L0.take (k + 1)) = R) := by show _ = _; rw [pages_take he, if_neg hk2, ← hR.out, List.append_nil]
            have hk2' : (e.kind == 2) = false := by simpa using hk2
            have o4 : (0 : Int) < e.n := by omega
            clear hc he ho o2 o3 hbel hown hbd hk2 hnl HE hN
            obtain ⟨wo, rfl⟩ : ∃ wo : World, wo = wr := ⟨_, rfl⟩
            go_wp2
            go_loopw [4, 6] (fun x i wi => x = .slice A n c' ∧ i = .int .i64 0 ∧ wi = wo) (fun _ _ _ => 0)
            case atStart => exact ⟨rfl, rfl, rfl⟩
            case round =>
              obtain ⟨rfl, rfl, rfl⟩ := hrel
              go_wp2
              go_roundw
              case rel => exact ⟨k + 1, q + e.n, A, n, c', R, by omega, by go_num, rfl, rfl, hq1, by omega, by omega, Lib.hid HT.out.symm, hn, HOW.out, HBE.out⟩
              case measure => simp [intOf]; omega
    · obtain rfl : k = len0 := by omega
      have i0' : ¬ (k : Int) < (k : Int) := by omega
      have hfin : R = pages L0 := by rw [hR.out, List.take_of_length_le (by rw [← HL.out]; exact Nat.le_refl _)]
      have hqf : q = count L0 := by rw [hq.out, List.take_of_length_le (by rw [← HL.out]; exact Nat.le_refl _)]
      obtain ⟨A', c3, e1, hnl, hx3⟩ := own_ins hown
      injection e1 with e2 _ e3
      subst e2 e3
      have X3 := Lib.hid hx3
      have HCC := Lib.hid (HC.out wr hbel)
      rw [← hqf] at HCC
      have HNL := Lib.hid hnl
      have HRF := Lib.hid hfin
      clear hbel hown hx3 hnl hfin hqf
      have HPP := Lib.hid (HP.out wr HBE.out)
      go_wp2_with fail
      refine HPP.out.mono ?_
      rintro r w5 ⟨A5, n5, c5, rfl, hn5, hx5, hb5⟩
      have hnn : n5 = n := by rw [hn5, HNL.out, HRF.out]
      subst hnn
      have X5 := Lib.hid hx5
      have Y5 := Lib.hid (X3.out.below hb5)
      have B5 := Lib.hid (below_kept HBE.out hb5)
      clear hn5 hx5 hb5 HPP HCC
      have HC5 := Lib.hid (HC.out w5 B5.out)
      have hq7 : Hid (q = count L0) := by show q = _; rw [hq.out, List.take_of_length_le (by rw [← HL.out]; exact Nat.le_refl _)]
      rw [← hq7.out] at HC5
      go_wp2_with fail
      refine HC5.out.mono ?_
      rintro r w6 ⟨rfl, hb6⟩
      have X6 := Lib.hid (X5.out.below hb6)
      have Y6 := Lib.hid (Y5.out.below hb6)
      have B6 := Lib.hid (below_kept B5.out hb6)
      clear hb6 HC5
      go_wp2
      go_loopw [8] (fun i wr => ∃ k : Nat, k ≤ n5 ∧ i = .int .i64 k ∧ Below w6.heap.size w6 wr) (fun i _ => n5 - (intOf i).toNat)
      case atStart => exact ⟨0, Nat.zero_le _, rfl, Below.refl _ _⟩
      case round =>
        obtain ⟨j, hj, rfl, hbl⟩ := hrel
        by_cases hlj : j < n5
        · obtain ⟨x, hx⟩ : ∃ x, R[j]? = some x := ⟨_, List.getElem?_eq_getElem (by rw [← HNL.out]; exact hlj)⟩
          obtain ⟨g1, o1, rfl, s1, l1⟩ := ins_get (X6.out.below hbl) (by rw [← HRF.out]; exact hx)
          obtain ⟨g2, o2, rfl, s2, l2⟩ := ins_get (Y6.out.below hbl) hx
          have t1 : (j : Int) < (n5 : Int) := by omega
          have t2 : (0 : Int) ≤ (j : Int) := by omega
          have hxx : (x != x) = false := by simp
          have HD : Hid (∀ n, Below w6.heap.size w6 (wr.drewN n)) := Lib.hid fun n => drewN_below hbl n
          clear hx hbl
          go_wp2
          go_quiet (fail)
          go_wp2
          go_roundw
          case rel => exact ⟨j + 1, by omega, by go_num, HD.out _⟩
          case measure => simp [intOf]; omega
        · obtain rfl : j = n5 := by omega
          have i1' : ¬ (j : Int) < (j : Int) := by omega
          have B7 := Lib.hid (below_kept B6.out hbl)
          clear hbl
          go_wp2_with fail
          refine (awake_any _).mono ?_
          rintro r w8 ⟨rfl, hb8⟩
          have B8 := Lib.hid (below_kept B7.out hb8)
          clear hb8
          go_wp2
          go_ret
          exact ⟨rfl, B8.out⟩

theorem walk (a0 : Option Addr) (len0 cap0 : Nat) (L0 : List EX.Ext) (w : World) (hl0 : len0 = L0.length) (lm0 : len0 ≤ maxLen) (w0 : EX.Exs w a0 L0) (wf0 : ∀ e ∈ L0, EX.WfE e) :
    Calls Try.prog 8 #[.slice a0 len0 cap0] w fun e w' => e = .returned (.bool true) ∧ Below w.heap.size w w' := by
  by_cases hf : len0 ≤ 60
  · by_cases hv : Valid L0
    · exact good a0 len0 cap0 L0 w hl0 hf w0 hv
    · exact bad a0 len0 cap0 L0 w hl0 hf w0 wf0 hv
  · exact big a0 len0 cap0 L0 w lm0 hf

set_option maxRecDepth 100000 in
theorem lifted (os : Os) (started : os.Started) (H : Type) (enc : TypeId × Value → H) :
    ReturnsInHanded {} Try.checked os 8 .any (Rows.extCountsSpec.pre6 enc Try.prog Try.f8 Rows.extCountsRow.domain false) (Rows.extCountsSpec.post enc Try.prog Try.f8 false true false false) := by
  refine returnsInHanded_of_change_sized (C := Try.checked) own started (by kernel_rfl) Try.func8
    (ChangeSpec.witness6 (enc := enc) (C := Try.checked) false ⟨#[], #[.slice none 0 0], []⟩ 8 (by kernel_rfl) (by kernel_rfl) (by kernel_rfl) (by kernel_rfl)) ?_
  intro W base args ds gs before hval0 hW hcnd hsz0 _
  have hval : ∀ (j : Nat) t v, Try.f8.params[j]? = some t → args[j]? = some v → Value.okWide Try.prog W .any base t v := hval0
  have hW' := hW
  obtain ⟨p, q, hA0, hV, rfl, hfz, hnd⟩ := hW
  have hA : DataW.TrodAll enc Try.prog W 0 (fun _ => true) true Try.f8.params.toList args.toList ds p := hA0
  have hsz : (DataW.weightsEach Try.prog (Try.f8.params.toList ++ Rows.extCountsSpec.plain.varTypes Try.prog) (ds ++ gs)).all (· ≤ reachBytes) = true := hsz0
  rw [Try.params8] at hA hval hsz
  obtain ⟨v0, vs0, d0, ds0, p0, q0, hargs, rfl, rfl, h0, r0⟩ := trodAll_cons hA
  obtain ⟨rfl, rfl, rfl⟩ := trodAll_nil r0
  obtain rfl : args = #[v0] := by cases args; simp_all
  obtain ⟨rfl, rfl⟩ := trodVars_none hV
  have k0 := h0
  have lt0 : ∀ x ∈ p0, x.block < W.heap.size := by obtain ⟨m, hm⟩ := k0; exact DataW.trod_lt m _ _ _ hm
  obtain ⟨a0, len0, cap0, L0, rfl, hl0, lm0, w0, wf0⟩ := OP.open_exts (hval 0 22 v0 rfl rfl) h0
  clear hA0 hval0 hsz0
  refine (walk a0 len0 cap0 L0 W hl0 lm0 w0 wf0).mono fun e W' ⟨he, bel⟩ => ?_
  subst he
  exact ⟨_, rfl, _, _, _, [], _, [], hW', trodAll_mk1 (shut_bool Try.underlying4 _), (trodAll_cons_mk (Below.trod laidOut (by kernel_rfl) (of_decide_eq_true (by kernel_rfl)) k0 bel lt0) trodAll_mk0), rfl, bel.frame _, fun h => by cases h⟩

theorem over : Rows.extCountsRow.holds Try.pinned (OpenSpec.ofChange Rows.extCountsSpec) :=
  OpenClaim.holds_of_wide 8 Try.f8 rfl rfl rfl rfl rfl rfl rfl ⟨rfl, rfl, rfl, rfl, rfl⟩ rfl rfl rfl rfl rfl (by kernel_rfl) Try.func8 (by kernel_rfl)
    (of_decide_eq_true (by kernel_rfl)) (by unfold Func.isWrapper; first | (rw [if_pos (by decide +kernel)]; kernel_rfl) | (rw [if_neg (by decide +kernel)]; exact ⟨rfl, rfl⟩))
    (fun os started H enc _ => lifted os started H enc)

theorem proved : Rows.ExtCountsSaid := over
#print axioms proved
end Go.Proofs.Ytomncnelkkmalaa.extCounts
