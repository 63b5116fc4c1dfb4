/- The law ExtMoves holds: its Go text answers true for every input, and leaves its arguments as they were. No condition beyond the statement's own. -/
import Derived.Test.YtomncnelkkmalabRows
import Derived.Test.YtomncnelkkmalabExH
import Derived.Test.YtomncnelkkmalabExMath4
import Derived.Test.YtomncnelkkmalabExW
import Derived.Test.YtomncnelkkmalabOpen7
import Derived.Test.YtomncnelkkmalabOpen
import Derived.Test.YtomncnelkkmalabShort
import Derived.ProofKit
import Derived.OpenShut
import Derived.ShutString
import Derived.ChangeOld
import Derived.Below
import Derived.SizedLaws
namespace Go.Proofs.Ytomncnelkkmalab.extMoves
open Go.ChangeShapes Go.WideShapes Go.ChangeAt Go.RowKit
open Go.ChangeMaps (open_string shut_string)
open Go.Proofs.Ytomncnelkkmalab.FM
set_option linter.unusedVariables false
set_option linter.unusedSimpArgs false

theorem own : ownKnob Try.prog.godebug = none := by kernel_rfl
theorem laidOut : laidOutB Try.prog = true := by kernel_rfl

open MM EX OP

set_option maxHeartbeats 1000000 in
theorem big (a0 : Option Addr) (len0 cap0 : Nat) (L0 : List EX.Ext) (a1 a2 : Int) (w : World) (lm0 : len0 ≤ maxLen) (hbig : ¬ len0 ≤ 60) :
    Calls Try.prog 5 #[.slice a0 len0 cap0, .int .i64 a1, .int .i64 a2] w fun e w' => e = .returned (.bool true) ∧ Below w.heap.size w w' := by
  have hf : decide ((len0 : Int) ≤ 60) = false := decide_eq_false (by omega)
  have HF := Lib.hid (few_any len0 cap0 lm0 a0)
  rw [hf] at HF
  clear hf lm0 hbig
  go_enter Try.func5, Try.ntmps5
  go_wp2_with fail
  refine (HF.out _).mono ?_
  rintro r w1 ⟨rfl, rfl⟩
  go_wp2_with fail
  refine (awake_any _).mono ?_
  rintro r w2 ⟨rfl, hb2⟩
  have B2 := Lib.hid hb2
  clear hb2
  go_wp2
  go_ret
  exact ⟨rfl, B2.out⟩

set_option maxHeartbeats 4000000 in
theorem bad (a0 : Option Addr) (len0 cap0 : Nat) (L0 : List EX.Ext) (a1 a2 : Int) (w : World) (hl0 : len0 = L0.length) (lm0 : len0 ≤ 60) (w0 : Exs w a0 L0) (hv : ¬ Valid L0) :
    Calls Try.prog 5 #[.slice a0 len0 cap0, .int .i64 a1, .int .i64 a2] w fun e w' => e = .returned (.bool true) ∧ Below w.heap.size w w' := by
  have HX := Lib.hid w0
  have HL := Lib.hid hl0
  have hf : decide ((len0 : Int) ≤ 60) = true := decide_eq_true (by omega)
  have HF := Lib.hid (few_any len0 cap0 (by unfold maxLen; omega) a0)
  rw [hf] at HF
  clear hf
  have HV := Lib.hid hv
  clear hl0 w0 hv
  go_enter Try.func5, Try.ntmps5
  go_wp2_with fail
  refine (HF.out _).mono ?_
  rintro r w1 ⟨rfl, rfl⟩
  clear HF
  go_wp2_with fail
  refine (refs_any L0 len0 cap0 HL.out (by omega) a0 _ HX.out).mono ?_
  rintro r w1 ⟨A1, n1, c1, rfl, hn1, hx1, hb1⟩
  have HK := Lib.hid (rcheck_any L0 n1 c1 hn1 (by rw [hn1, ← HL.out]; unfold maxLen; omega) A1 w1 hx1)
  rw [decide_eq_false HV.out] at HK
  have B1 := Lib.hid hb1
  clear hn1 hx1 hb1
  go_wp2_with fail
  refine (HK.out).mono ?_
  rintro r w2 ⟨rfl, hb2⟩
  have B2 := Lib.hid (below_kept B1.out hb2)
  clear hb2 HK
  go_wp2_with fail
  refine (awake_any _).mono ?_
  rintro r w9 ⟨rfl, hb9⟩
  have B9 := Lib.hid (below_kept B2.out hb9)
  clear hb9
  go_wp2
  go_ret
  exact ⟨rfl, B9.out⟩

set_option maxHeartbeats 4000000 in
theorem neg (a0 : Option Addr) (len0 cap0 : Nat) (L0 : List EX.Ext) (a1 a2 : Int) (w : World) (hl0 : len0 = L0.length) (lm0 : len0 ≤ 60) (w0 : Exs w a0 L0) (hv : Valid L0) (hp : a2 < 0) :
    Calls Try.prog 5 #[.slice a0 len0 cap0, .int .i64 a1, .int .i64 a2] w fun e w' => e = .returned (.bool true) ∧ Below w.heap.size w w' := by
  have HX := Lib.hid w0
  have HL := Lib.hid hl0
  have hf : decide ((len0 : Int) ≤ 60) = true := decide_eq_true (by omega)
  have HF := Lib.hid (few_any len0 cap0 (by unfold maxLen; omega) a0)
  rw [hf] at HF
  clear hf
  have HV := Lib.hid hv
  have d1 : decide (a2 < 0) = true := decide_eq_true hp
  clear hl0 w0 hv
  go_enter Try.func5, Try.ntmps5
  go_wp2_with fail
  refine (HF.out _).mono ?_
  rintro r w1 ⟨rfl, rfl⟩
  clear HF
  go_wp2_with fail
  refine (refs_any L0 len0 cap0 HL.out (by omega) a0 _ HX.out).mono ?_
  rintro r w1 ⟨A1, n1, c1, rfl, hn1, hx1, hb1⟩
  have HK := Lib.hid (rcheck_any L0 n1 c1 hn1 (by rw [hn1, ← HL.out]; unfold maxLen; omega) A1 w1 hx1)
  rw [decide_eq_true HV.out] at HK
  have B1 := Lib.hid hb1
  clear hn1 hx1 hb1
  go_wp2_with fail
  refine (HK.out).mono ?_
  rintro r w2 ⟨rfl, hb2⟩
  have B2 := Lib.hid (below_kept B1.out hb2)
  clear hb2 HK
  go_wp2_with fail
  refine (awake_any _).mono ?_
  rintro r w9 ⟨rfl, hb9⟩
  have B9 := Lib.hid (below_kept B2.out hb9)
  clear hb9
  go_wp2
  go_ret
  exact ⟨rfl, B9.out⟩

set_option maxHeartbeats 4000000 in
theorem high (a0 : Option Addr) (len0 cap0 : Nat) (L0 : List EX.Ext) (a1 a2 : Int) (w : World) (hl0 : len0 = L0.length) (lm0 : len0 ≤ 60) (w0 : Exs w a0 L0) (hv : Valid L0) (hp0 : ¬ a2 < 0) (hp : 2048 ≤ a2) :
    Calls Try.prog 5 #[.slice a0 len0 cap0, .int .i64 a1, .int .i64 a2] w fun e w' => e = .returned (.bool true) ∧ Below w.heap.size w w' := by
  have HX := Lib.hid w0
  have HL := Lib.hid hl0
  have hf : decide ((len0 : Int) ≤ 60) = true := decide_eq_true (by omega)
  have HF := Lib.hid (few_any len0 cap0 (by unfold maxLen; omega) a0)
  rw [hf] at HF
  clear hf
  have HV := Lib.hid hv
  have d1 : decide (a2 < 0) = false := decide_eq_false hp0
  have d2 : decide (2048 ≤ a2) = true := decide_eq_true hp
  clear hl0 w0 hv
  go_enter Try.func5, Try.ntmps5
  go_wp2_with fail
  refine (HF.out _).mono ?_
  rintro r w1 ⟨rfl, rfl⟩
  clear HF
  go_wp2_with fail
  refine (refs_any L0 len0 cap0 HL.out (by omega) a0 _ HX.out).mono ?_
  rintro r w1 ⟨A1, n1, c1, rfl, hn1, hx1, hb1⟩
  have HK := Lib.hid (rcheck_any L0 n1 c1 hn1 (by rw [hn1, ← HL.out]; unfold maxLen; omega) A1 w1 hx1)
  rw [decide_eq_true HV.out] at HK
  have B1 := Lib.hid hb1
  clear hn1 hx1 hb1
  go_wp2_with fail
  refine (HK.out).mono ?_
  rintro r w2 ⟨rfl, hb2⟩
  have B2 := Lib.hid (below_kept B1.out hb2)
  clear hb2 HK
  go_wp2_with fail
  refine (awake_any _).mono ?_
  rintro r w9 ⟨rfl, hb9⟩
  have B9 := Lib.hid (below_kept B2.out hb9)
  clear hb9
  go_wp2
  go_ret
  exact ⟨rfl, B9.out⟩

set_option maxHeartbeats 4000000 in
theorem kind (a0 : Option Addr) (len0 cap0 : Nat) (L0 : List EX.Ext) (a1 a2 : Int) (w : World) (hl0 : len0 = L0.length) (lm0 : len0 ≤ 60) (w0 : Exs w a0 L0) (hv : Valid L0) (hp0 : 0 ≤ a2) (hp1 : a2 < 2048) (T1 T2 : Int) (hT : say L0 a1 = (T1, T2)) (hk : ¬ T1 = 2) :
    Calls Try.prog 5 #[.slice a0 len0 cap0, .int .i64 a1, .int .i64 a2] w fun e w' => e = .returned (.bool true) ∧ Below w.heap.size w w' := by
  have HX := Lib.hid w0
  have HL := Lib.hid hl0
  have hf : decide ((len0 : Int) ≤ 60) = true := decide_eq_true (by omega)
  have HF := Lib.hid (few_any len0 cap0 (by unfold maxLen; omega) a0)
  rw [hf] at HF
  clear hf
  have HV := Lib.hid hv
  have d1 : decide (a2 < 0) = false := decide_eq_false (by omega)
  have d2 : decide (2048 ≤ a2) = false := decide_eq_false (by omega)
  have HFI := Lib.hid (fun w1 (h : Below w.heap.size w w1) => find_any L0 len0 cap0 hl0 (by omega) a0 a1 w1 (w0.below h) hv.1)
  rw [hT] at HFI
  have hkb : (T1 != 2) = true := by simpa using hk
  clear hl0 w0 hv hT hk
  go_enter Try.func5, Try.ntmps5
  go_wp2_with fail
  refine (HF.out _).mono ?_
  rintro r w1 ⟨rfl, rfl⟩
  clear HF
  go_wp2_with fail
  refine (refs_any L0 len0 cap0 HL.out (by omega) a0 _ HX.out).mono ?_
  rintro r w1 ⟨A1, n1, c1, rfl, hn1, hx1, hb1⟩
  have HK := Lib.hid (rcheck_any L0 n1 c1 hn1 (by rw [hn1, ← HL.out]; unfold maxLen; omega) A1 w1 hx1)
  rw [decide_eq_true HV.out] at HK
  have B1 := Lib.hid hb1
  clear hn1 hx1 hb1
  go_wp2_with fail
  refine (HK.out).mono ?_
  rintro r w2 ⟨rfl, hb2⟩
  have B2 := Lib.hid (below_kept B1.out hb2)
  clear hb2 HK
  go_wp2_with fail
  refine (HFI.out _ B2.out).mono ?_
  rintro r w3 ⟨rfl, hb3⟩
  have B3 := Lib.hid (below_kept B2.out hb3)
  clear hb3 HFI
  go_wp2_with fail
  refine (awake_any _).mono ?_
  rintro r w9 ⟨rfl, hb9⟩
  have B9 := Lib.hid (below_kept B3.out hb9)
  clear hb9
  go_wp2
  go_ret
  exact ⟨rfl, B9.out⟩

theorem move_say {l : List Ext} (h : Valid l) {s p : Int} (ho : EX.One ⟨s, 1, 2, p⟩) (q : Int) : say (over l ⟨s, 1, 2, p⟩) q = if s ≤ q ∧ q < s + 1 then say [⟨s, 1, 2, p⟩] q else say l q := by
  rw [over_say h ho]
  by_cases hc : s ≤ q ∧ q < s + 1
  · rw [if_pos hc, if_pos (show (⟨s, 1, 2, p⟩ : Ext).from_ ≤ q ∧ q < fin ⟨s, 1, 2, p⟩ from hc), say_one, if_pos (show (⟨s, 1, 2, p⟩ : Ext).from_ ≤ q ∧ q < fin ⟨s, 1, 2, p⟩ from hc)]
  · rw [if_neg hc, if_neg (show ¬ ((⟨s, 1, 2, p⟩ : Ext).from_ ≤ q ∧ q < fin ⟨s, 1, 2, p⟩) from hc)]

theorem one_exs {w : World} {x1 : Ext} {X : Nat} (h : Blk w X 30 #[.int .i64 x1.from_, .int .i64 x1.n, .int .i64 x1.kind, .int .i64 x1.at_]) : Exs w (some ⟨X, 0, none⟩) [x1] := .inr ⟨X, 0, rfl, h.lt, fun i e hi => by
  match i, hi with
  | 0, hi =>
    have : e = x1 := by simpa using hi.symm
    subst this
    exact ⟨h.cell 0, h.cell 1, h.cell 2, h.cell 3⟩
  | i + 1, hi => simp at hi⟩

set_option maxHeartbeats 4000000 in
theorem yes (a0 : Option Addr) (len0 cap0 : Nat) (L0 : List EX.Ext) (a1 a2 : Int) (w : World) (hl0 : len0 = L0.length) (lm0 : len0 ≤ 60) (w0 : Exs w a0 L0) (hv : Valid L0) (hp0 : 0 ≤ a2) (hp1 : a2 < 2048) (T2 : Int) (hT : say L0 a1 = (2, T2)) :
    Calls Try.prog 5 #[.slice a0 len0 cap0, .int .i64 a1, .int .i64 a2] w fun e w' => e = .returned (.bool true) ∧ Below w.heap.size w w' := by
  have HX := Lib.hid w0
  have HL := Lib.hid hl0
  have hf : decide ((len0 : Int) ≤ 60) = true := decide_eq_true (by omega)
  have HF := Lib.hid (few_any len0 cap0 (by unfold maxLen; omega) a0)
  rw [hf] at HF
  clear hf
  have HV := Lib.hid hv
  have d1 : decide (a2 < 0) = false := decide_eq_false (by omega)
  have d2 : decide (2048 ≤ a2) = false := decide_eq_false (by omega)
  have HFI := Lib.hid (fun w1 (h : Below w.heap.size w w1) => find_any L0 len0 cap0 hl0 (by omega) a0 a1 w1 (w0.below h) hv.1)
  rw [hT] at HFI
  have hne : (say L0 a1).1 ≠ 0 := by rw [hT]; simp
  obtain ⟨e0, he0, g1, g2⟩ := say_some hne
  have g3 := (hv.1 e0 he0).low
  have g4 := (hv.1 e0 he0).high
  have s0 : 0 ≤ a1 := by omega
  have s1 : (1 : Int) ≤ 16777216 - a1 := by omega
  have ho : EX.One ⟨a1, 1, 2, a2⟩ := ⟨⟨by simp only; omega, s0, s1⟩, .inr ⟨rfl, hp0, by simp only; omega⟩⟩
  have HO := Lib.hid ho
  have HMC := Lib.hid (move_count hv hne ho)
  have HSH : Hid ((over L0 ⟨a1, 1, 2, a2⟩).length ≤ 200) := Lib.hid (by have := over_short L0 ⟨a1, 1, 2, a2⟩; omega)
  have HSV : Hid (say (over L0 ⟨a1, 1, 2, a2⟩) a1 = (2, a2)) := by
    show _ = _
    rw [over_say hv ho, if_pos (by simp only [fin]; omega)]
    unfold page
    simp only [if_true]
    congr 1
    omega
  have HOV : Hid (∀ w1, Below w.heap.size w w1 → Calls Try.prog 9 #[.slice a0 len0 cap0, .agg #[.int .i64 a1, .int .i64 1, .int .i64 2, .int .i64 a2]] w1 (TupEnd (over L0 ⟨a1, 1, 2, a2⟩) w1)) := Lib.hid fun w1 h => over_yes L0 len0 cap0 hl0 (by unfold maxLen; omega) a0 ⟨a1, 1, 2, a2⟩ w1 (w0.below h) hv ho
  have HCN := Lib.hid (fun w1 (h : Below w.heap.size w w1) => count_ok L0 len0 cap0 hl0 (by unfold maxLen; omega) a0 w1 (w0.below h) hv)
  clear hl0 w0 hv hT hne he0 g1 g2 g3 g4 ho
  go_enter Try.func5, Try.ntmps5
  go_wp2_with fail
  refine (HF.out _).mono ?_
  rintro r w1 ⟨rfl, rfl⟩
  clear HF
  go_wp2_with fail
  refine (refs_any L0 len0 cap0 HL.out (by omega) a0 _ HX.out).mono ?_
  rintro r w1 ⟨A1, n1, c1, rfl, hn1, hx1, hb1⟩
  have HK := Lib.hid (rcheck_any L0 n1 c1 hn1 (by rw [hn1, ← HL.out]; unfold maxLen; omega) A1 w1 hx1)
  rw [decide_eq_true HV.out] at HK
  have B1 := Lib.hid hb1
  clear hn1 hx1 hb1
  go_wp2_with fail
  refine (HK.out).mono ?_
  rintro r w2 ⟨rfl, hb2⟩
  have B2 := Lib.hid (below_kept B1.out hb2)
  clear hb2 HK
  go_wp2_with fail
  refine (HFI.out _ B2.out).mono ?_
  rintro r w3 ⟨rfl, hb3⟩
  have B3 := Lib.hid (below_kept B2.out hb3)
  clear hb3 HFI
  go_wp2_with fail
  refine (HOV.out _ B3.out).mono ?_
  rintro r w4 ⟨A4, n4, c4, rfl, hn4, hx4, hb4⟩
  have N4 := Lib.hid hn4
  have X4 := Lib.hid hx4
  have B4 := Lib.hid (below_kept B3.out hb4)
  have hn200 : n4 ≤ 200 := by rw [hn4]; exact HSH.out
  have HC4 := Lib.hid (count_ok _ n4 c4 hn4 (by unfold maxLen; omega) A4 w4 hx4 (over_ok HV.out HO.out))
  rw [HMC.out] at HC4
  clear hn4 hx4 hb4 HOV
  go_wp2_with fail
  refine (HC4.out).mono ?_
  rintro r w5 ⟨rfl, hb5⟩
  have B5 := Lib.hid (below_kept B4.out hb5)
  have X5 := Lib.hid (X4.out.below hb5)
  clear hb5 HC4
  go_wp2_with fail
  refine (HCN.out _ B5.out).mono ?_
  rintro r w6 ⟨rfl, hb6⟩
  have B6 := Lib.hid (below_kept B5.out hb6)
  have X6 := Lib.hid (X5.out.below hb6)
  have HSY := Lib.hid (say_any _ n4 c4 N4.out (by omega) A4 a1 w6 X6.out (over_ok HV.out HO.out).1)
  rw [HSV.out] at HSY
  clear hb6 HCN
  go_wp2_with fail
  refine (HSY.out).mono ?_
  rintro r w7 ⟨rfl, hb7⟩
  have B7 := Lib.hid (below_kept B6.out hb7)
  have X7 := Lib.hid (X6.out.below hb7)
  clear hb7 HSY
  go_wp2_with fail
  refine (awake_any _).mono ?_
  rintro r w8 ⟨rfl, hb8⟩
  have B8 := Lib.hid (below_kept B7.out hb8)
  have X8 := Lib.hid (X7.out.below hb8)
  clear hb8
  have hbx := below_box w8 (.cells #[.int .i64 a1, .int .i64 1, .int .i64 2, .int .i64 a2] 30)
  have B9 := Lib.hid (below_kept B8.out hbx)
  have X9 := Lib.hid (X8.out.below hbx)
  have Y9 : Hid (Exs (w8.alloc (.cells #[.int .i64 a1, .int .i64 1, .int .i64 2, .int .i64 a2] 30)) (some ⟨w8.heap.size, 0, none⟩) [⟨a1, 1, 2, a2⟩]) := Lib.hid (one_exs (Blk.new w8 _ _))
  clear hbx
  go_wp2_with fail
  refine (refs_any L0 len0 cap0 HL.out (by omega) a0 _ (HX.out.below B9.out)).mono ?_
  rintro r w10 ⟨A10, n10, c10, rfl, hn10, hx10, hb10⟩
  have B10 := Lib.hid (below_kept B9.out hb10)
  have HH := Lib.hid (holds_yes (over L0 ⟨a1, 1, 2, a2⟩) L0 [⟨a1, 1, 2, a2⟩] L0 n4 c4 len0 cap0 1 1 n10 c10 N4.out HL.out rfl hn10 (by omega) (by omega) (by omega) (by rw [hn10, ← HL.out]; omega) A4 a0 (some ⟨w8.heap.size, 0, none⟩) A10 a1 1 s0 (by decide) s1 w10 (X9.out.below hb10) (HX.out.below B10.out) (Y9.out.below hb10) hx10 (over_ok HV.out HO.out) HV.out.1 (fun e he => by rw [List.mem_singleton.1 he]; exact HO.out) HV.out.1 (fun q => move_say HV.out HO.out q))
  clear hn10 hx10 hb10
  go_wp2_with fail
  refine HH.out.mono ?_
  rintro r w11 ⟨rfl, hb11⟩
  have B11 := Lib.hid (below_kept B10.out hb11)
  clear hb11 HH
  go_wp2
  go_ret
  exact ⟨rfl, B11.out⟩

theorem walk (a0 : Option Addr) (len0 cap0 : Nat) (L0 : List EX.Ext) (a1 : Int) (a2 : Int) (w : World) (hl0 : len0 = L0.length) (lm0 : len0 ≤ maxLen) (w0 : EX.Exs w a0 L0) (wf0 : ∀ e ∈ L0, EX.WfE e) (w1 : (Lit.int .i64 a1).wf = true) (w2 : (Lit.int .i64 a2).wf = true) :
    Calls Try.prog 5 #[.slice a0 len0 cap0, .int .i64 a1, .int .i64 a2] w fun e w' => e = .returned (.bool true) ∧ Below w.heap.size w w' := by
  by_cases hf : len0 ≤ 60
  · by_cases hv : Valid L0
    · by_cases h0 : a2 < 0
      · exact neg a0 len0 cap0 L0 a1 a2 w hl0 hf w0 hv h0
      · by_cases h1 : 2048 ≤ a2
        · exact high a0 len0 cap0 L0 a1 a2 w hl0 hf w0 hv h0 h1
        · obtain ⟨T1, T2, hT⟩ : ∃ T1 T2, say L0 a1 = (T1, T2) := ⟨_, _, rfl⟩
          by_cases hk : T1 = 2
          · subst hk
            exact yes a0 len0 cap0 L0 a1 a2 w hl0 hf w0 hv (by omega) (by omega) T2 hT
          · exact kind a0 len0 cap0 L0 a1 a2 w hl0 hf w0 hv (by omega) (by omega) T1 T2 hT hk
    · exact bad a0 len0 cap0 L0 a1 a2 w hl0 hf w0 hv
  · exact big a0 len0 cap0 L0 a1 a2 w lm0 hf

set_option maxRecDepth 100000 in
theorem lifted (os : Os) (started : os.Started) (H : Type) (enc : TypeId × Value → H) :
    ReturnsInHanded {} Try.checked os 5 .any (Rows.extMovesSpec.pre6 enc Try.prog Try.f5 Rows.extMovesRow.domain false) (Rows.extMovesSpec.post enc Try.prog Try.f5 false true false false) := by
  refine returnsInHanded_of_change_sized (C := Try.checked) own started (by kernel_rfl) Try.func5
    (ChangeSpec.witness6 (enc := enc) (C := Try.checked) false ⟨#[], #[.slice none 0 0, .int .i64 0, .int .i64 0], []⟩ 8 (by kernel_rfl) (by kernel_rfl) (by kernel_rfl) (by kernel_rfl)) ?_
  intro W base args ds gs before hval0 hW hcnd hsz0 _
  have hval : ∀ (j : Nat) t v, Try.f5.params[j]? = some t → args[j]? = some v → Value.okWide Try.prog W .any base t v := hval0
  have hW' := hW
  obtain ⟨p, q, hA0, hV, rfl, hfz, hnd⟩ := hW
  have hA : DataW.TrodAll enc Try.prog W 0 (fun _ => true) true Try.f5.params.toList args.toList ds p := hA0
  have hsz : (DataW.weightsEach Try.prog (Try.f5.params.toList ++ Rows.extMovesSpec.plain.varTypes Try.prog) (ds ++ gs)).all (· ≤ reachBytes) = true := hsz0
  rw [Try.params5] at hA hval hsz
  obtain ⟨v0, vs0, d0, ds0, p0, q0, hargs, rfl, rfl, h0, r0⟩ := trodAll_cons hA
  obtain ⟨v1, vs1, d1, ds1, p1, q1, rfl, rfl, rfl, h1, r1⟩ := trodAll_cons r0
  obtain ⟨v2, vs2, d2, ds2, p2, q2, rfl, rfl, rfl, h2, r2⟩ := trodAll_cons r1
  obtain ⟨rfl, rfl, rfl⟩ := trodAll_nil r2
  obtain rfl : args = #[v0, v1, v2] := by cases args; simp_all
  obtain ⟨rfl, rfl⟩ := trodVars_none hV
  have k0 := h0
  have lt0 : ∀ x ∈ p0, x.block < W.heap.size := by obtain ⟨m, hm⟩ := k0; exact DataW.trod_lt m _ _ _ hm
  obtain ⟨a0, len0, cap0, L0, rfl, hl0, lm0, w0, wf0⟩ := OP.open_exts (hval 0 22 v0 rfl rfl) h0
  obtain ⟨a1, rfl, rfl, rfl, w1⟩ := open_int Try.underlying3 (hval 1 3 v1 rfl rfl) h1
  obtain ⟨a2, rfl, rfl, rfl, w2⟩ := open_int Try.underlying3 (hval 2 3 v2 rfl rfl) h2
  clear hA0 hval0 hsz0
  refine (walk a0 len0 cap0 L0 a1 a2 W hl0 lm0 w0 wf0 w1 w2).mono fun e W' ⟨he, bel⟩ => ?_
  subst he
  exact ⟨_, rfl, _, _, _, [], _, [], hW', trodAll_mk1 (shut_bool Try.underlying4 _), (trodAll_cons_mk (Below.trod laidOut (by kernel_rfl) (of_decide_eq_true (by kernel_rfl)) k0 bel lt0) (trodAll_cons_mk (shut_int Try.underlying3 w1) (trodAll_cons_mk (shut_int Try.underlying3 w2) trodAll_mk0))), rfl, bel.frame _, fun h => by cases h⟩

theorem over : Rows.extMovesRow.holds Try.pinned (OpenSpec.ofChange Rows.extMovesSpec) :=
  OpenClaim.holds_of_wide 5 Try.f5 rfl rfl rfl rfl rfl rfl rfl ⟨rfl, rfl, rfl, rfl, rfl⟩ rfl rfl rfl rfl rfl (by kernel_rfl) Try.func5 (by kernel_rfl)
    (of_decide_eq_true (by kernel_rfl)) (by unfold Func.isWrapper; first | (rw [if_pos (by decide +kernel)]; kernel_rfl) | (rw [if_neg (by decide +kernel)]; exact ⟨rfl, rfl⟩))
    (fun os started H enc _ => lifted os started H enc)

theorem proved : Rows.ExtMovesSaid := over
#print axioms proved
end Go.Proofs.Ytomncnelkkmalab.extMoves
