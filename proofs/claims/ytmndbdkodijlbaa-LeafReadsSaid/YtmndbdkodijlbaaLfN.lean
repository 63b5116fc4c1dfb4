/- What scoriaref09's put, Leafy, Kids, Leaf and Inner answer: of any extents and kids. No condition but those that each theorem names. -/
import Derived.Test.YtmndbdkodijlbaaLfK
import Derived.Test.YtmndbdkodijlbaaRefPut
namespace Go.Proofs.Ytmndbdkodijlbaa
open Go.RowKit
namespace LF
open MM FM EX
set_option linter.unusedVariables false
set_option linter.unusedSimpArgs false

theorem radd_run (a b : ByteArray) (h : a.size + b.size ≤ 1000) (w : World) : (Op.stringOp .add a b).run Try.prog w = .ok (.string (a ++ b)) w := run_string_add_sum w _ _ (by omega)
theorem str_append (a b : List UInt8) : str a ++ str b = str (a ++ b) := by
  apply ByteArray.ext
  apply Array.ext'
  simp [str]
theorem rput9_any (x : Int) (wd : Nat) (h0 : 0 ≤ x) (h : x < 9223372036854775808) (h1 : 1 ≤ wd) (h8 : wd ≤ 8) (hf : x.toNat < 256 ^ wd) (w : World) :
    Calls Try.prog 29 #[.int .i64 x, .int .i64 (wd : Int)] w fun r w' => r = .returned (.string (str (fb x.toNat wd))) ∧ Below w.heap.size w w' := by
  obtain ⟨n, rfl⟩ := Int.eq_ofNat_of_zero_le h0
  have HP := Lib.hid (rput_ok n wd (by omega) h1 h8 (by simpa using hf))
  have eU := u64_of (x := (n : Int)) (by omega) (by omega)
  simp only [Int.toNat_natCast]
  obtain ⟨S, hS⟩ : ∃ S, S = str (fb n wd) := ⟨_, rfl⟩
  rw [← hS] at HP ⊢
  clear hS hf
  go_enter Try.func29, Try.ntmps29
  go_wp2_with fail
  refine (HP.out _).mono ?_
  rintro r w1 ⟨rfl, hb1⟩
  go_wp2
  go_ret
  exact ⟨rfl, hb1⟩

set_option maxHeartbeats 4000000 in
theorem rleafy_any (L : List Ext) (len cap : Nat) (hlen : len = L.length) (hm : len ≤ 1000000) (a : Option Addr) (w : World) (hr : Exs w a L) :
    Calls Try.prog 28 #[.slice a len cap] w fun r w' => r = .returned (.bool (decide (Leafy L))) ∧ Below w.heap.size w w' := by
  have HC := Lib.hid (rcheck_any L len cap hlen (by unfold maxLen; omega) a w hr)
  obtain ⟨V, hV⟩ : ∃ V, V = decide (Leafy L) := ⟨_, rfl⟩
  have HLV : Hid ((1 ≤ L.length ∧ L.length ≤ 8) → decide (Valid L) = V) := Lib.hid fun h => by
    rw [hV]; unfold Leafy; simp [h]
  have HLN : Hid (¬ (1 ≤ L.length ∧ L.length ≤ 8) → V = false) := Lib.hid fun h => by rw [hV]; exact decide_eq_false fun x => h x.1
  have HLM : Hid (∀ e ∈ L, 2047 < e.at_ → V = false) := Lib.hid fun e he h => by
    rw [hV]; exact decide_eq_false fun x => by have := One.at_lt (x.2.1 e he); omega
  rw [← hV]
  obtain ⟨VV, hVV⟩ : ∃ V, V = decide (Valid L) := ⟨_, rfl⟩
  rw [← hVV] at HC HLV
  have HR := Lib.hid hr
  have HL := Lib.hid hlen
  clear hr hlen hV hVV
  go_enter Try.func28, Try.ntmps28
  go_wp2
  go_loopw [3] (fun i wr => ∃ k : Nat, k ≤ len ∧ i = .int .i64 k ∧ w = wr) (fun i _ => len - (intOf i).toNat)
  case atStart => exact ⟨0, Nat.zero_le _, rfl, rfl⟩
  case round =>
    obtain ⟨k, hk, rfl, rfl⟩ := hrel
    by_cases hlt : k < len
    · obtain ⟨e, he⟩ : ∃ e, L[k]? = some e := ⟨_, List.getElem?_eq_getElem (by rw [← HL.out]; exact hlt)⟩
      rcases HR.out with h0 | ⟨b, off, rfl, hb, hc⟩
      · rw [h0] at he; simp at he
      · obtain ⟨q0, q1, q2, q3⟩ := hc k e he
        have t1 : (k : Int) < (len : Int) := by omega
        have t2 : (0 : Int) ≤ (k : Int) := by omega
        have HE := Lib.hid (List.mem_of_getElem? he)
        clear hc he
        by_cases hat : 2047 < e.at_
        · have hv := HLM.out e HE.out hat
          have HVF := Lib.hid hv
          clear hv
          go_wp2
          go_ret
          exact ⟨by rw [HVF.out]; rfl, Below.refl _ _⟩
        · have hat' : decide (2047 < e.at_) = false := decide_eq_false hat
          go_wp2
          go_roundw
          case rel => exact ⟨k + 1, by omega, by go_num, trivial⟩
          case measure => simp [intOf]; omega
    · obtain rfl : k = len := by omega
      have i0 : ¬ (k : Int) < (k : Int) := by omega
      by_cases h1 : 1 ≤ k
      · have h1' : (1 : Int) ≤ (k : Int) := by omega
        by_cases h8 : k ≤ 8
        · have h8' : (k : Int) ≤ 8 := by omega
          have HVV := Lib.hid (HLV.out (by rw [← HL.out]; omega))
          go_wp2_with fail
          refine HC.out.mono ?_
          rintro e w1 ⟨rfl, hb1⟩
          go_wp2
          go_ret
          exact ⟨by rw [HVV.out]; rfl, hb1⟩
        · have h8' : decide ((k : Int) ≤ 8) = false := decide_eq_false (by omega)
          have HVV := Lib.hid (HLN.out (by rw [← HL.out]; omega))
          clear h8
          go_wp2
          go_ret
          exact ⟨by rw [HVV.out]; rfl, Below.refl _ _⟩
      · have h1' : decide ((1 : Int) ≤ (k : Int)) = false := decide_eq_false (by omega)
        have HVV := Lib.hid (HLN.out (by rw [← HL.out]; omega))
        clear h1
        go_wp2
        go_ret
        exact ⟨by rw [HVV.out]; rfl, Below.refl _ _⟩

set_option maxHeartbeats 8000000 in
theorem rkids_any (L : List Kid) (len cap : Nat) (hlen : len = L.length) (hm : len ≤ 1000000) (a : Option Addr) (w : World) (hr : Kds w a L) :
    Calls Try.prog 34 #[.slice a len cap] w fun r w' => r = .returned (.bool (decide (Kidy L))) ∧ Below w.heap.size w w' := by
  obtain ⟨V, hV⟩ : ∃ V, V = decide (Kidy L) := ⟨_, rfl⟩
  have HN : Hid (∀ k, k < L.length → ¬ OkAt L k → V = false) := Lib.hid fun k hk h => by rw [hV]; exact decide_eq_false (kids_false hk h)
  have HLN : Hid (¬ (2 ≤ L.length ∧ L.length ≤ 8) → V = false) := Lib.hid fun h => by rw [hV]; exact decide_eq_false fun x => h x.1
  have HY : Hid ((2 ≤ L.length ∧ L.length ≤ 8) → (∀ i, i < L.length → OkAt L i) → V = true) := Lib.hid fun h h2 => by rw [hV]; exact decide_eq_true ⟨h, h2⟩
  rw [← hV]
  have HR := Lib.hid hr
  have HL := Lib.hid hlen
  clear hr hlen hV
  go_enter Try.func34, Try.ntmps34
  go_wp2
  go_loopw [3] (fun i wr => ∃ k : Nat, k ≤ len ∧ i = .int .i64 k ∧ Hid (∀ i, i < k → OkAt L i) ∧ Below w.heap.size w wr) (fun i _ => len - (intOf i).toNat)
  case atStart => exact ⟨0, Nat.zero_le _, rfl, Lib.hid (fun i hi => by omega), Below.refl _ _⟩
  case round =>
    obtain ⟨k, hk, rfl, hval, hbel⟩ := hrel
    have HBL := Lib.hid hbel
    by_cases hlt : k < len
    · obtain ⟨e, he⟩ : ∃ e, L[k]? = some e := ⟨_, List.getElem?_eq_getElem (by rw [← HL.out]; exact hlt)⟩
      obtain ⟨b, off, rfl, hb, hc⟩ := kds_get HR.out he
      have HC : Hid (∀ (i : Nat) (x : Kid), L[i]? = some x → Cells2 wr b (off + i * 2) x) := Lib.hid fun i x hx => (hc i x hx).kept hbel hb
      have HC0 := Lib.hid hc
      have HB := Lib.hid hb
      have HE := Lib.hid he
      obtain ⟨q0, q1⟩ := HC.out k e he
      have HKL : Hid (k < L.length) := Lib.hid (by rw [← HL.out]; exact hlt)
      have HA := Lib.hid (ok_at he)
      have t1 : (k : Int) < (len : Int) := by omega
      have t2 : (0 : Int) ≤ (k : Int) := by omega
      clear hc hbel hb he
      by_cases a1 : e.key < 0
      · have hv := HN.out k HKL.out (fun h => by have := (HA.out.1 h).1.1.1; omega)
        have HVF := Lib.hid hv
        clear hv
        go_wp2
        go_ret
        exact ⟨by rw [HVF.out]; rfl, HBL.out⟩
      · have a1' : decide (e.key < 0) = false := decide_eq_false a1
        by_cases a2 : 16777215 < e.key
        · have hv := HN.out k HKL.out (fun h => by have := (HA.out.1 h).1.1.2; omega)
          have HVF := Lib.hid hv
          clear hv
          go_wp2
          go_ret
          exact ⟨by rw [HVF.out]; rfl, HBL.out⟩
        · have a2' : decide (16777215 < e.key) = false := decide_eq_false a2
          by_cases a3 : e.at_ < 0
          · have hv := HN.out k HKL.out (fun h => by have := (HA.out.1 h).1.2.1; omega)
            have HVF := Lib.hid hv
            clear hv
            go_wp2
            go_ret
            exact ⟨by rw [HVF.out]; rfl, HBL.out⟩
          · have a3' : decide (e.at_ < 0) = false := decide_eq_false a3
            by_cases a4 : 2047 < e.at_
            · have hv := HN.out k HKL.out (fun h => by have := (HA.out.1 h).1.2.2; omega)
              have HVF := Lib.hid hv
              clear hv
              go_wp2
              go_ret
              exact ⟨by rw [HVF.out]; rfl, HBL.out⟩
            · have a4' : decide (2047 < e.at_) = false := decide_eq_false a4
              have HIN : Hid (InK e) := Lib.hid ⟨⟨by omega, by omega⟩, by omega, by omega⟩
              clear a1 a2 a3 a4
              rcases Nat.eq_zero_or_pos k with h0 | hpos
              · subst h0
                have hz : decide ((0 : Int) < ((0 : Nat) : Int)) = false := rfl
                have HKEY : Hid ((0 : Nat) < 0 → (L.getD (0 - 1) default).key < e.key) := Lib.hid fun h => by omega
                simp only [Nat.zero_mul, Nat.add_zero] at q0 q1
                go_wp2
                go_quiet (fail)
                go_wp2
                clear q0 q1
                go_loopw [4] (fun i wr => ∃ m : Nat, m ≤ 0 ∧ i = .int .i64 m ∧ Hid (∀ x ∈ L.take m, x.at_ ≠ e.at_) ∧ Below w.heap.size w wr) (fun i _ => 0 - (intOf i).toNat)
                case atStart => exact ⟨0, Nat.zero_le _, rfl, Lib.hid (fun x hx => by simp at hx), MM.drewN_below HBL.out _⟩
                case round =>
                  obtain ⟨m, hm2, rfl, hno, hbel2⟩ := hrel
                  have HB2 := Lib.hid hbel2
                  by_cases hlt2 : m < 0
                  · exact absurd hlt2 (by omega)
                  · obtain rfl : m = 0 := by omega
                    have HOK : Hid (OkAt L 0) := Lib.hid (HA.out.2 ⟨HIN.out, HKEY.out, fun ⟨x, hx, h⟩ => hno.out x hx h⟩)
                    have u1 : ¬ ((0 : Nat) : Int) < ((0 : Nat) : Int) := by omega
                    clear hbel2
                    go_wp2
                    go_roundw
                    case rel => exact ⟨0 + 1, by omega, by go_num, Lib.hid (fun i hi => by
                        by_cases hik : i = 0
                        · rw [hik]; exact HOK.out
                        · exact hval.out i (by omega)), HB2.out⟩
                    case measure => simp [intOf]; omega
              · obtain ⟨j, rfl⟩ : ∃ j, k = j + 1 := ⟨k - 1, by omega⟩
                obtain ⟨p, hp⟩ : ∃ p, L[j]? = some p := ⟨_, List.getElem?_eq_getElem (by rw [← HL.out]; omega)⟩
                obtain ⟨p0, p1⟩ := HC.out j p hp
                have HPD := Lib.hid (getD_at hp)
                have e9 : IntKind.i64.wrap (((j + 1 : Nat) : Int) - 1) = (j : Int) := by rw [IntWalk.i64_in _ (by omega)]; omega
                have e10 : (0 : Int) ≤ (j : Int) := by omega
                have e11 : (j : Int) < (len : Int) := by omega
                have e12 : (0 : Int) < ((j + 1 : Nat) : Int) := by omega
                clear hp
                by_cases hle : e.key ≤ p.key
                · have hv := HN.out (j + 1) HKL.out (fun h => by have := (HA.out.1 h).2.1 (by omega); rw [show j + 1 - 1 = j from rfl, HPD.out] at this; omega)
                  have HVF := Lib.hid hv
                  clear hv
                  go_wp2
                  go_quiet (fail)
                  go_wp2
                  go_ret
                  exact ⟨by rw [HVF.out]; rfl, MM.drewN_below HBL.out _⟩
                · have hle' : decide (e.key ≤ p.key) = false := decide_eq_false hle
                  have HKEY : Hid (0 < j + 1 → (L.getD (j + 1 - 1) default).key < e.key) := Lib.hid fun _ => by rw [show j + 1 - 1 = j from rfl, HPD.out]; omega
                  go_wp2
                  go_quiet (fail)
                  go_wp2
                  clear q0 q1 p0 p1
                  go_loopw [4] (fun i wr => ∃ m : Nat, m ≤ (j + 1) ∧ i = .int .i64 m ∧ Hid (∀ x ∈ L.take m, x.at_ ≠ e.at_) ∧ Below w.heap.size w wr) (fun i _ => (j + 1) - (intOf i).toNat)
                  case atStart => exact ⟨0, Nat.zero_le _, rfl, Lib.hid (fun x hx => by simp at hx), MM.drewN_below HBL.out _⟩
                  case round =>
                    obtain ⟨m, hm2, rfl, hno, hbel2⟩ := hrel
                    have HB2 := Lib.hid hbel2
                    by_cases hlt2 : m < (j + 1)
                    · obtain ⟨p, hp⟩ : ∃ p, L[m]? = some p := ⟨_, List.getElem?_eq_getElem (by rw [← HL.out]; omega)⟩
                      obtain ⟨r0, r1⟩ := (HC0.out m p hp).kept hbel2 HB.out
                      obtain ⟨s0, s1⟩ := (HC0.out (j + 1) e HE.out).kept hbel2 HB.out
                      have HP := Lib.hid hp
                      have u1 : (m : Int) < ((j + 1) : Nat) := by omega
                      have u2 : (0 : Int) ≤ (m : Int) := by omega
                      have u3 : (m : Int) < (len : Int) := by omega
                      clear hp hbel2
                      by_cases hat : p.at_ = e.at_
                      · have hv := HN.out (j + 1) HKL.out (fun h => (HA.out.1 h).2.2 ⟨p, List.mem_of_getElem? (i := m) (by rw [List.getElem?_take_of_lt (by omega)]; exact HP.out), hat⟩)
                        have HVF := Lib.hid hv
                        have hat' : (p.at_ == e.at_) = true := beq_iff_eq.2 hat
                        clear hv hat
                        go_wp2
                        go_quiet (fail)
                        go_wp2
                        go_ret
                        exact ⟨by rw [HVF.out]; rfl, MM.drewN_below HB2.out _⟩
                      · have hat' : (p.at_ == e.at_) = false := beq_eq_false_iff_ne.2 hat
                        have hno' : Hid (∀ x ∈ L.take (m + 1), x.at_ ≠ e.at_) := Lib.hid fun x hx => by
                          rw [List.take_add_one, HP.out] at hx
                          rcases List.mem_append.1 hx with hx | hx
                          · exact hno.out x hx
                          · simp at hx; rw [hx]; exact hat
                        go_wp2
                        go_quiet (fail)
                        go_wp2
                        go_roundw
                        case rel => exact ⟨m + 1, by omega, by go_num, hno', MM.drewN_below HB2.out _⟩
                        case measure => simp [intOf]; omega
                    · obtain rfl : m = (j + 1) := by omega
                      have HOK : Hid (OkAt L (j + 1)) := Lib.hid (HA.out.2 ⟨HIN.out, HKEY.out, fun ⟨x, hx, h⟩ => hno.out x hx h⟩)
                      have u1 : ¬ (((j + 1) : Nat) : Int) < (((j + 1) : Nat) : Int) := by omega
                      clear hbel2
                      go_wp2
                      go_roundw
                      case rel => exact ⟨(j + 1) + 1, by omega, by go_num, Lib.hid (fun i hi => by
                          by_cases hik : i = (j + 1)
                          · rw [hik]; exact HOK.out
                          · exact hval.out i (by omega)), HB2.out⟩
                      case measure => simp [intOf]; omega
    · obtain rfl : k = len := by omega
      have i0 : ¬ (k : Int) < (k : Int) := by omega
      clear hbel
      by_cases h1 : 2 ≤ k
      · have h1' : (2 : Int) ≤ (k : Int) := by omega
        by_cases h8 : k ≤ 8
        · have h8' : (k : Int) ≤ 8 := by omega
          have HVV := Lib.hid (HY.out (by rw [← HL.out]; omega) (by rw [← HL.out]; exact hval.out))
          go_wp2
          go_ret
          exact ⟨by rw [HVV.out]; simp, HBL.out⟩
        · have h8' : decide ((k : Int) ≤ 8) = false := decide_eq_false (by omega)
          have HVV := Lib.hid (HLN.out (by rw [← HL.out]; omega))
          clear h8
          go_wp2
          go_ret
          exact ⟨by rw [HVV.out]; rfl, HBL.out⟩
      · have h1' : decide ((2 : Int) ≤ (k : Int)) = false := decide_eq_false (by omega)
        have HVV := Lib.hid (HLN.out (by rw [← HL.out]; omega))
        clear h1
        go_wp2
        go_ret
        exact ⟨by rw [HVV.out]; rfl, HBL.out⟩
end LF
end Go.Proofs.Ytmndbdkodijlbaa
