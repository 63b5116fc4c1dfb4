/- What scoriaref12's put and May answer: of any namespaces. No condition but those that each theorem names. -/
import Derived.Test.YtdjlflinepefbaaRtR
import Derived.Test.YtdjlflinepefbaaRefPut
namespace Go.Proofs.Ytdjlflinepefbaa
open Go.RowKit
namespace RT
open MM FM EX
set_option linter.unusedVariables false
set_option linter.unusedSimpArgs false

theorem rput_any (x : Int) (wd : Nat) (h0 : 0 ≤ x) (h : x < 9223372036854775808) (h1 : 1 ≤ wd) (h8 : wd ≤ 8) (hf : x.toNat < 256 ^ wd) (w : World) :
    Calls Try.prog 29 #[.int .i64 x, .int .i64 (wd : Int)] w fun r w' => r = .returned (.string (str (fb x.toNat wd))) ∧ Below w.heap.size w w' := by
  obtain ⟨n, rfl⟩ := Int.eq_ofNat_of_zero_le h0
  have HP := Lib.hid (rput_ok n wd (by omega) h1 h8 (by simpa using hf))
  have eU := u64_of (x := (n : Int)) (by omega) (by omega)
  simp only [Int.toNat_natCast]
  obtain ⟨S, hS⟩ : ∃ S, S = str (fb n wd) := ⟨_, rfl⟩
  rw [← hS] at HP ⊢
  clear hS hf
  go_enter Try.func29, Try.ntmps29
  go_wp2_with fail
  refine (HP.out _).mono ?_
  rintro r w1 ⟨rfl, hb1⟩
  go_wp2
  go_ret
  exact ⟨rfl, hb1⟩
theorem may_no (gen : Int) (L : List Ext) (len cap : Nat) (hlen : len = L.length) (a : Option Addr) (w : World) (h : ¬ (0 ≤ gen ∧ gen ≤ 1099511627775) ∨ 8 < len) :
    Calls Try.prog 28 #[.int .i64 gen, .slice a len cap] w fun e w' => e = .returned (.bool false) ∧ w = w' := by
  by_cases h1 : gen < 0
  · go_enter Try.func28, Try.ntmps28
    go_wp2
    go_ret
    exact ⟨rfl, rfl⟩
  · have h1' : decide (gen < 0) = false := decide_eq_false h1
    by_cases h2 : 1099511627775 < gen
    · clear h1
      go_enter Try.func28, Try.ntmps28
      go_wp2
      go_ret
      exact ⟨rfl, rfl⟩
    · have h2' : decide (1099511627775 < gen) = false := decide_eq_false h2
      have h3 : (8 : Int) < (len : Int) := by rcases h with h | h <;> omega
      clear h1 h2 h
      go_enter Try.func28, Try.ntmps28
      go_wp2
      go_ret
      exact ⟨rfl, rfl⟩
set_option maxRecDepth 100000 in
set_option maxHeartbeats 16000000 in
theorem may_loop (gen : Int) (L : List Ext) (len cap : Nat) (hlen : len = L.length) (a : Option Addr) (w : World) (hr : Exs w a L) (hg : 0 ≤ gen ∧ gen ≤ 1099511627775) (h8 : len ≤ 8) :
    Calls Try.prog 28 #[.int .i64 gen, .slice a len cap] w fun e w' => e = .returned (.bool (decide (Recd gen L))) ∧ Below w.heap.size w w' := by
  obtain ⟨V, hV⟩ : ∃ V, V = decide (Recd gen L) := ⟨_, rfl⟩
  have HN : Hid (∀ k, k < L.length → ¬ OkAt L k → V = false) := Lib.hid fun k hk h => by rw [hV]; exact decide_eq_false fun x => h (x.2.2 k hk)
  have HY : Hid ((∀ i, i < L.length → OkAt L i) → V = true) := Lib.hid fun h => by rw [hV]; exact decide_eq_true ⟨hg, by omega, h⟩
  rw [← hV]
  have HR := Lib.hid hr
  have HL := Lib.hid hlen
  have g1 : decide (gen < 0) = false := decide_eq_false (by omega)
  have g2 : decide (1099511627775 < gen) = false := decide_eq_false (by omega)
  have t8 : decide ((8 : Int) < (len : Int)) = false := decide_eq_false (by omega)
  clear hV hr hlen hg
  go_enter Try.func28, Try.ntmps28
  go_wp2
  go_loopw [5] (fun i wr => ∃ k : Nat, k ≤ len ∧ i = .int .i64 k ∧ Hid (∀ i, i < k → OkAt L i) ∧ Below w.heap.size w wr) (fun i _ => len - (intOf i).toNat)
  case atStart => exact ⟨0, Nat.zero_le _, rfl, Lib.hid (fun i hi => by omega), Below.refl _ _⟩
  case round =>
    obtain ⟨k, hk, rfl, hval, hbel⟩ := hrel
    have HB := Lib.hid hbel
    by_cases hlt : k < len
    · obtain ⟨e, he⟩ : ∃ e, L[k]? = some e := ⟨_, List.getElem?_eq_getElem (by rw [← HL.out]; exact hlt)⟩
      obtain ⟨b, off, rfl, hb, hc⟩ := exs_get HR.out he
      obtain ⟨q0, q1, q2, q3⟩ := (hc k e he).kept hbel hb
      have HA := Lib.hid (ok_at he)
      have HKL : Hid (k < L.length) := Lib.hid (by rw [← HL.out]; exact hlt)
      have HLO := Lib.hid (lst_low k hval.out)
      have HCC := Lib.hid hc
      have HBB := Lib.hid hb
      have t1 : (k : Int) < (len : Int) := by omega
      have t2 : (0 : Int) ≤ (k : Int) := by omega
      obtain ⟨W, hW⟩ : ∃ W, W = wr.alloc (.cells #[.int .i64 e.from_, .int .i64 e.n, .int .i64 e.kind, .int .i64 e.at_] 76) := ⟨_, rfl⟩
      have HWB : Hid (Below wr.heap.size wr W) := Lib.hid (by rw [hW]; exact below_box wr _)
      have z0 : W.cell? ⟨wr.heap.size, 0, none⟩ = some (.int .i64 e.from_) := by rw [hW]; exact (Blk.new wr _ _).cell 0
      have HBW : Hid (Below w.heap.size w W) := Lib.hid (bkept hbel HWB.out)
      have HW := Lib.hid hW
      clear hc he hbel hb hW
      by_cases a1 : e.from_ < 1
      · have hv := HN.out k HKL.out (fun h => by have h9 := HA.out.1 h; have h8 := HLO.out; have := h9.1.1; omega)
        have HVF := Lib.hid hv
        clear hv
        go_wp2
        go_ret
        exact ⟨by rw [HVF.out]; rfl, by rw [← HW.out]; exact HBW.out⟩
      · have a1' : decide (e.from_ < 1) = false := decide_eq_false a1
        by_cases a2 : 65535 < e.from_
        · have hv := HN.out k HKL.out (fun h => by have h9 := HA.out.1 h; have h8 := HLO.out; have := h9.1.2; omega)
          have HVF := Lib.hid hv
          clear hv
          go_wp2
          go_ret
          exact ⟨by rw [HVF.out]; rfl, by rw [← HW.out]; exact HBW.out⟩
        · have a2' : decide (65535 < e.from_) = false := decide_eq_false a2
          by_cases a3 : e.n < 0
          · have hv := HN.out k HKL.out (fun h => by have h9 := HA.out.1 h; have h8 := HLO.out; have := h9.2.1.1; omega)
            have HVF := Lib.hid hv
            clear hv
            go_wp2
            go_ret
            exact ⟨by rw [HVF.out]; rfl, by rw [← HW.out]; exact HBW.out⟩
          · have a3' : decide (e.n < 0) = false := decide_eq_false a3
            by_cases a4 : 16777216 < e.n
            · have hv := HN.out k HKL.out (fun h => by have h9 := HA.out.1 h; have h8 := HLO.out; have := h9.2.1.2; omega)
              have HVF := Lib.hid hv
              clear hv
              go_wp2
              go_ret
              exact ⟨by rw [HVF.out]; rfl, by rw [← HW.out]; exact HBW.out⟩
            · have a4' : decide (16777216 < e.n) = false := decide_eq_false a4
              by_cases a5 : e.at_ < 0
              · have hv := HN.out k HKL.out (fun h => by have h9 := HA.out.1 h; have h8 := HLO.out; have := h9.2.2.1.1; omega)
                have HVF := Lib.hid hv
                clear hv
                go_wp2
                go_ret
                exact ⟨by rw [HVF.out]; rfl, by rw [← HW.out]; exact HBW.out⟩
              · have a5' : decide (e.at_ < 0) = false := decide_eq_false a5
                by_cases a6 : 6 < e.at_
                · have hv := HN.out k HKL.out (fun h => by have h9 := HA.out.1 h; have h8 := HLO.out; have := h9.2.2.1.2; omega)
                  have HVF := Lib.hid hv
                  clear hv
                  go_wp2
                  go_ret
                  exact ⟨by rw [HVF.out]; rfl, by rw [← HW.out]; exact HBW.out⟩
                · have a6' : decide (6 < e.at_) = false := decide_eq_false a6
                  have HF : Hid (1 ≤ e.from_ ∧ e.from_ ≤ 65535) := Lib.hid ⟨by omega, by omega⟩
                  by_cases b1 : e.at_ = 0
                  · have b1' : (e.at_ == 0) = true := beq_iff_eq.2 b1
                    have b3 : decide (0 < e.at_) = false := decide_eq_false (by omega)
                    have B1 := Lib.hid b1
                    clear b1
                    by_cases b2 : e.kind = -1
                    · have b2' : (e.kind != -1) = false := by simp [b2]
                      have B2 := Lib.hid b2
                      clear b2
                      have HSP : Hid (SpRest e) := Lib.hid ⟨⟨by omega, by omega⟩, ⟨by have := B1.out; omega, by have := B1.out; omega⟩, .inl ⟨B1.out, B2.out⟩⟩
                      clear a1 a2 a3 a4 a5 a6
                      rcases Nat.eq_zero_or_pos k with h0 | hpos
                      · subst h0
                        have hz : decide ((0 : Int) < ((0 : Nat) : Int)) = false := rfl
                        have HOK : Hid (OkAt L 0) := Lib.hid (HA.out.2 ⟨⟨by show (0 : Int) + 1 ≤ _; have := HF.out; omega, HF.out.2⟩, HSP.out⟩)
                        simp only [Nat.zero_mul, Nat.add_zero] at q0 q1 q2 q3
                        go_wp2
                        rw [← HW.out]
                        go_quiet (fail)
                        go_wp2
                        go_roundw
                        case rel => exact ⟨0 + 1, by omega, by go_num, Lib.hid (fun i hi => by
                            by_cases hik : i = 0
                            · rw [hik]; exact HOK.out
                            · exact hval.out i (by omega)), MM.drewN_below HBW.out _⟩
                        case measure => simp [intOf]; omega
                      · obtain ⟨j, rfl⟩ : ∃ j, k = j + 1 := ⟨k - 1, by omega⟩
                        obtain ⟨pv, hp⟩ : ∃ p, L[j]? = some p := ⟨_, List.getElem?_eq_getElem (by rw [← HL.out]; omega)⟩
                        obtain ⟨p0, _⟩ := (HCC.out j pv hp).kept HBW.out HBB.out
                        have HPD := Lib.hid (lst_succ hp)
                        have e9 : IntKind.i64.wrap (((j + 1 : Nat) : Int) - 1) = (j : Int) := by rw [IntWalk.i64_in _ (by omega)]; omega
                        have e10 : (0 : Int) ≤ (j : Int) := by omega
                        have e11 : (j : Int) < (len : Int) := by omega
                        have e12 : (0 : Int) < ((j + 1 : Nat) : Int) := by omega
                        clear hp
                        by_cases hle : e.from_ ≤ pv.from_
                        · have hv := HN.out (j + 1) HKL.out (fun h => by have := (HA.out.1 h).1.1; rw [HPD.out] at this; omega)
                          have HVF := Lib.hid hv
                          clear hv
                          go_wp2
                          rw [← HW.out]
                          go_quiet (fail)
                          go_wp2
                          go_ret
                          exact ⟨by rw [HVF.out]; rfl, MM.drewN_below HBW.out _⟩
                        · have hle' : decide (e.from_ ≤ pv.from_) = false := decide_eq_false hle
                          have HOK : Hid (OkAt L (j + 1)) := Lib.hid (HA.out.2 ⟨⟨by rw [HPD.out]; omega, HF.out.2⟩, HSP.out⟩)
                          go_wp2
                          rw [← HW.out]
                          go_quiet (fail)
                          go_wp2
                          go_roundw
                          case rel => exact ⟨(j + 1) + 1, by omega, by go_num, Lib.hid (fun i hi => by
                              by_cases hik : i = (j + 1)
                              · rw [hik]; exact HOK.out
                              · exact hval.out i (by omega)), MM.drewN_below HBW.out _⟩
                          case measure => simp [intOf]; omega
                    · have b2' : (e.kind != -1) = true := by simp [b2]
                      have hv := HN.out k HKL.out (fun h => by have h9 := HA.out.1 h; have h8 := HLO.out; rcases h9.2.2.2 with h7 | h7; exact b2 h7.2; exact h7.1 B1.out)
                      have HVF := Lib.hid hv
                      clear hv
                      go_wp2
                      go_ret
                      exact ⟨by rw [HVF.out]; rfl, by rw [← HW.out]; exact HBW.out⟩
                  · have b1' : (e.at_ == 0) = false := beq_eq_false_iff_ne.2 b1
                    have b3 : 0 < e.at_ := by omega
                    by_cases b2 : e.kind < 0
                    · have hv := HN.out k HKL.out (fun h => by have h9 := HA.out.1 h; have h8 := HLO.out; rcases h9.2.2.2 with h7 | h7; exact b1 h7.1; have := h7.2.1; omega)
                      have HVF := Lib.hid hv
                      clear hv
                      go_wp2
                      go_ret
                      exact ⟨by rw [HVF.out]; rfl, by rw [← HW.out]; exact HBW.out⟩
                    · have b2' : decide (e.kind < 0) = false := decide_eq_false b2
                      by_cases b4 : 2047 < e.kind
                      · have hv := HN.out k HKL.out (fun h => by have h9 := HA.out.1 h; have h8 := HLO.out; rcases h9.2.2.2 with h7 | h7; exact b1 h7.1; have := h7.2.2; omega)
                        have HVF := Lib.hid hv
                        clear hv
                        go_wp2
                        go_ret
                        exact ⟨by rw [HVF.out]; rfl, by rw [← HW.out]; exact HBW.out⟩
                      · have b4' : decide (2047 < e.kind) = false := decide_eq_false b4
                        have HSP : Hid (SpRest e) := Lib.hid ⟨⟨by omega, by omega⟩, ⟨by omega, by omega⟩, .inr ⟨b1, by omega, by omega⟩⟩
                        clear a1 a2 a3 a4 a5 a6
                        rcases Nat.eq_zero_or_pos k with h0 | hpos
                        · subst h0
                          have hz : decide ((0 : Int) < ((0 : Nat) : Int)) = false := rfl
                          have HOK : Hid (OkAt L 0) := Lib.hid (HA.out.2 ⟨⟨by show (0 : Int) + 1 ≤ _; have := HF.out; omega, HF.out.2⟩, HSP.out⟩)
                          simp only [Nat.zero_mul, Nat.add_zero] at q0 q1 q2 q3
                          go_wp2
                          rw [← HW.out]
                          go_quiet (fail)
                          go_wp2
                          go_roundw
                          case rel => exact ⟨0 + 1, by omega, by go_num, Lib.hid (fun i hi => by
                              by_cases hik : i = 0
                              · rw [hik]; exact HOK.out
                              · exact hval.out i (by omega)), MM.drewN_below HBW.out _⟩
                          case measure => simp [intOf]; omega
                        · obtain ⟨j, rfl⟩ : ∃ j, k = j + 1 := ⟨k - 1, by omega⟩
                          obtain ⟨pv, hp⟩ : ∃ p, L[j]? = some p := ⟨_, List.getElem?_eq_getElem (by rw [← HL.out]; omega)⟩
                          obtain ⟨p0, _⟩ := (HCC.out j pv hp).kept HBW.out HBB.out
                          have HPD := Lib.hid (lst_succ hp)
                          have e9 : IntKind.i64.wrap (((j + 1 : Nat) : Int) - 1) = (j : Int) := by rw [IntWalk.i64_in _ (by omega)]; omega
                          have e10 : (0 : Int) ≤ (j : Int) := by omega
                          have e11 : (j : Int) < (len : Int) := by omega
                          have e12 : (0 : Int) < ((j + 1 : Nat) : Int) := by omega
                          clear hp
                          by_cases hle : e.from_ ≤ pv.from_
                          · have hv := HN.out (j + 1) HKL.out (fun h => by have := (HA.out.1 h).1.1; rw [HPD.out] at this; omega)
                            have HVF := Lib.hid hv
                            clear hv
                            go_wp2
                            rw [← HW.out]
                            go_quiet (fail)
                            go_wp2
                            go_ret
                            exact ⟨by rw [HVF.out]; rfl, MM.drewN_below HBW.out _⟩
                          · have hle' : decide (e.from_ ≤ pv.from_) = false := decide_eq_false hle
                            have HOK : Hid (OkAt L (j + 1)) := Lib.hid (HA.out.2 ⟨⟨by rw [HPD.out]; omega, HF.out.2⟩, HSP.out⟩)
                            go_wp2
                            rw [← HW.out]
                            go_quiet (fail)
                            go_wp2
                            go_roundw
                            case rel => exact ⟨(j + 1) + 1, by omega, by go_num, Lib.hid (fun i hi => by
                                by_cases hik : i = (j + 1)
                                · rw [hik]; exact HOK.out
                                · exact hval.out i (by omega)), MM.drewN_below HBW.out _⟩
                            case measure => simp [intOf]; omega
    · obtain rfl : k = len := by omega
      have i0 : ¬ (k : Int) < (k : Int) := by omega
      have HVV := Lib.hid (HY.out (by rw [← HL.out]; exact hval.out))
      clear hbel
      go_wp2
      go_ret
      exact ⟨by rw [HVV.out]; rfl, HB.out⟩
theorem may_any (gen : Int) (L : List Ext) (len cap : Nat) (hlen : len = L.length) (a : Option Addr) (w : World) (hr : Exs w a L) :
    Calls Try.prog 28 #[.int .i64 gen, .slice a len cap] w fun e w' => e = .returned (.bool (decide (Recd gen L))) ∧ Below w.heap.size w w' := by
  by_cases h : ¬ (0 ≤ gen ∧ gen ≤ 1099511627775) ∨ 8 < len
  · refine (may_no gen L len cap hlen a w h).mono fun e w' h9 => ⟨?_, h9.2 ▸ Below.refl _ _⟩
    rw [decide_eq_false]; exact h9.1
    intro x
    rcases h with h | h
    · exact h x.1
    · have := x.2.1; omega
  · have h1 : (0 ≤ gen ∧ gen ≤ 1099511627775) ∧ len ≤ 8 := by
      refine ⟨?_, by omega⟩
      by_cases x : 0 ≤ gen ∧ gen ≤ 1099511627775
      · exact x
      · exact absurd (.inl x) h
    exact may_loop gen L len cap hlen a w hr h1.1 h1.2
end RT
end Go.Proofs.Ytdjlflinepefbaa
