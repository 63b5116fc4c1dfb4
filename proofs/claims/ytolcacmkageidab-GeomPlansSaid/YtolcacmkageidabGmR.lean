/- What scoriaref06's May, Of and Nodes answer. No condition but those that each theorem names. -/
import Derived.Test.YtolcacmkageidabGmB
namespace Go.Proofs.Ytolcacmkageidab
open Go.RowKit
namespace GM
open MM
set_option linter.unusedVariables false
set_option linter.unusedSimpArgs false

theorem rmay_yes (b p : Int) (h : Geo b p) (w : World) : Calls Try.prog 12 #[.int .i64 b, .int .i64 p] w fun e w' => e = .returned (.bool true) ∧ w = w' := by
  obtain ⟨h1, h2, h3, h4⟩ := h
  go_enter Try.func12, Try.ntmps12
  go_wp2
  go_ret
  exact ⟨rfl, rfl⟩
theorem rmay_no (b p : Int) (h : ¬ Geo b p) (w : World) : Calls Try.prog 12 #[.int .i64 b, .int .i64 p] w fun e w' => e = .returned (.bool false) ∧ w = w' := by
  have HH : Hid (¬ (16 ≤ b ∧ b ≤ 64 ∧ 8 ≤ p ∧ p ≤ 32)) := Lib.hid h
  clear h
  go_enter Try.func12, Try.ntmps12
  go_wp2
  all_goals go_ret
  · have hb : ¬ p ≤ 32 := fun h6 => HH.out ⟨by assumption, by assumption, by assumption, h6⟩
    refine ⟨?_, rfl⟩
    show Ending.returned (.bool (decide (p ≤ 32))) = _
    rw [decide_eq_false hb]
  all_goals exact ⟨rfl, rfl⟩

theorem below2 (w : World) (a b : Obj) : Below w.heap.size w ((w.alloc a).alloc b) := (below_box w a).alloc (by simp) b
set_option maxHeartbeats 4000000 in
theorem of_any (b p : Nat) (h : 16 ≤ b ∧ b ≤ 64 ∧ 8 ≤ p ∧ p ≤ 32) (w : World) : Calls Try.prog 16 #[.int .i64 (b : Int), .int .i64 (p : Int)] w fun e w' => e = .returned (.agg #[.int .i64 ((b * p : Nat) : Int), .int .i64 ((b / 8 : Nat) : Int), .int .i64 (cap b p : Int), .int .i64 (low b p : Int), .int .i64 ((low b p : Int) + 1)]) ∧ Below w.heap.size w w' := by
  obtain ⟨hb1, hb2, hp1, hp2⟩ := h
  have F := facts hb1 hb2 hp1 hp2
  have hl : low b p = 2 + b / 8 + hold b p := rfl
  have e1' := Lib.hid (wrap_mul b p (by have := F.pages; omega))
  have e2' := Lib.hid (wrap_quo b 8 8 rfl (by omega))
  obtain ⟨S, hS⟩ : ∃ S, S = b / 8 := ⟨_, rfl⟩
  have hc : cap b p = p * (b - S - 4) / 16 := by rw [hS]; rfl
  have hpr : p * (b - S - 4) ≤ 2048 := by rw [hS]; exact F.prod
  rw [← hS] at e2' hl ⊢
  have hS8 : S ≤ 8 := by omega
  have e3' : Hid (IntKind.i64.wrap ((b : Int) - (S : Int)) = (b : Int) - (S : Int)) := Lib.hid (by show IntKind.i64.wrap ((b : Int) - (S : Int)) = (b : Int) - (S : Int); exact IntWalk.i64_in _ (by omega))
  have e4' : Hid (IntKind.i64.wrap ((b : Int) - (S : Int) - 4) = ((b - S - 4 : Nat) : Int)) := by show IntKind.i64.wrap ((b : Int) - (S : Int) - 4) = ((b - S - 4 : Nat) : Int); rw [IntWalk.i64_in _ (by omega)]; omega
  obtain ⟨D, hD⟩ : ∃ D, D = b - S - 4 := ⟨_, rfl⟩
  rw [← hD] at e4' hc hpr
  have e5' := Lib.hid (wrap_mul p D (by omega))
  obtain ⟨M, hM⟩ : ∃ M, M = p * D := ⟨_, rfl⟩
  rw [← hM] at e5' hc
  have e6' := Lib.hid (wrap_quo M 16 16 rfl (by rw [hM]; omega))
  rw [← hc] at e6'
  have hnd : need b p = 8 + p + cap b p / 2 + 16 + 1 := rfl
  have c1 := F.capTop
  have c2 := F.holdTop
  have c3 : need b p ≤ hold b p * p := F.holdEnough
  have c4 : (hold b p - 1) * p < need b p := F.holdLeast
  have c5 : 1 ≤ hold b p := F.holdLow
  obtain ⟨C, hC⟩ : ∃ C, C = cap b p := ⟨_, rfl⟩
  rw [← hC] at e6' c1 hnd ⊢
  have e7' := Lib.hid (wrap_quo C 2 2 rfl (by omega))
  obtain ⟨Y, hY⟩ : ∃ Y, Y = C / 2 := ⟨_, rfl⟩
  rw [← hY] at e7' hnd
  have hY2 : Y ≤ 52 := by omega
  have e8' : Hid (IntKind.i64.wrap (8 + (p : Int)) = 8 + (p : Int)) := Lib.hid (by show IntKind.i64.wrap (8 + (p : Int)) = 8 + (p : Int); exact IntWalk.i64_in _ (by omega))
  have e9' : Hid (IntKind.i64.wrap (8 + (p : Int) + (Y : Int)) = 8 + (p : Int) + (Y : Int)) := Lib.hid (by show IntKind.i64.wrap (8 + (p : Int) + (Y : Int)) = 8 + (p : Int) + (Y : Int); exact IntWalk.i64_in _ (by omega))
  have e10' : Hid (IntKind.i64.wrap (8 + (p : Int) + (Y : Int) + 16) = 8 + (p : Int) + (Y : Int) + 16) := Lib.hid (by show IntKind.i64.wrap (8 + (p : Int) + (Y : Int) + 16) = 8 + (p : Int) + (Y : Int) + 16; exact IntWalk.i64_in _ (by omega))
  have e11' : Hid (IntKind.i64.wrap (8 + (p : Int) + (Y : Int) + 16 + 1) = (need b p : Int)) := by show IntKind.i64.wrap (8 + (p : Int) + (Y : Int) + 16 + 1) = (need b p : Int); rw [IntWalk.i64_in _ (by omega), hnd]; rfl
  obtain ⟨E, hE⟩ : ∃ E, E = need b p := ⟨_, rfl⟩
  rw [← hE] at e11' c3 c4
  have e12' : Hid (IntKind.i64.wrap (2 + (S : Int)) = 2 + (S : Int)) := Lib.hid (by show IntKind.i64.wrap (2 + (S : Int)) = 2 + (S : Int); exact IntWalk.i64_in _ (by omega))
  obtain ⟨Q, hQ⟩ : ∃ Q, Q = hold b p := ⟨_, rfl⟩
  rw [← hQ] at c2 hl c3 c4 c5
  have e13' : Hid (IntKind.i64.wrap (2 + (S : Int) + (Q : Int)) = (low b p : Int)) := by show IntKind.i64.wrap (2 + (S : Int) + (Q : Int)) = (low b p : Int); rw [IntWalk.i64_in _ (by omega), hl]; rfl
  obtain ⟨K, hK⟩ : ∃ K, K = low b p := ⟨_, rfl⟩
  rw [← hK] at e13' hl ⊢
  have e14' : Hid (IntKind.i64.wrap ((K : Int) + 1) = (K : Int) + 1) := Lib.hid (by show IntKind.i64.wrap ((K : Int) + 1) = (K : Int) + 1; exact IntWalk.i64_in _ (by omega))
  have hstep : Hid (∀ k : Nat, k ≤ Q → IntKind.i64.wrap ((k : Int) * (p : Int)) = ((k * p : Nat) : Int) ∧ (k < Q → k * p < E)) := by
    intro k hk
    have h1 : k * p ≤ Q * p := Nat.mul_le_mul_right p hk
    have h2 : Q * p ≤ 20 * 32 := Nat.mul_le_mul c2 hp2
    refine ⟨wrap_mul k p (by omega), fun hlt => ?_⟩
    have h3 : k * p ≤ (Q - 1) * p := Nat.mul_le_mul_right p (by omega)
    omega
  have HLAST := Lib.hid c3
  obtain ⟨A, hA⟩ : ∃ A, A = b * p := ⟨_, rfl⟩
  rw [← hA] at e1' ⊢
  clear hb1 hb2 hp1 hp2 F hl hS hc hpr hS8 hD hM hnd c1 c3 c4 c5 hC hY hY2 hE hQ hK hA
  have e1 := e1'.out
  have e2 := e2'.out
  have e3 := e3'.out
  have e4 := e4'.out
  have e5 := e5'.out
  have e6 := e6'.out
  have e7 := e7'.out
  have e8 := e8'.out
  have e9 := e9'.out
  have e10 := e10'.out
  have e11 := e11'.out
  clear e1' e2' e3' e4' e5' e6' e7' e8' e9' e10' e11'
  go_enter Try.func16, Try.ntmps16
  go_wp2
  obtain ⟨W, hW⟩ : ∃ W, W = (w.alloc (.cells #[.int .i64 0, .int .i64 0, .int .i64 0, .int .i64 0, .int .i64 0] 38)).alloc (.cells #[.int .i64 A, .int .i64 S, .int .i64 C, .int .i64 0, .int .i64 0] 38) := ⟨_, rfl⟩
  rw [← hW]
  have HW := Lib.hid hW
  clear hW e1 e2 e3 e4 e5 e6 e7 e8 e9 e10 e11
  go_loopw [7] (fun i wr => ∃ k : Nat, k ≤ Q ∧ i = .int .i64 k ∧ wr = W) (fun i _ => Q - (intOf i).toNat)
  case atStart => exact ⟨0, Nat.zero_le _, rfl, rfl⟩
  case round =>
    obtain ⟨k, hk, rfl, rfl⟩ := hrel
    obtain ⟨s1, s2⟩ := hstep.out k hk
    by_cases hlt : k < Q
    · have s3 := s2 hlt
      obtain ⟨X, hX⟩ : ∃ X, X = k * p := ⟨_, rfl⟩
      rw [← hX] at s1 s3
      have s4 : (X : Int) < (E : Int) := by omega
      clear s2 hX
      go_wp2
      go_roundw
      case rel => exact ⟨k + 1, by omega, by go_num, trivial⟩
      case measure => simp [intOf]; omega
    · obtain rfl : k = Q := by omega
      have s3 := HLAST.out
      obtain ⟨X, hX⟩ : ∃ X, X = k * p := ⟨_, rfl⟩
      rw [← hX] at s1 s3
      have s4 : ¬ (X : Int) < (E : Int) := by omega
      have e12 := e12'.out
      have e13 := e13'.out
      have e14 := e14'.out
      clear s2 s3 hX
      rw [HW.out]
      go_wp2
      have HB := Lib.hid (fun a b => below2 w a b)
      simp [bodyPost, results, Try.results16, go_sem]
      exact HB.out _ _

theorem rnodes_no (b p : Int) (h : ¬ Geo b p) (w : World) : Calls Try.prog 17 #[.int .i64 b, .int .i64 p] w fun e w' => e = .returned (.int .i64 0) ∧ w = w' := by
  have HC := Lib.hid (rmay_no b p h)
  clear h
  go_enter Try.func17, Try.ntmps17
  go_wp2_with fail
  refine (HC.out _).mono ?_
  rintro e w1 ⟨rfl, rfl⟩
  go_wp2
  go_ret
  exact ⟨rfl, rfl⟩
theorem field_plan (a b c d e : Int) (w : World) :
    (Instr.field 38 (.agg #[.int .i64 a, .int .i64 b, .int .i64 c, .int .i64 d, .int .i64 e]) 2).run Try.prog w = .ok (.int .i64 c) w := by
  simp [Instr.field, asAgg, go_sem, Try.underlying38, Try.isAgg3, Try.sizeOf3]
theorem rnodes_yes (b p : Nat) (h : 16 ≤ b ∧ b ≤ 64 ∧ 8 ≤ p ∧ p ≤ 32) (w : World) : Calls Try.prog 17 #[.int .i64 (b : Int), .int .i64 (p : Int)] w fun e w' => e = .returned (.int .i64 (nodes b p : Int)) ∧ Below w.heap.size w w' := by
  have HC := Lib.hid (rmay_yes b p ⟨by omega, by omega, by omega, by omega⟩)
  have HR := Lib.hid (of_any b p h)
  have hc := (facts h.1 h.2.1 h.2.2.1 h.2.2.2).capTop
  have hn : nodes b p = cap b p / 2 + 16 := rfl
  obtain ⟨A, hA⟩ : ∃ A, A = b * p := ⟨_, rfl⟩
  obtain ⟨S, hS⟩ : ∃ A, A = b / 8 := ⟨_, rfl⟩
  obtain ⟨C, hC⟩ : ∃ A, A = cap b p := ⟨_, rfl⟩
  obtain ⟨K, hK⟩ : ∃ A, A = low b p := ⟨_, rfl⟩
  rw [← hA, ← hS, ← hC, ← hK] at HR
  rw [← hC] at hn hc
  rw [hn]
  have e1 := wrap_quo C 2 2 rfl (by omega)
  obtain ⟨Y, hY⟩ : ∃ Y, Y = C / 2 := ⟨_, rfl⟩
  rw [← hY] at e1 ⊢
  have hY2 : Y ≤ 52 := by rw [hY]; omega
  have e2' : Hid (IntKind.i64.wrap ((Y : Int) + 16) = ((Y + 16 : Nat) : Int)) := by show IntKind.i64.wrap ((Y : Int) + 16) = ((Y + 16 : Nat) : Int); clear e1; rw [IntWalk.i64_in _ (by omega)]; rfl
  obtain ⟨Z, hZ⟩ : ∃ Z, Z = Y + 16 := ⟨_, rfl⟩
  rw [← hZ] at e2' ⊢
  have e2 := e2'.out
  clear hA hS hC hK h hn hc hY hY2 e2' hZ
  go_enter Try.func17, Try.ntmps17
  go_wp2_with fail
  refine (HC.out _).mono ?_
  rintro e w1 ⟨rfl, rfl⟩
  go_wp2_with fail
  refine (HR.out _).mono ?_
  rintro e w2 ⟨rfl, hb2⟩
  have HB := Lib.hid hb2
  have hi : ∀ w' : World, (Instr.field 38 (.agg #[.int .i64 A, .int .i64 S, .int .i64 C, .int .i64 K, .int .i64 ((K : Int) + 1)]) 2).run Try.prog w' = .ok (.int .i64 C) w' := fun w' => field_plan _ _ _ _ _ w'
  clear hb2
  go_wp2
  go_ret
  exact ⟨rfl, HB.out⟩
end GM
end Go.Proofs.Ytolcacmkageidab
