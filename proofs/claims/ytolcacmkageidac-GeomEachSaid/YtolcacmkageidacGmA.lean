/- What package geom's Check, holding and reckon answer: of every geometry. No condition but those that each theorem names. -/
import Derived.Test.YtolcacmkageidacProg
import Derived.Test.YtolcacmkageidacGmMath
import Derived.WalkKit
import Derived.Handy
import Derived.Below
import Derived.Lib.Hide
import Derived.Deep.RegionHeld3
namespace Go.Proofs.Ytolcacmkageidac
open Go.RowKit
namespace GM
set_option linter.unusedVariables false
set_option linter.unusedSimpArgs false

theorem below_box (w : World) (o : Obj) : Below w.heap.size w (w.alloc o) := (Below.refl _ _).alloc (Nat.le_refl _) _

set_option maxHeartbeats 1000000 in
theorem check_yes (b p : Int) (h : Geo b p) (w : World) : Calls Try.prog 8 #[.agg #[.int .i64 b, .int .i64 p]] w fun e w' => e = .returned (.int .i64 0) ∧ Below w.heap.size w w' := by
  obtain ⟨h1, h2, h3, h4⟩ := h
  have g1 : ¬ b < 16 := by omega
  have g2 : ¬ 64 < b := by omega
  have g3 : ¬ p < 8 := by omega
  have g4 : ¬ 32 < p := by omega
  clear h1 h2 h3 h4
  go_enter Try.func8, Try.ntmps8
  go_wp2
  go_ret
  exact ⟨rfl, below_box _ _⟩
set_option maxHeartbeats 1000000 in
theorem check_no (b p : Int) (h : ¬ Geo b p) (w : World) : Calls Try.prog 8 #[.agg #[.int .i64 b, .int .i64 p]] w fun e w' => e = .returned (.int .i64 1) ∧ Below w.heap.size w w' := by
  have HH : Hid (¬ (16 ≤ b ∧ b ≤ 64 ∧ 8 ≤ p ∧ p ≤ 32)) := Lib.hid h
  clear h
  go_enter Try.func8, Try.ntmps8
  go_wp2
  all_goals go_ret
  all_goals first | exact ⟨rfl, below_box _ _⟩ | (exfalso; exact HH.out ⟨by omega, by omega, by omega, by omega⟩)

theorem wrap_quo (a b : Nat) (c : Int) (hc : c = (b : Int)) (h : a ≤ 1000000) : IntKind.i64.wrap ((a : Int) / c) = ((a / b : Nat) : Int) := by
  have h1 : a / b ≤ a := Nat.div_le_self _ _
  obtain ⟨r, hr⟩ : ∃ r, r = a / b := ⟨_, rfl⟩
  have h2 : (a : Int) / c = (r : Int) := by rw [hc, hr]; rfl
  rw [h2, ← hr, IntWalk.i64_in _ (by omega)]
theorem wrap_mul (a b : Nat) (h : a * b ≤ 1000000) : IntKind.i64.wrap ((a : Int) * (b : Int)) = ((a * b : Nat) : Int) := by
  rw [← Int.natCast_mul, IntWalk.i64_in _ (by omega)]
theorem holding_any (c p : Nat) (hc : c ≤ 1000) (hp : 1 ≤ p ∧ p ≤ 1000) (w : World) : Calls Try.prog 11 #[.int .i64 (c : Int), .int .i64 (p : Int)] w fun e w' => e = .returned (.int .i64 (((c + p - 1) / p : Nat) : Int)) ∧ w = w' := by
  have e1 : IntKind.i64.wrap ((c : Int) + (p : Int)) = (c : Int) + (p : Int) := IntWalk.i64_in _ (by omega)
  have e2 : IntKind.i64.wrap ((c : Int) + (p : Int) - 1) = ((c + p - 1 : Nat) : Int) := by rw [IntWalk.i64_in _ (by omega)]; omega
  have e3 := wrap_quo (c + p - 1) p p rfl (by omega)
  have e4 : ((p : Int) == 0) = false := by simp; omega
  go_enter Try.func11, Try.ntmps11
  go_wp2
  go_ret
  exact ⟨rfl, rfl⟩

/-- The six numbers of a geometry, one behind the other. -/
def six (b p : Nat) : Value := .agg #[.int .i64 ((b * p : Nat) : Int), .int .i64 ((b / 8 : Nat) : Int), .int .i64 (cap b p : Int), .int .i64 (nodes b p : Int), .int .i64 (low b p : Int), .int .i64 ((low b p : Int) + 1)]
theorem below3 (w : World) (a b c : Obj) : Below w.heap.size w (((w.alloc a).alloc b).alloc c).drew :=
  (((below_box w a).alloc (by simp) b).alloc (by simp; omega) c).drew
set_option maxHeartbeats 4000000 in
theorem reckon_any (b p : Nat) (h : 16 ≤ b ∧ b ≤ 64 ∧ 8 ≤ p ∧ p ≤ 32) (w : World) : Calls Try.prog 9 #[.agg #[.int .i64 (b : Int), .int .i64 (p : Int)]] w fun e w' => e = .returned (.agg #[.int .i64 ((b * p : Nat) : Int), .int .i64 ((b / 8 : Nat) : Int), .int .i64 (cap b p : Int), .int .i64 (nodes b p : Int), .int .i64 (low b p : Int), .int .i64 ((low b p : Int) + 1)]) ∧ Below w.heap.size w w' := by
  obtain ⟨hb1, hb2, hp1, hp2⟩ := h
  have F := facts hb1 hb2 hp1 hp2
  have HH := Lib.hid (holding_any (need b p) p (by have := F.capTop; unfold need nodes; omega) (by omega))
  have hl : low b p = 2 + b / 8 + hold b p := rfl
  have e1' := Lib.hid (wrap_mul b p (by have := F.pages; omega))
  have e2' := Lib.hid (wrap_quo b 8 8 rfl (by omega))
  obtain ⟨S, hS⟩ : ∃ S, S = b / 8 := ⟨_, rfl⟩
  have hc : cap b p = p * (b - S - 4) / 16 := by rw [hS]; rfl
  have hpr : p * (b - S - 4) ≤ 2048 := by rw [hS]; exact F.prod
  rw [← hS] at e2' hl ⊢
  have hS8 : S ≤ 8 := by omega
  have e3' : Hid (IntKind.i64.wrap ((b : Int) - (S : Int)) = (b : Int) - (S : Int)) := Lib.hid (by show IntKind.i64.wrap ((b : Int) - (S : Int)) = (b : Int) - (S : Int); exact IntWalk.i64_in _ (by omega))
  have e4' : Hid (IntKind.i64.wrap ((b : Int) - (S : Int) - 4) = ((b - S - 4 : Nat) : Int)) := by show IntKind.i64.wrap ((b : Int) - (S : Int) - 4) = ((b - S - 4 : Nat) : Int); rw [IntWalk.i64_in _ (by omega)]; omega
  obtain ⟨D, hD⟩ : ∃ D, D = b - S - 4 := ⟨_, rfl⟩
  rw [← hD] at e4' hc hpr
  have e5' := Lib.hid (wrap_mul p D (by omega))
  obtain ⟨M, hM⟩ : ∃ M, M = p * D := ⟨_, rfl⟩
  rw [← hM] at e5' hc
  have e6' := Lib.hid (wrap_quo M 16 16 rfl (by rw [hM]; omega))
  rw [← hc] at e6'
  have hn : nodes b p = cap b p / 2 + 16 := rfl
  have hnd : need b p = 8 + p + nodes b p + 1 := rfl
  have hho : hold b p = (need b p + p - 1) / p := rfl
  have c1 := F.capTop
  have c2 := F.holdTop
  rw [← hho] at HH
  obtain ⟨C, hC⟩ : ∃ C, C = cap b p := ⟨_, rfl⟩
  rw [← hC] at e6' hn c1 ⊢
  have e7' := Lib.hid (wrap_quo C 2 2 rfl (by omega))
  obtain ⟨Y, hY⟩ : ∃ Y, Y = C / 2 := ⟨_, rfl⟩
  rw [← hY] at e7' hn
  have hY2 : Y ≤ 52 := by omega
  have e8' : Hid (IntKind.i64.wrap ((Y : Int) + 16) = (nodes b p : Int)) := by show IntKind.i64.wrap ((Y : Int) + 16) = (nodes b p : Int); rw [IntWalk.i64_in _ (by omega), hn]; rfl
  obtain ⟨O, hO⟩ : ∃ O, O = nodes b p := ⟨_, rfl⟩
  rw [← hO] at e8' hn hnd ⊢
  have e9' : Hid (IntKind.i64.wrap (8 + (p : Int)) = 8 + (p : Int)) := Lib.hid (by show IntKind.i64.wrap (8 + (p : Int)) = 8 + (p : Int); exact IntWalk.i64_in _ (by omega))
  have e10' : Hid (IntKind.i64.wrap (8 + (p : Int) + (O : Int)) = 8 + (p : Int) + (O : Int)) := Lib.hid (by show IntKind.i64.wrap (8 + (p : Int) + (O : Int)) = 8 + (p : Int) + (O : Int); exact IntWalk.i64_in _ (by omega))
  have e11' : Hid (IntKind.i64.wrap (8 + (p : Int) + (O : Int) + 1) = (need b p : Int)) := by show IntKind.i64.wrap (8 + (p : Int) + (O : Int) + 1) = (need b p : Int); rw [IntWalk.i64_in _ (by omega), hnd]; rfl
  obtain ⟨E, hE⟩ : ∃ E, E = need b p := ⟨_, rfl⟩
  rw [← hE] at e11' HH
  have e12' : Hid (IntKind.i64.wrap (2 + (S : Int)) = 2 + (S : Int)) := Lib.hid (by show IntKind.i64.wrap (2 + (S : Int)) = 2 + (S : Int); exact IntWalk.i64_in _ (by omega))
  obtain ⟨Q, hQ⟩ : ∃ Q, Q = hold b p := ⟨_, rfl⟩
  rw [← hQ] at HH c2 hl
  have e13' : Hid (IntKind.i64.wrap (2 + (S : Int) + (Q : Int)) = (low b p : Int)) := by show IntKind.i64.wrap (2 + (S : Int) + (Q : Int)) = (low b p : Int); rw [IntWalk.i64_in _ (by omega), hl]; rfl
  obtain ⟨K, hK⟩ : ∃ K, K = low b p := ⟨_, rfl⟩
  rw [← hK] at e13' hl ⊢
  have e14' : Hid (IntKind.i64.wrap ((K : Int) + 1) = (K : Int) + 1) := Lib.hid (by show IntKind.i64.wrap ((K : Int) + 1) = (K : Int) + 1; exact IntWalk.i64_in _ (by omega))
  obtain ⟨A, hA⟩ : ∃ A, A = b * p := ⟨_, rfl⟩
  rw [← hA] at e1' ⊢
  clear hb1 hb2 hp1 hp2 F hl hS hc hpr hS8 hD hM hn hnd hho c1 c2 hC hY hY2 hO hE hQ hK hA
  have e1 := e1'.out
  have e2 := e2'.out
  have e3 := e3'.out
  have e4 := e4'.out
  have e5 := e5'.out
  have e6 := e6'.out
  have e7 := e7'.out
  have e8 := e8'.out
  have e9 := e9'.out
  have e10 := e10'.out
  have e11 := e11'.out
  have e12 := e12'.out
  have e13 := e13'.out
  have e14 := e14'.out
  clear e1' e2' e3' e4' e5' e6' e7' e8' e9' e10' e11' e12' e13' e14'
  go_enter Try.func9, Try.ntmps9
  go_wp2
  obtain ⟨W, hW⟩ : ∃ W, W = ((w.alloc (.cells #[.int .i64 b, .int .i64 p] 23)).alloc (.cells #[.int .i64 0, .int .i64 0, .int .i64 0, .int .i64 0, .int .i64 0, .int .i64 0] 33)).alloc (.cells #[.int .i64 A, .int .i64 S, .int .i64 C, .int .i64 O, .int .i64 0, .int .i64 0] 33) := ⟨_, rfl⟩
  rw [← hW]
  have d1 : W.cell? ⟨w.heap.size, 1, none⟩ = some (.int .i64 p) := by rw [hW]; go_simp
  have d2 : W.cell? ⟨w.heap.size + 1 + 1, 1, none⟩ = some (.int .i64 S) := by rw [hW]; go_simp
  have d3 : W.cell? ⟨w.heap.size + 1 + 1, 3, none⟩ = some (.int .i64 O) := by rw [hW]; go_simp
  have d4 : W.cell? ⟨w.heap.size + 1 + 1, 4, none⟩ = some (.int .i64 0) := by rw [hW]; go_simp
  have d5 : W.frozen? ⟨w.heap.size + 1 + 1, 4, none⟩ = false := by rw [hW]; go_simp
  have HWW := Lib.hid hW
  clear hW
  obtain ⟨V, hV⟩ : ∃ V : World → Value, ∀ w', V w' = (w'.cell? ⟨w.heap.size + 1 + 1, 4, none⟩).getD undef := ⟨_, fun _ => rfl⟩
  have v1 : W.cell? ⟨w.heap.size + 1 + 1, 4, none⟩ = some (V W.drew) := by rw [hV, show W.drew.cell? ⟨w.heap.size + 1 + 1, 4, none⟩ = _ from d4]; exact d4
  have hfin : (W.setCell ⟨w.heap.size + 1 + 1, 4, none⟩ (.int .i64 K)).drew.cell? ⟨w.heap.size, 1, none⟩ = some (.int .i64 p) ∧ (W.setCell ⟨w.heap.size + 1 + 1, 4, none⟩ (.int .i64 K)).drew.cell? ⟨w.heap.size + 1 + 1, 1, none⟩ = some (.int .i64 S) ∧ (W.setCell ⟨w.heap.size + 1 + 1, 4, none⟩ (.int .i64 K)).drew.cell? ⟨w.heap.size + 1 + 1, 3, none⟩ = some (.int .i64 O) ∧ (W.setCell ⟨w.heap.size + 1 + 1, 4, none⟩ (.int .i64 K)).drew.cell? ⟨w.heap.size + 1 + 1, 4, none⟩ = some (V (W.setCell ⟨w.heap.size + 1 + 1, 4, none⟩ (.int .i64 K)).drew) ∧ (W.setCell ⟨w.heap.size + 1 + 1, 4, none⟩ (.int .i64 K)).drew.frozen? ⟨w.heap.size + 1 + 1, 4, none⟩ = false := by
    have s4 : (W.setCell ⟨w.heap.size + 1 + 1, 4, none⟩ (.int .i64 K)).drew.cell? ⟨w.heap.size + 1 + 1, 4, none⟩ = some (.int .i64 K) := World.cell?_setCell_same _ _ _ d4
    refine ⟨?_, ?_, ?_, by rw [hV, s4]; rfl, ?_⟩
    · exact (World.cell?_setCell_other _ _ _ _ (fun x => absurd (congrArg Addr.block x) (by simp; omega))).trans d1
    · exact (World.cell?_setCell_other _ _ _ _ (fun x => absurd (congrArg Addr.off x) (by simp))).trans d2
    · exact (World.cell?_setCell_other _ _ _ _ (fun x => absurd (congrArg Addr.off x) (by simp))).trans d3
    · exact (World.frozen?_setCell _ _ _ _).trans d5
  have HF := Lib.hid hfin
  clear hfin d4 hV
  go_region_held3 (fun w' => w'.cell? ⟨w.heap.size, 1, none⟩ = some (.int .i64 p) ∧ w'.cell? ⟨w.heap.size + 1 + 1, 1, none⟩ = some (.int .i64 S) ∧ w'.cell? ⟨w.heap.size + 1 + 1, 3, none⟩ = some (.int .i64 O) ∧ w'.cell? ⟨w.heap.size + 1 + 1, 4, none⟩ = some (V w') ∧ w'.frozen? ⟨w.heap.size + 1 + 1, 4, none⟩ = false) (first | exact ⟨d1, d2, d3, v1, d5⟩ | assumption | exact HF.out) ((go_at_call 11; refine (HH.out _).mono ?_; rintro e w5 ⟨rfl, rfl⟩))
  rw [HWW.out]
  clear HF v1 d1 d2 d3 d5 HWW
  go_wp2
  have HB := Lib.hid (fun a b c => below3 w a b c)
  simp [bodyPost, results, Try.results9, go_sem]
  exact HB.out _ _ _
end GM
end Go.Proofs.Ytolcacmkageidac
