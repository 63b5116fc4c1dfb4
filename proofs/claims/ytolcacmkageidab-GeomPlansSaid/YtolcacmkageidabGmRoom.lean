/- What scorialaw06.room answers of each geometry that may be: there is room. -/
import Derived.Test.YtolcacmkageidabGmB
import Derived.Deep.QuietTactic
import Derived.BigQuiet
namespace Go.Proofs.Ytolcacmkageidab
open Go.RowKit
namespace GM
open MM
set_option linter.unusedVariables false
set_option linter.unusedSimpArgs false

/-- The cells of a geometry. -/
def GC (w : World) (L : Nat) (b p : Int) : Prop := Blk w L 30 #[.int .i64 b, .int .i64 p]
theorem GC.c0 {w : World} {L : Nat} {b p : Int} (h : GC w L b p) : w.cell? ⟨L, 0, none⟩ = some (.int .i64 b) := Blk.cell h 0
theorem GC.c1 {w : World} {L : Nat} {b p : Int} (h : GC w L b p) : w.cell? ⟨L, 1, none⟩ = some (.int .i64 p) := Blk.cell h 1
theorem GC.keep {w w' : World} {L : Nat} {b p : Int} (h : GC w L b p) (hb : Below w.heap.size w w') : GC w' L b p := Blk.below h hb (Blk.lt h)
/-- The cells of a plan. -/
def PC (w : World) (L : Nat) (a b c d e : Int) : Prop := Blk w L 32 #[.int .i64 a, .int .i64 b, .int .i64 c, .int .i64 d, .int .i64 e]
theorem PC.keep {w w' : World} {L : Nat} {a b c d e : Int} (h : PC w L a b c d e) (hb : Below w.heap.size w w') : PC w' L a b c d e := Blk.below h hb (Blk.lt h)
theorem PC.cs {w : World} {L : Nat} {a b c d e : Int} (h : PC w L a b c d e) : w.cell? ⟨L, 0, none⟩ = some (.int .i64 a) ∧ w.cell? ⟨L, 1, none⟩ = some (.int .i64 b) ∧ w.cell? ⟨L, 2, none⟩ = some (.int .i64 c) ∧ w.cell? ⟨L, 3, none⟩ = some (.int .i64 d) ∧ w.cell? ⟨L, 4, none⟩ = some (.int .i64 e) :=
  (cells5 h).1

theorem keepR (w : World) (b p : Int) (L1 : Nat) (A S C K J : Int) {w1 w2 : World} (h : w1.cell? ⟨w.heap.size, 0, none⟩ = some (.int .i64 b) ∧ w1.cell? ⟨w.heap.size, 1, none⟩ = some (.int .i64 p) ∧ w1.cell? ⟨L1, 0, none⟩ = some (.int .i64 A) ∧ w1.cell? ⟨L1, 1, none⟩ = some (.int .i64 S) ∧ w1.cell? ⟨L1, 2, none⟩ = some (.int .i64 C) ∧ w1.cell? ⟨L1, 3, none⟩ = some (.int .i64 K) ∧ w1.cell? ⟨L1, 4, none⟩ = some (.int .i64 J) ∧ w.heap.size < w1.heap.size ∧ L1 < w1.heap.size ∧ Below w.heap.size w w1) (hb : Below w1.heap.size w1 w2) :
    w2.cell? ⟨w.heap.size, 0, none⟩ = some (.int .i64 b) ∧ w2.cell? ⟨w.heap.size, 1, none⟩ = some (.int .i64 p) ∧ w2.cell? ⟨L1, 0, none⟩ = some (.int .i64 A) ∧ w2.cell? ⟨L1, 1, none⟩ = some (.int .i64 S) ∧ w2.cell? ⟨L1, 2, none⟩ = some (.int .i64 C) ∧ w2.cell? ⟨L1, 3, none⟩ = some (.int .i64 K) ∧ w2.cell? ⟨L1, 4, none⟩ = some (.int .i64 J) ∧ w.heap.size < w2.heap.size ∧ L1 < w2.heap.size ∧ Below w.heap.size w w2 := by
  obtain ⟨c0, c1, p0, p1, p2, p3, p4, l1, l2, h⟩ := h
  exact ⟨(hb.cell (p := ⟨w.heap.size, 0, none⟩) l1).trans c0, (hb.cell (p := ⟨w.heap.size, 1, none⟩) l1).trans c1, (hb.cell (p := ⟨L1, 0, none⟩) l2).trans p0, (hb.cell (p := ⟨L1, 1, none⟩) l2).trans p1, (hb.cell (p := ⟨L1, 2, none⟩) l2).trans p2, (hb.cell (p := ⟨L1, 3, none⟩) l2).trans p3, (hb.cell (p := ⟨L1, 4, none⟩) l2).trans p4, Nat.lt_of_lt_of_le l1 hb.size, Nat.lt_of_lt_of_le l2 hb.size, h.trans (hb.mono h.size)⟩

set_option maxHeartbeats 4000000 in
theorem room_yes (b p : Nat) (h : 16 ≤ b ∧ b ≤ 64 ∧ 8 ≤ p ∧ p ≤ 32) (w : World) : Calls Try.prog 20 #[.agg #[.int .i64 (b : Int), .int .i64 (p : Int)]] w fun e w' => e = .returned (.bool true) ∧ Below w.heap.size w w' := by
  have HP := Lib.hid (plan_yes b p h)
  have HN := Lib.hid (nodes_yes b p h)
  have F := facts h.1 h.2.1 h.2.2.1 h.2.2.2
  have f1 := F.capTop
  have f2 := F.capLow
  have f3 := F.holdTop
  have f4 := F.room
  have f5 := F.left
  have f6 := F.pages
  have f7 : low b p = 2 + b / 8 + hold b p := rfl
  have f8 : nodes b p = cap b p / 2 + 16 := rfl
  clear F
  obtain ⟨A, hA⟩ : ∃ A, A = b * p := ⟨_, rfl⟩
  obtain ⟨S, hS⟩ : ∃ A, A = b / 8 := ⟨_, rfl⟩
  obtain ⟨C, hC⟩ : ∃ A, A = cap b p := ⟨_, rfl⟩
  obtain ⟨K, hK⟩ : ∃ A, A = low b p := ⟨_, rfl⟩
  obtain ⟨O, hO⟩ : ∃ A, A = nodes b p := ⟨_, rfl⟩
  rw [← hA, ← hS, ← hC, ← hK] at HP
  rw [← hO] at HN
  rw [← hS, ← hK] at f4
  rw [← hS, ← hK, ← hC, ← hO] at f5
  rw [← hK, ← hS] at f7
  rw [← hO, ← hC] at f8
  rw [← hC] at f1 f2
  have e1' : Hid (IntKind.i64.wrap ((b : Int) - (S : Int)) = (b : Int) - (S : Int)) := by show IntKind.i64.wrap ((b : Int) - (S : Int)) = (b : Int) - (S : Int); exact IntWalk.i64_in _ (by omega)
  have e2' : Hid (IntKind.i64.wrap ((b : Int) - (S : Int) - ((K : Int) + 1)) = ((b - S - (K + 1) : Nat) : Int)) := by show IntKind.i64.wrap ((b : Int) - (S : Int) - ((K : Int) + 1)) = ((b - S - (K + 1) : Nat) : Int); rw [IntWalk.i64_in _ (by omega)]; omega
  have hDp : (b - S - (K + 1)) * p ≤ 2048 := Nat.le_trans (Nat.mul_le_mul_right p (by omega : b - S - (K + 1) ≤ b)) f6
  obtain ⟨D, hD⟩ : ∃ D, D = b - S - (K + 1) := ⟨_, rfl⟩
  rw [← hD] at e2' f5 hDp
  have e3' := Lib.hid (wrap_mul D p (by omega))
  obtain ⟨R, hR⟩ : ∃ R, R = D * p := ⟨_, rfl⟩
  rw [← hR] at e3' f5
  have e4' : Hid (IntKind.i64.wrap ((C : Int) + (O : Int)) = (C : Int) + (O : Int)) := by show IntKind.i64.wrap ((C : Int) + (O : Int)) = (C : Int) + (O : Int); exact IntWalk.i64_in _ (by omega)
  have e5' : Hid (IntKind.i64.wrap ((C : Int) + (O : Int) + 1) = (C : Int) + (O : Int) + 1) := by show IntKind.i64.wrap ((C : Int) + (O : Int) + 1) = (C : Int) + (O : Int) + 1; exact IntWalk.i64_in _ (by omega)
  have g1 : (5 : Int) ≤ (C : Int) := by omega
  have g2 : (K : Int) < (K : Int) + 1 := by omega
  have g3 : (S : Int) < (K : Int) := by omega
  have g4 : (C : Int) + (O : Int) + 1 ≤ (R : Int) := by omega
  obtain ⟨J, hJ⟩ : ∃ J : Int, J = (K : Int) + 1 := ⟨_, rfl⟩
  rw [← hJ] at e2' HP g2
  obtain ⟨W, hW⟩ : ∃ W, W = w.alloc (.cells #[.int .i64 b, .int .i64 p] 30) := ⟨_, rfl⟩
  have k1 : GC W w.heap.size b p := by rw [hW]; exact Blk.new w _ _
  have hb0 : Below w.heap.size w W := by rw [hW]; exact below_box w _
  have HW := Lib.hid hW
  clear hW h hA hS hC hK hO f1 f2 f3 f4 f5 f6 f7 f8 hDp hD hR hJ
  have e1 := e1'.out
  have e2 := e2'.out
  have e3 := e3'.out
  have e4 := e4'.out
  have e5 := e5'.out
  clear e1' e2' e3' e4' e5'
  go_enter Try.func20, Try.ntmps20
  go_wp2_with fail
  rw [← HW.out]
  refine (HP.out _).mono ?_
  rintro e w1 ⟨rfl, hb1⟩
  obtain ⟨W1, hW1⟩ : ∃ W1, W1 = w1.alloc (.cells #[.int .i64 A, .int .i64 S, .int .i64 C, .int .i64 K, .int .i64 J] 32) := ⟨_, rfl⟩
  have q1 : PC W1 w1.heap.size A S C K J := by rw [hW1]; exact Blk.new w1 _ _
  have k2 : GC W1 w.heap.size b p := by rw [hW1]; exact Blk.alloc (k1.keep hb1) _
  have hb2 : Below w.heap.size w W1 := by rw [hW1]; exact (hb0.trans (hb1.mono hb0.size)).alloc (hb0.trans (hb1.mono hb0.size)).size _
  obtain ⟨p0, p1, p2, p3, p4⟩ := q1.cs
  have c0 := k2.c0
  have c1 := k2.c1
  obtain ⟨L1, hL1⟩ : ∃ L1, L1 = w1.heap.size := ⟨_, rfl⟩
  have HB := Lib.hid hb2
  have HW1 := Lib.hid hW1
  have K2 := Lib.hid k2
  have Q1 := Lib.hid q1
  clear hb1 hb2 k1 k2 q1 hb0 hL1
  have l1 := Blk.lt K2.out
  have l2 := Blk.lt Q1.out
  have HS : Hid (W1.drew.cell? ⟨w.heap.size, 0, none⟩ = some (.int .i64 b) ∧ W1.drew.cell? ⟨w.heap.size, 1, none⟩ = some (.int .i64 p) ∧ W1.drew.cell? ⟨w1.heap.size, 0, none⟩ = some (.int .i64 A) ∧ W1.drew.cell? ⟨w1.heap.size, 1, none⟩ = some (.int .i64 S) ∧ W1.drew.cell? ⟨w1.heap.size, 2, none⟩ = some (.int .i64 C) ∧ W1.drew.cell? ⟨w1.heap.size, 3, none⟩ = some (.int .i64 K) ∧ W1.drew.cell? ⟨w1.heap.size, 4, none⟩ = some (.int .i64 J) ∧ w.heap.size < W1.drew.heap.size ∧ w1.heap.size < W1.drew.heap.size ∧ Below w.heap.size w W1.drew) := Lib.hid ⟨c0, c1, p0, p1, p2, p3, p4, l1, l2, HB.out.drew⟩
  rw [hW1] at p0 p1 p2 p3 p4 c0 c1 HS
  clear hW1 l1 l2 HW1 K2 Q1 HB
  go_wp2
  go_region_held3 (fun w' => w'.cell? ⟨w.heap.size, 0, none⟩ = some (.int .i64 b) ∧ w'.cell? ⟨w.heap.size, 1, none⟩ = some (.int .i64 p) ∧ w'.cell? ⟨w1.heap.size, 0, none⟩ = some (.int .i64 A) ∧ w'.cell? ⟨w1.heap.size, 1, none⟩ = some (.int .i64 S) ∧ w'.cell? ⟨w1.heap.size, 2, none⟩ = some (.int .i64 C) ∧ w'.cell? ⟨w1.heap.size, 3, none⟩ = some (.int .i64 K) ∧ w'.cell? ⟨w1.heap.size, 4, none⟩ = some (.int .i64 J) ∧ w.heap.size < w'.heap.size ∧ w1.heap.size < w'.heap.size ∧ Below w.heap.size w w') (first | exact HS.out | assumption) ((go_at_call 15; refine (HN.out _).mono ?_; rintro e w5 ⟨rfl, hb5⟩; have hS5 := keepR w b p w1.heap.size A S C K J (by assumption) hb5))
  all_goals (try go_wp2)
  all_goals go_ret
  all_goals exact ⟨rfl, hS5.2.2.2.2.2.2.2.2.2⟩
end GM
end Go.Proofs.Ytolcacmkageidab
