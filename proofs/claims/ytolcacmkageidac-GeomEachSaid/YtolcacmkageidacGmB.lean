/- What package geom's Plan, Nodes, Block and First answer: of every geometry. No condition but those that each theorem names. -/
import Derived.Test.YtolcacmkageidacGmA
import Derived.Test.YtolcacmkageidacCellR
namespace Go.Proofs.Ytolcacmkageidac
open Go.RowKit
namespace GM
open MM
set_option linter.unusedVariables false
set_option linter.unusedSimpArgs false

/-- Two blocks that were made one behind the other. -/
theorem two_new (w : World) (a b : Array Value) (s t : TypeId) (W : World) (h : W = (w.alloc (.cells a s)).alloc (.cells b t)) :
    Blk W w.heap.size s a ∧ Blk W (w.heap.size + 1) t b ∧ W.heap.size = w.heap.size + 2 ∧ Below w.heap.size w W := by
  subst h
  have h2 := Blk.new (w.alloc (.cells a s)) t b
  rw [show (w.alloc (.cells a s)).heap.size = w.heap.size + 1 from by simp] at h2
  exact ⟨(Blk.new w s a).alloc _, h2, by simp, ((below_box w _).alloc (by simp) _)⟩

set_option maxHeartbeats 4000000 in
theorem plan_no (b p : Int) (h : ¬ Geo b p) (w : World) : Calls Try.prog 4 #[.agg #[.int .i64 b, .int .i64 p]] w fun e w' => e = .returned (.tuple #[.agg #[.int .i64 0, .int .i64 0, .int .i64 0, .int .i64 0, .int .i64 0], .int .i64 1]) ∧ Below w.heap.size w w' := by
  have HC := Lib.hid (check_no b p h)
  obtain ⟨W, hW⟩ : ∃ W, W = (w.alloc (.cells #[.int .i64 b, .int .i64 p] 23)).alloc (.cells #[.int .i64 0, .int .i64 0, .int .i64 0, .int .i64 0, .int .i64 0] 25) := ⟨_, rfl⟩
  obtain ⟨k1, k2, hs, hb0⟩ := two_new w _ _ _ _ W hW
  have HW := Lib.hid hW
  clear h hW
  go_enter Try.func4, Try.ntmps4
  go_wp2_with fail
  rw [← HW.out]
  refine (HC.out _).mono ?_
  rintro e w1 ⟨rfl, hb1⟩
  have m2 := k2.below hb1 (by rw [hs]; exact Nat.lt_succ_self _)
  obtain ⟨⟨z0, z1, z2, z3, z4⟩, f0, f1, f2, f3, f4⟩ := cells5 m2
  have HB := Lib.hid (hb0.trans (hb1.mono hb0.size))
  have M2 := Lib.hid m2
  clear hb1 k1 k2 m2
  go_wp2
  exact ret_cell_tmp rfl _ _ _ _ _ _ _ _ rfl rfl rfl (stored5 M2.out _ _ _ _ _) Try.underlying25 rfl (by kernel_rfl) ⟨rfl, stored5_below HB.out (Nat.le_succ _) _ _ _ _ _⟩

set_option maxHeartbeats 4000000 in
theorem plan_yes (b p : Nat) (h : 16 ≤ b ∧ b ≤ 64 ∧ 8 ≤ p ∧ p ≤ 32) (w : World) : Calls Try.prog 4 #[.agg #[.int .i64 (b : Int), .int .i64 (p : Int)]] w fun e w' => e = .returned (.tuple #[.agg #[.int .i64 ((b * p : Nat) : Int), .int .i64 ((b / 8 : Nat) : Int), .int .i64 (cap b p : Int), .int .i64 (low b p : Int), .int .i64 ((low b p : Int) + 1)], .int .i64 0]) ∧ Below w.heap.size w w' := by
  have HC := Lib.hid (check_yes b p ⟨by omega, by omega, by omega, by omega⟩)
  have HR := Lib.hid (reckon_any b p h)
  obtain ⟨W, hW⟩ : ∃ W, W = (w.alloc (.cells #[.int .i64 b, .int .i64 p] 23)).alloc (.cells #[.int .i64 0, .int .i64 0, .int .i64 0, .int .i64 0, .int .i64 0] 25) := ⟨_, rfl⟩
  obtain ⟨k1, k2, hs, hb0⟩ := two_new w _ _ _ _ W hW
  have HW := Lib.hid hW
  obtain ⟨A, hA⟩ : ∃ A, A = b * p := ⟨_, rfl⟩
  obtain ⟨S, hS⟩ : ∃ A, A = b / 8 := ⟨_, rfl⟩
  obtain ⟨C, hC⟩ : ∃ A, A = cap b p := ⟨_, rfl⟩
  obtain ⟨K, hK⟩ : ∃ A, A = low b p := ⟨_, rfl⟩
  obtain ⟨O, hO⟩ : ∃ A, A = nodes b p := ⟨_, rfl⟩
  rw [← hA, ← hS, ← hC, ← hK, ← hO] at HR
  rw [← hA, ← hS, ← hC, ← hK]
  clear h hW hA hS hC hK hO
  go_enter Try.func4, Try.ntmps4
  go_wp2_with fail
  rw [← HW.out]
  refine (HC.out _).mono ?_
  rintro e w1 ⟨rfl, hb1⟩
  have m1 := k1.below hb1 (by rw [hs]; exact Nat.lt_succ_of_lt (Nat.lt_succ_self _))
  have m2 := k2.below hb1 (by rw [hs]; exact Nat.lt_succ_self _)
  have c0 : w1.cell? ⟨w.heap.size, 0, none⟩ = some (.int .i64 b) := m1.cell 0
  have c1 : w1.cell? ⟨w.heap.size, 1, none⟩ = some (.int .i64 p) := m1.cell 1
  have HB1 := Lib.hid (hb0.trans (hb1.mono hb0.size))
  have M2 := Lib.hid m2
  clear hb1 k1 k2 m2 m1 hs hb0
  go_wp2_with fail
  refine (HR.out _).mono ?_
  rintro e w2 ⟨rfl, hb2⟩
  have m3 := M2.out.below hb2 M2.out.lt
  have m4 := m3.alloc (.cells #[.int .i64 A, .int .i64 S, .int .i64 C, .int .i64 O, .int .i64 K, .int .i64 ((K : Int) + 1)] 33)
  obtain ⟨⟨z0, z1, z2, z3, z4⟩, f0, f1, f2, f3, f4⟩ := cells5 m4
  have HB2 := Lib.hid ((HB1.out.trans (hb2.mono HB1.out.size)).alloc (HB1.out.trans (hb2.mono HB1.out.size)).size (.cells #[.int .i64 A, .int .i64 S, .int .i64 C, .int .i64 O, .int .i64 K, .int .i64 ((K : Int) + 1)] 33))
  have M4 := Lib.hid m4
  clear hb2 m3 m4 c0 c1
  go_wp2
  exact ret_cell_tmp rfl _ _ _ _ _ _ _ _ rfl rfl rfl (stored5 M4.out _ _ _ _ _) Try.underlying25 rfl (by kernel_rfl) ⟨rfl, stored5_below HB2.out (Nat.le_succ _) _ _ _ _ _⟩

theorem index_six (a b c d e f : Int) (w : World) :
    (Instr.index 33 (.agg #[.int .i64 a, .int .i64 b, .int .i64 c, .int .i64 d, .int .i64 e, .int .i64 f]) (.int .i64 3)).run Try.prog w = .ok (.int .i64 d) w ∧
    (Instr.index 33 (.agg #[.int .i64 a, .int .i64 b, .int .i64 c, .int .i64 d, .int .i64 e, .int .i64 f]) (.int .i64 0)).run Try.prog w = .ok (.int .i64 a) w := by
  constructor
  · simp [Instr.index, run_underlying Try.underlying33, asIntOf, go_sem, part, Try.isAgg3, Try.sizeOf3]
  · simp [Instr.index, run_underlying Try.underlying33, asIntOf, go_sem, part, Try.isAgg3, Try.sizeOf3]

theorem nodes_no (b p : Int) (h : ¬ Geo b p) (w : World) : Calls Try.prog 10 #[.agg #[.int .i64 b, .int .i64 p]] w fun e w' => e = .returned (.int .i64 0) ∧ Below w.heap.size w w' := by
  have HC := Lib.hid (check_no b p h)
  clear h
  go_enter Try.func10, Try.ntmps10
  go_wp2_with fail
  refine (HC.out _).mono ?_
  rintro e w1 ⟨rfl, hb1⟩
  have HB := Lib.hid ((below_box w _).trans (hb1.mono (below_box w _).size))
  clear hb1
  go_wp2
  go_ret
  exact ⟨rfl, HB.out⟩

theorem block_no (b p : Int) (q : Int) (h : ¬ Geo b p) (w : World) : Calls Try.prog 7 #[.agg #[.int .i64 b, .int .i64 p], .int .i64 q] w fun e w' => e = .returned (.int .i64 (-1)) ∧ Below w.heap.size w w' := by
  have HC := Lib.hid (check_no b p h)
  clear h
  go_enter Try.func7, Try.ntmps7
  go_wp2_with fail
  refine (HC.out _).mono ?_
  rintro e w1 ⟨rfl, hb1⟩
  have HB := Lib.hid ((below_box w _).trans (hb1.mono (below_box w _).size))
  clear hb1
  go_wp2
  go_ret
  exact ⟨rfl, HB.out⟩

theorem first_no (b p : Int) (q : Int) (h : ¬ Geo b p) (w : World) : Calls Try.prog 6 #[.agg #[.int .i64 b, .int .i64 p], .int .i64 q] w fun e w' => e = .returned (.int .i64 (-1)) ∧ Below w.heap.size w w' := by
  have HC := Lib.hid (check_no b p h)
  clear h
  go_enter Try.func6, Try.ntmps6
  go_wp2_with fail
  refine (HC.out _).mono ?_
  rintro e w1 ⟨rfl, hb1⟩
  have HB := Lib.hid ((below_box w _).trans (hb1.mono (below_box w _).size))
  clear hb1
  go_wp2
  go_ret
  exact ⟨rfl, HB.out⟩

theorem nodes_yes (b p : Nat) (h : 16 ≤ b ∧ b ≤ 64 ∧ 8 ≤ p ∧ p ≤ 32) (w : World) : Calls Try.prog 10 #[.agg #[.int .i64 b, .int .i64 p]] w fun e w' => e = .returned (.int .i64 (nodes b p : Int)) ∧ Below w.heap.size w w' := by
  have HC := Lib.hid (check_yes b p ⟨by omega, by omega, by omega, by omega⟩)
  have HR := Lib.hid (reckon_any b p h)
  obtain ⟨A, hA⟩ : ∃ A, A = b * p := ⟨_, rfl⟩
  obtain ⟨S, hS⟩ : ∃ A, A = b / 8 := ⟨_, rfl⟩
  obtain ⟨C, hC⟩ : ∃ A, A = cap b p := ⟨_, rfl⟩
  obtain ⟨K, hK⟩ : ∃ A, A = low b p := ⟨_, rfl⟩
  obtain ⟨O, hO⟩ : ∃ A, A = nodes b p := ⟨_, rfl⟩
  rw [← hA, ← hS, ← hC, ← hK, ← hO] at HR
  rw [← hO]
  clear hA hS hC hK hO h
  obtain ⟨W, hW⟩ : ∃ W, W = w.alloc (.cells #[.int .i64 b, .int .i64 p] 23) := ⟨_, rfl⟩
  have k1 : Blk W w.heap.size 23 #[.int .i64 b, .int .i64 p] := by rw [hW]; exact Blk.new w _ _
  have hb0 : Below w.heap.size w W := by rw [hW]; exact below_box w _
  have HW := Lib.hid hW
  clear hW
  go_enter Try.func10, Try.ntmps10
  go_wp2_with fail
  rw [← HW.out]
  refine (HC.out _).mono ?_
  rintro e w1 ⟨rfl, hb1⟩
  have m1 := k1.below hb1 k1.lt
  have c0 : w1.cell? ⟨w.heap.size, 0, none⟩ = some (.int .i64 b) := m1.cell 0
  have c1 : w1.cell? ⟨w.heap.size, 1, none⟩ = some (.int .i64 p) := m1.cell 1
  have HB1 := Lib.hid (hb0.trans (hb1.mono hb0.size))
  have M1 := Lib.hid m1
  clear hb1 k1 m1 hb0
  go_wp2_with fail
  refine (HR.out _).mono ?_
  rintro e w2 ⟨rfl, hb2⟩
  have m2 := M1.out.below hb2 M1.out.lt
  have d0 : w2.cell? ⟨w.heap.size, 0, none⟩ = some (.int .i64 b) := m2.cell 0
  have d1 : w2.cell? ⟨w.heap.size, 1, none⟩ = some (.int .i64 p) := m2.cell 1
  have HB2 := Lib.hid (HB1.out.trans (hb2.mono HB1.out.size))
  clear hb2 m2 c0 c1
  have hi : ∀ w' : World, (Instr.index 33 (.agg #[.int .i64 A, .int .i64 S, .int .i64 C, .int .i64 O, .int .i64 K, .int .i64 ((K : Int) + 1)]) (.int .i64 3)).run Try.prog w' = .ok (.int .i64 O) w' := fun w' => (index_six _ _ _ _ _ _ w').1
  go_wp2
  go_ret
  exact ⟨rfl, HB2.out⟩
theorem block_none (b p : Nat) (q : Int) (h : 16 ≤ b ∧ b ≤ 64 ∧ 8 ≤ p ∧ p ≤ 32) (hq : q < 0 ∨ ((b * p : Nat) : Int) ≤ q) (w : World) : Calls Try.prog 7 #[.agg #[.int .i64 b, .int .i64 p], .int .i64 q] w fun e w' => e = .returned (.int .i64 (-1)) ∧ Below w.heap.size w w' := by
  have HC := Lib.hid (check_yes b p ⟨by omega, by omega, by omega, by omega⟩)
  have HR := Lib.hid (reckon_any b p h)
  obtain ⟨A, hA⟩ : ∃ A, A = b * p := ⟨_, rfl⟩
  obtain ⟨S, hS⟩ : ∃ A, A = b / 8 := ⟨_, rfl⟩
  obtain ⟨C, hC⟩ : ∃ A, A = cap b p := ⟨_, rfl⟩
  obtain ⟨K, hK⟩ : ∃ A, A = low b p := ⟨_, rfl⟩
  obtain ⟨O, hO⟩ : ∃ A, A = nodes b p := ⟨_, rfl⟩
  rw [← hA, ← hS, ← hC, ← hK, ← hO] at HR
  rw [← hA] at hq
  clear hA hS hC hK hO h
  by_cases h0 : q < 0
  · clear hq
    obtain ⟨W, hW⟩ : ∃ W, W = w.alloc (.cells #[.int .i64 b, .int .i64 p] 23) := ⟨_, rfl⟩
    have k1 : Blk W w.heap.size 23 #[.int .i64 b, .int .i64 p] := by rw [hW]; exact Blk.new w _ _
    have hb0 : Below w.heap.size w W := by rw [hW]; exact below_box w _
    have HW := Lib.hid hW
    clear hW
    go_enter Try.func7, Try.ntmps7
    go_wp2_with fail
    rw [← HW.out]
    refine (HC.out _).mono ?_
    rintro e w1 ⟨rfl, hb1⟩
    have m1 := k1.below hb1 k1.lt
    have c0 : w1.cell? ⟨w.heap.size, 0, none⟩ = some (.int .i64 b) := m1.cell 0
    have c1 : w1.cell? ⟨w.heap.size, 1, none⟩ = some (.int .i64 p) := m1.cell 1
    have HB1 := Lib.hid (hb0.trans (hb1.mono hb0.size))
    have M1 := Lib.hid m1
    clear hb1 k1 m1 hb0
    go_wp2
    go_ret
    exact ⟨rfl, HB1.out⟩
  · have hq' : (A : Int) ≤ q := by omega
    clear hq
    obtain ⟨W, hW⟩ : ∃ W, W = w.alloc (.cells #[.int .i64 b, .int .i64 p] 23) := ⟨_, rfl⟩
    have k1 : Blk W w.heap.size 23 #[.int .i64 b, .int .i64 p] := by rw [hW]; exact Blk.new w _ _
    have hb0 : Below w.heap.size w W := by rw [hW]; exact below_box w _
    have HW := Lib.hid hW
    clear hW
    go_enter Try.func7, Try.ntmps7
    go_wp2_with fail
    rw [← HW.out]
    refine (HC.out _).mono ?_
    rintro e w1 ⟨rfl, hb1⟩
    have m1 := k1.below hb1 k1.lt
    have c0 : w1.cell? ⟨w.heap.size, 0, none⟩ = some (.int .i64 b) := m1.cell 0
    have c1 : w1.cell? ⟨w.heap.size, 1, none⟩ = some (.int .i64 p) := m1.cell 1
    have HB1 := Lib.hid (hb0.trans (hb1.mono hb0.size))
    have M1 := Lib.hid m1
    clear hb1 k1 m1 hb0
    go_wp2_with fail
    refine (HR.out _).mono ?_
    rintro e w2 ⟨rfl, hb2⟩
    have m2 := M1.out.below hb2 M1.out.lt
    have d0 : w2.cell? ⟨w.heap.size, 0, none⟩ = some (.int .i64 b) := m2.cell 0
    have d1 : w2.cell? ⟨w.heap.size, 1, none⟩ = some (.int .i64 p) := m2.cell 1
    have HB2 := Lib.hid (HB1.out.trans (hb2.mono HB1.out.size))
    clear hb2 m2 c0 c1
    have hi : ∀ w' : World, (Instr.index 33 (.agg #[.int .i64 A, .int .i64 S, .int .i64 C, .int .i64 O, .int .i64 K, .int .i64 ((K : Int) + 1)]) (.int .i64 0)).run Try.prog w' = .ok (.int .i64 A) w' := fun w' => (index_six _ _ _ _ _ _ w').2
    go_wp2
    go_ret
    exact ⟨rfl, HB2.out⟩
theorem block_yes (b p q : Nat) (h : 16 ≤ b ∧ b ≤ 64 ∧ 8 ≤ p ∧ p ≤ 32) (hq : q < b * p) (w : World) : Calls Try.prog 7 #[.agg #[.int .i64 b, .int .i64 p], .int .i64 (q : Int)] w fun e w' => e = .returned (.int .i64 ((q / p : Nat) : Int)) ∧ Below w.heap.size w w' := by
  have e1 := wrap_quo q p p rfl (by have := (facts h.1 h.2.1 h.2.2.1 h.2.2.2).pages; omega)
  have e2 : ¬ p = 0 := by omega
  have HC := Lib.hid (check_yes b p ⟨by omega, by omega, by omega, by omega⟩)
  have HR := Lib.hid (reckon_any b p h)
  obtain ⟨A, hA⟩ : ∃ A, A = b * p := ⟨_, rfl⟩
  obtain ⟨S, hS⟩ : ∃ A, A = b / 8 := ⟨_, rfl⟩
  obtain ⟨C, hC⟩ : ∃ A, A = cap b p := ⟨_, rfl⟩
  obtain ⟨K, hK⟩ : ∃ A, A = low b p := ⟨_, rfl⟩
  obtain ⟨O, hO⟩ : ∃ A, A = nodes b p := ⟨_, rfl⟩
  rw [← hA, ← hS, ← hC, ← hK, ← hO] at HR
  rw [← hA] at hq
  have h0 : ¬ (q : Int) < 0 := by omega
  have h1 : ¬ (A : Int) ≤ (q : Int) := by omega
  obtain ⟨Q, hQ⟩ : ∃ Q, Q = q / p := ⟨_, rfl⟩
  rw [← hQ] at e1 ⊢
  clear hA hS hC hK hO h hQ hq
  obtain ⟨W, hW⟩ : ∃ W, W = w.alloc (.cells #[.int .i64 b, .int .i64 p] 23) := ⟨_, rfl⟩
  have k1 : Blk W w.heap.size 23 #[.int .i64 b, .int .i64 p] := by rw [hW]; exact Blk.new w _ _
  have hb0 : Below w.heap.size w W := by rw [hW]; exact below_box w _
  have HW := Lib.hid hW
  clear hW
  go_enter Try.func7, Try.ntmps7
  go_wp2_with fail
  rw [← HW.out]
  refine (HC.out _).mono ?_
  rintro e w1 ⟨rfl, hb1⟩
  have m1 := k1.below hb1 k1.lt
  have c0 : w1.cell? ⟨w.heap.size, 0, none⟩ = some (.int .i64 b) := m1.cell 0
  have c1 : w1.cell? ⟨w.heap.size, 1, none⟩ = some (.int .i64 p) := m1.cell 1
  have HB1 := Lib.hid (hb0.trans (hb1.mono hb0.size))
  have M1 := Lib.hid m1
  clear hb1 k1 m1 hb0
  go_wp2_with fail
  refine (HR.out _).mono ?_
  rintro e w2 ⟨rfl, hb2⟩
  have m2 := M1.out.below hb2 M1.out.lt
  have d0 : w2.cell? ⟨w.heap.size, 0, none⟩ = some (.int .i64 b) := m2.cell 0
  have d1 : w2.cell? ⟨w.heap.size, 1, none⟩ = some (.int .i64 p) := m2.cell 1
  have HB2 := Lib.hid (HB1.out.trans (hb2.mono HB1.out.size))
  clear hb2 m2 c0 c1
  have hi : ∀ w' : World, (Instr.index 33 (.agg #[.int .i64 A, .int .i64 S, .int .i64 C, .int .i64 O, .int .i64 K, .int .i64 ((K : Int) + 1)]) (.int .i64 0)).run Try.prog w' = .ok (.int .i64 A) w' := fun w' => (index_six _ _ _ _ _ _ w').2
  go_wp2
  go_ret
  exact ⟨rfl, HB2.out⟩
theorem first_none (b p : Nat) (q : Int) (h : 16 ≤ b ∧ b ≤ 64 ∧ 8 ≤ p ∧ p ≤ 32) (hq : q < 0 ∨ (b : Int) ≤ q) (w : World) : Calls Try.prog 6 #[.agg #[.int .i64 b, .int .i64 p], .int .i64 q] w fun e w' => e = .returned (.int .i64 (-1)) ∧ Below w.heap.size w w' := by
  have HC := Lib.hid (check_yes b p ⟨by omega, by omega, by omega, by omega⟩)
  clear h
  by_cases h0 : q < 0
  · clear hq
    obtain ⟨W, hW⟩ : ∃ W, W = w.alloc (.cells #[.int .i64 b, .int .i64 p] 23) := ⟨_, rfl⟩
    have k1 : Blk W w.heap.size 23 #[.int .i64 b, .int .i64 p] := by rw [hW]; exact Blk.new w _ _
    have hb0 : Below w.heap.size w W := by rw [hW]; exact below_box w _
    have HW := Lib.hid hW
    clear hW
    go_enter Try.func6, Try.ntmps6
    go_wp2_with fail
    rw [← HW.out]
    refine (HC.out _).mono ?_
    rintro e w1 ⟨rfl, hb1⟩
    have m1 := k1.below hb1 k1.lt
    have c0 : w1.cell? ⟨w.heap.size, 0, none⟩ = some (.int .i64 b) := m1.cell 0
    have c1 : w1.cell? ⟨w.heap.size, 1, none⟩ = some (.int .i64 p) := m1.cell 1
    have HB1 := Lib.hid (hb0.trans (hb1.mono hb0.size))
    have M1 := Lib.hid m1
    clear hb1 k1 m1 hb0
    go_wp2
    go_ret
    exact ⟨rfl, HB1.out⟩
  · have hq' : (b : Int) ≤ q := by omega
    clear hq
    obtain ⟨W, hW⟩ : ∃ W, W = w.alloc (.cells #[.int .i64 b, .int .i64 p] 23) := ⟨_, rfl⟩
    have k1 : Blk W w.heap.size 23 #[.int .i64 b, .int .i64 p] := by rw [hW]; exact Blk.new w _ _
    have hb0 : Below w.heap.size w W := by rw [hW]; exact below_box w _
    have HW := Lib.hid hW
    clear hW
    go_enter Try.func6, Try.ntmps6
    go_wp2_with fail
    rw [← HW.out]
    refine (HC.out _).mono ?_
    rintro e w1 ⟨rfl, hb1⟩
    have m1 := k1.below hb1 k1.lt
    have c0 : w1.cell? ⟨w.heap.size, 0, none⟩ = some (.int .i64 b) := m1.cell 0
    have c1 : w1.cell? ⟨w.heap.size, 1, none⟩ = some (.int .i64 p) := m1.cell 1
    have HB1 := Lib.hid (hb0.trans (hb1.mono hb0.size))
    have M1 := Lib.hid m1
    clear hb1 k1 m1 hb0
    go_wp2
    go_ret
    exact ⟨rfl, HB1.out⟩
theorem first_yes (b p q : Nat) (h : 16 ≤ b ∧ b ≤ 64 ∧ 8 ≤ p ∧ p ≤ 32) (hq : q < b) (w : World) : Calls Try.prog 6 #[.agg #[.int .i64 b, .int .i64 p], .int .i64 (q : Int)] w fun e w' => e = .returned (.int .i64 ((q * p : Nat) : Int)) ∧ Below w.heap.size w w' := by
  have e1 := wrap_mul q p (by have := (facts h.1 h.2.1 h.2.2.1 h.2.2.2).pages; have := Nat.mul_le_mul_right p (Nat.le_of_lt hq); omega)
  have HC := Lib.hid (check_yes b p ⟨by omega, by omega, by omega, by omega⟩)
  have h0 : ¬ (q : Int) < 0 := by omega
  have h1 : ¬ (b : Int) ≤ (q : Int) := by omega
  obtain ⟨Q, hQ⟩ : ∃ Q, Q = q * p := ⟨_, rfl⟩
  rw [← hQ] at e1 ⊢
  clear h hQ hq
  obtain ⟨W, hW⟩ : ∃ W, W = w.alloc (.cells #[.int .i64 b, .int .i64 p] 23) := ⟨_, rfl⟩
  have k1 : Blk W w.heap.size 23 #[.int .i64 b, .int .i64 p] := by rw [hW]; exact Blk.new w _ _
  have hb0 : Below w.heap.size w W := by rw [hW]; exact below_box w _
  have HW := Lib.hid hW
  clear hW
  go_enter Try.func6, Try.ntmps6
  go_wp2_with fail
  rw [← HW.out]
  refine (HC.out _).mono ?_
  rintro e w1 ⟨rfl, hb1⟩
  have m1 := k1.below hb1 k1.lt
  have c0 : w1.cell? ⟨w.heap.size, 0, none⟩ = some (.int .i64 b) := m1.cell 0
  have c1 : w1.cell? ⟨w.heap.size, 1, none⟩ = some (.int .i64 p) := m1.cell 1
  have HB1 := Lib.hid (hb0.trans (hb1.mono hb0.size))
  have M1 := Lib.hid m1
  clear hb1 k1 m1 hb0
  go_wp2
  go_ret
  exact ⟨rfl, HB1.out⟩
end GM
end Go.Proofs.Ytolcacmkageidac
