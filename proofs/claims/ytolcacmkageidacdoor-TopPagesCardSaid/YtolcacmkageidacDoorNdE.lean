/- What New and Plan do; a nil array. -/
import Derived.Test.YtolcacmkageidacDoorNdD
import Derived.Laws.MakeOwn
namespace Go.Proofs.YtolcacmkageidacDoor
namespace ND
open Go.RowKit MM
set_option linter.unusedVariables false
set_option linter.unusedSimpArgs false

theorem mayBe_any (b p : Int) (w : World) :
    Calls Tryd.prog 21 #[.agg #[.int .i64 b, .int .i64 p]] w fun e w' => e = .returned (.bool (decide (16 ≤ b ∧ b ≤ 64 ∧ 8 ≤ p ∧ p ≤ 32))) ∧ Below w.heap.size w w' := by
  by_cases h1 : 16 ≤ b <;> by_cases h2 : b ≤ 64 <;> by_cases h3 : 8 ≤ p <;> by_cases h4 : p ≤ 32
  all_goals try (exfalso; omega)
  all_goals
    go_enter Tryd.func21, Tryd.ntmps21
    go_wp2
    simp [bodyPost, results, Tryd.results21, go_sem, h1, h2, h3, h4]
    exact (Below.refl _ _).alloc (Nat.le_refl _) _

theorem info_str : (Tryd.prog.info? 9).map (fun i => (i.zero, i.size, i.bytes)) = some (some (.string ⟨#[]⟩), 1, 16) := by kernel_rfl
theorem info_state : (Tryd.prog.info? 72).map (fun i => (i.zero, i.size, i.bytes)) = some (some (.agg #[.int .i64 0, .int .i64 0, .bool false]), 3, 24) := by kernel_rfl

theorem made_str (w : World) (n : Nat) (hn : n ≤ 10000) :
    (Instr.makeSlice 60 (.int .i64 n) (.int .i64 n)).run Tryd.prog w = .ok (.slice (some ⟨w.heap.size, 0, none⟩) n n) (w.alloc (.cells (madeCells #[.string ⟨#[]⟩] n) 9)) := by
  obtain ⟨i0, hi, hz0, hz1, hz2⟩ := info_parts info_str
  have h := run_makeSlice (P := Tryd.prog) w 60 9 i0 (.string ⟨#[]⟩) Tryd.underlying60 hi hz0 .i64 .i64 n n (by omega) (by omega) (by rw [hz1]; omega) (by rw [hz2]; omega) (by omega)
  have e : (Value.string ⟨#[]⟩).cells = #[.string ⟨#[]⟩] := by simp [Value.cells]
  rw [hz1, e] at h
  simpa using h
theorem made_state (w : World) (n : Nat) (hn : n ≤ 10000) :
    (Instr.makeSlice 61 (.int .i64 n) (.int .i64 n)).run Tryd.prog w = .ok (.slice (some ⟨w.heap.size, 0, none⟩) n n) (w.alloc (.cells (madeCells #[.int .i64 0, .int .i64 0, .bool false] (n * 3)) 72)) := by
  obtain ⟨i0, hi, hz0, hz1, hz2⟩ := info_parts info_state
  have h := run_makeSlice (P := Tryd.prog) w 61 72 i0 _ Tryd.underlying61 hi hz0 .i64 .i64 n n (by omega) (by omega) (by rw [hz1]; omega) (by rw [hz2]; omega) (by omega)
  have e : (Value.agg #[.int .i64 0, .int .i64 0, .bool false]).cells = #[.int .i64 0, .int .i64 0, .bool false] := by simp [Value.cells]
  rw [hz1, e] at h
  simpa using h

theorem new_bad (b p : Int) (w : World) (hb : (Lit.int .i64 b).wf = true) (h : ¬ (16 ≤ b ∧ b ≤ 64 ∧ 8 ≤ p ∧ p ≤ 32)) :
    Calls Tryd.prog 7 #[.agg #[.int .i64 b, .int .i64 p]] w fun e w' => ∃ v, e = .returned (.tuple #[.pointer none, v]) ∧ ErrIs w' opNew b 1 v ∧ Below w.heap.size w w' := by
  have HM := Lib.hid (fun w => mayBe_any b p w)
  rw [decide_eq_false h] at HM
  have HW := Lib.hid (fun w => wrap_errV opNew b 1 w hb rfl (by decide))
  have E1 : errV 1 = .iface 26 (.int .i64 1) := rfl
  rw [E1] at HW
  clear h hb E1
  go_enter Tryd.func7, Tryd.ntmps7
  go_wp2_with fail
  obtain ⟨W1, hW1⟩ : ∃ W1, W1 = w.alloc (.cells #[.int .i64 b, .int .i64 p] 36) := ⟨_, rfl⟩
  rw [← hW1]
  have k1 : Blk W1 w.heap.size 36 #[.int .i64 b, .int .i64 p] := by rw [hW1]; exact Blk.new w _ _
  have b1 : Below w.heap.size w W1 := by rw [hW1]; exact (Below.refl _ _).alloc (Nat.le_refl _) _
  clear hW1
  refine (HM.out _).mono ?_
  rintro e w2 ⟨rfl, hb2⟩
  have g0 : w2.cell? ⟨w.heap.size, 0, none⟩ = some (.int .i64 b) := by rw [hb2.cell (p := ⟨w.heap.size, 0, none⟩) k1.lt, k1.cell]; rfl
  have HB := Lib.hid (b1.trans (hb2.mono b1.size))
  clear hb2 k1 b1
  go_wp2_with fail
  refine (HW.out _).mono ?_
  rintro e w3 ⟨v, rfl, he, hb3⟩
  have HE := Lib.hid he
  have HB3 := Lib.hid (HB.out.trans (hb3.mono HB.out.size))
  clear he hb3
  go_wp2
  go_ret2
  exact ⟨_, rfl, HE.out, HB3.out⟩

theorem made_get (z : Array Value) (n i : Nat) (hi : i < n) : (madeCells z n)[i]? = some z[i % z.size]! := by
  unfold madeCells
  rw [Array.getElem?_map, Array.getElem?_range, if_pos hi]
  rfl
theorem three (w : World) (a b c : Array Value) (ta tb tc : TypeId) :
    Blk (((w.alloc (.cells a ta)).alloc (.cells b tb)).alloc (.cells c tc)) w.heap.size ta a ∧ Blk (((w.alloc (.cells a ta)).alloc (.cells b tb)).alloc (.cells c tc)) (w.heap.size + 1) tb b ∧ Blk (((w.alloc (.cells a ta)).alloc (.cells b tb)).alloc (.cells c tc)) (w.heap.size + 1 + 1) tc c := by
  have e1 : (w.alloc (.cells a ta)).heap.size = w.heap.size + 1 := by simp
  have e2 : ((w.alloc (.cells a ta)).alloc (.cells b tb)).heap.size = w.heap.size + 1 + 1 := by simp
  refine ⟨((Blk.new w ta a).alloc _).alloc _, ?_, ?_⟩
  · have := (Blk.new (w.alloc (.cells a ta)) tb b).alloc (.cells c tc)
    rw [e1] at this; exact this
  · have := Blk.new ((w.alloc (.cells a ta)).alloc (.cells b tb)) tc c
    rw [e2] at this; exact this
theorem three_below (w : World) (a b c : Obj) : Below w.heap.size w (((w.alloc a).alloc b).alloc c).drew := by
  have h : Below w.heap.size w (((w.alloc a).alloc b).alloc c) := ((((Below.refl w.heap.size w).alloc (Nat.le_refl _) a).alloc (by simp) b).alloc (by simp; omega) c)
  exact ⟨h.os, h.tape, h.output, h.size, h.block⟩
theorem stayG {w' : World} {G : Nat} {b p : Nat} (h : Blk w' G 36 #[.int .i64 b, .int .i64 p]) :
    Blk w'.drew G 36 #[.int .i64 b, .int .i64 p] ∧ w'.drew.cell? ⟨G, 0, none⟩ = some (.int .i64 b) ∧ w'.drew.cell? ⟨G, 1, none⟩ = some (.int .i64 p) := ⟨h, h.cell 0, h.cell 1⟩
theorem fresh_at {w : World} {r : Ref} (b p : Nat) (hv : r.pv = .map none) (h1 : Blk w r.pb 64 (cellsOf r (fresh b p))) (h2 : Blk w r.gp 9 (madeCells #[.string ⟨#[]⟩] (b * p)))
    (h3 : Blk w r.gb 72 (madeCells #[.int .i64 0, .int .i64 0, .bool false] (b * 3))) : NandAt w r (fresh b p) := by
  refine ⟨h1, ⟨_, h2, size_madeCells _ _, fun i hi => ?_⟩, ⟨_, h3, size_madeCells _ _, fun i hi => ?_⟩, .inl ⟨hv, rfl⟩⟩
  · have hi : i < b * p := hi
    rw [made_get _ _ _ hi]
    show some (#[Value.string ⟨#[]⟩])[i % 1]! = _
    rw [Nat.mod_one]; rfl
  · have hi : i < b := hi
    rw [made_get _ _ _ (by omega), made_get _ _ _ (by omega), made_get _ _ _ (by omega)]
    show some (#[Value.int .i64 0, Value.int .i64 0, Value.bool false])[(i * 3) % 3]! = _ ∧ some (#[Value.int .i64 0, Value.int .i64 0, Value.bool false])[(i * 3 + 1) % 3]! = _ ∧ some (#[Value.int .i64 0, Value.int .i64 0, Value.bool false])[(i * 3 + 2) % 3]! = _
    rw [show (i * 3) % 3 = 0 by omega, show (i * 3 + 1) % 3 = 1 by omega, show (i * 3 + 2) % 3 = 2 by omega]
    exact ⟨rfl, rfl, rfl⟩

set_option maxRecDepth 100000 in
set_option maxHeartbeats 2000000 in
theorem new_ok (b p : Nat) (w : World) (h : 16 ≤ b ∧ b ≤ 64 ∧ 8 ≤ p ∧ p ≤ 32) :
    Calls Tryd.prog 7 #[.agg #[.int .i64 b, .int .i64 p]] w fun e w' => ∃ r : Ref, e = .returned (.tuple #[.pointer (some ⟨r.pb, 0, none⟩), .nilIface]) ∧ NandAt w' r (fresh b p) ∧ Below w.heap.size w w' ∧ ∀ k, r.has k → w.heap.size ≤ k := by
  have HM := Lib.hid (fun w => mayBe_any b p w)
  rw [decide_eq_true (by omega)] at HM
  have hbp : b * p ≤ 2048 := Nat.mul_le_mul h.2.1 h.2.2.2
  have hmul : IntKind.i64.wrap ((b : Int) * (p : Int)) = ((b * p : Nat) : Int) := by rw [← Int.natCast_mul]; exact IntWalk.i64_in _ (by omega)
  have hm1 := fun w => made_str w (b * p) (by omega)
  have hm2 := fun w => made_state w b (by omega)
  obtain ⟨n, hn⟩ : ∃ n, n = b * p := ⟨_, rfl⟩
  rw [← hn] at hm1 hmul
  have HN := Lib.hid hn
  clear h hbp hn
  go_enter Tryd.func7, Tryd.ntmps7
  go_wp2_with fail
  obtain ⟨W1, hW1⟩ : ∃ W1, W1 = w.alloc (.cells #[.int .i64 b, .int .i64 p] 36) := ⟨_, rfl⟩
  rw [← hW1]
  have k1 : Blk W1 w.heap.size 36 #[.int .i64 b, .int .i64 p] := by rw [hW1]; exact Blk.new w _ _
  have b1 : Below w.heap.size w W1 := by rw [hW1]; exact (Below.refl _ _).alloc (Nat.le_refl _) _
  clear hW1
  refine (HM.out _).mono ?_
  rintro e w2 ⟨rfl, hb2⟩
  have k2 : Blk w2 w.heap.size 36 #[.int .i64 b, .int .i64 p] := (hb2.block _ k1.lt).trans k1
  have HB := Lib.hid (b1.trans (hb2.mono b1.size))
  have hG : w.heap.size < w2.heap.size := k2.lt
  obtain ⟨G, hGG⟩ : ∃ G, G = w.heap.size := ⟨_, rfl⟩
  rw [← hGG] at k2 hG ⊢
  have HGG := Lib.hid hGG
  have g0 : w2.cell? ⟨G, 0, none⟩ = some (.int .i64 b) := by rw [k2.cell]; rfl
  have g1 : w2.cell? ⟨G, 1, none⟩ = some (.int .i64 p) := by rw [k2.cell]; rfl
  have K2 := Lib.hid k2
  clear hb2 k1 b1 k2 hGG
  go_wp2
  go_region_held3 (fun w' => Blk w' G 36 #[.int .i64 b, .int .i64 p] ∧ w'.cell? ⟨G, 0, none⟩ = some (.int .i64 b) ∧ w'.cell? ⟨G, 1, none⟩ = some (.int .i64 p)) (first | exact stayG K2.out | exact stayG (K2.out.alloc _) | exact stayG ((K2.out.alloc _).alloc _) | exact stayG (((K2.out.alloc _).alloc _).alloc _)) (fail)
  all_goals go_wp2
  all_goals go_ret2
  all_goals obtain rfl : n = b * p := HN.out
  · refine ⟨⟨w2.heap.size + 1 + 1, w2.heap.size, w2.heap.size + 1, .map none⟩, by simp [fresh, cellsOf], ?_, ?_, ?_⟩
    · obtain ⟨t1, t2, t3⟩ := three w2 (madeCells #[.string ⟨#[]⟩] (b * p)) (madeCells #[.int .i64 0, .int .i64 0, .bool false] (b * 3)) (cellsOf ⟨w2.heap.size + 1 + 1, w2.heap.size, w2.heap.size + 1, .map none⟩ (fresh b p)) 9 72 64
      exact fresh_at b p rfl t3 t1 t2
    · exact HB.out.trans ((three_below w2 _ _ _).mono HB.out.size)
    · intro k hk
      have := HB.out.size
      rcases hk with rfl | rfl | rfl | hk
      · show _ ≤ w2.heap.size + 1 + 1; omega
      · exact this
      · show _ ≤ w2.heap.size + 1; omega
      · cases hk
  · refine ⟨⟨w2.heap.size + 1 + 1, w2.heap.size + 1, w2.heap.size, .map none⟩, by simp [fresh, cellsOf], ?_, ?_, ?_⟩
    · obtain ⟨t1, t2, t3⟩ := three w2 (madeCells #[.int .i64 0, .int .i64 0, .bool false] (b * 3)) (madeCells #[.string ⟨#[]⟩] (b * p)) (cellsOf ⟨w2.heap.size + 1 + 1, w2.heap.size + 1, w2.heap.size, .map none⟩ (fresh b p)) 72 9 64
      exact fresh_at b p rfl t3 t2 t1
    · exact HB.out.trans ((three_below w2 _ _ _).mono HB.out.size)
    · intro k hk
      have := HB.out.size
      rcases hk with rfl | rfl | rfl | hk
      · show _ ≤ w2.heap.size + 1 + 1; omega
      · show _ ≤ w2.heap.size + 1; omega
      · exact this
      · cases hk
end ND
end Go.Proofs.YtolcacmkageidacDoor
