/- What scoriaref05.Read answers: of any bytes. Condition: no text is longer than 2^47 bytes. -/
import Derived.Test.YtolcacmkageidaaPgE
import Derived.Test.YtolcacmkageidaaPgRW
namespace Go.Proofs.Ytolcacmkageidaa
open Go.RowKit
namespace PG
open FM CM MM
set_option linter.unusedVariables false
set_option linter.unusedSimpArgs false

/-- What get is asked here, and what it answers. -/
inductive GA (N0 N1 N2 N3 : Int) : Value → Value → Int → Prop
  | a : GA N0 N1 N2 N3 (.int .i64 2) (.int .i64 1) N0
  | b : GA N0 N1 N2 N3 (.int .i64 3) (.int .i64 2) N1
  | c : GA N0 N1 N2 N3 (.int .i64 5) (.int .i64 4) N2
  | d : GA N0 N1 N2 N3 (.int .i64 9) (.int .i64 6) N3

theorem rread_err (t : ByteArray) (n : Int) (hn : ¬ n = 0) (HO : Hid (∀ w, Calls Try.prog 27 #[.string t] w fun e w' => e = .returned (.tuple #[.string ⟨#[]⟩, .int .i64 n]) ∧ Below w.heap.size w w')) (w : World) :
    Calls Try.prog 13 #[.string t] w fun e w' => e = .returned (.tuple #[.agg #[.int .i64 0, .int .i64 0, .int .i64 0, .int .i64 0, .string ⟨#[]⟩], .int .i64 n]) ∧ Below w.heap.size w w' := by
  obtain ⟨W, hW⟩ : ∃ W, W = w.alloc (.cells #[.int .i64 0, .int .i64 0, .int .i64 0, .int .i64 0, .string ⟨#[]⟩] 30) := ⟨_, rfl⟩
  have k1 : Blk W w.heap.size 30 #[.int .i64 0, .int .i64 0, .int .i64 0, .int .i64 0, .string ⟨#[]⟩] := by rw [hW]; exact Blk.new w _ _
  have hb0 : Below w.heap.size w W := by rw [hW]; exact below_box w _
  have HW := Lib.hid hW
  clear hW
  go_enter Try.func13, Try.ntmps13
  go_wp2_with fail
  rw [← HW.out]
  refine (HO.out _).mono ?_
  rintro e w1 ⟨rfl, hb1⟩
  have k2 := k1.below hb1 k1.lt
  have HB := Lib.hid (hb0.trans (hb1.mono hb0.size))
  have K2 := Lib.hid k2
  obtain ⟨⟨z0, z1, z2, z3, z4⟩, f0, f1, f2, f3, f4⟩ := cells5 k2
  clear hb1 k1 k2 hb0
  go_wp2
  exact ret_cell_tmp rfl _ _ _ _ _ _ _ _ rfl rfl rfl (stored5 K2.out _ _ _ _ _) Try.underlying30 rfl (by kernel_rfl) ⟨rfl, stored5_below HB.out (Nat.le_refl _) _ _ _ _ _⟩

theorem rread_short (t b : ByteArray) (hs : b.size < 16) (HO : Hid (∀ w, Calls Try.prog 27 #[.string t] w fun e w' => e = .returned (.tuple #[.string b, .int .i64 0]) ∧ Below w.heap.size w w')) (w : World) :
    Calls Try.prog 13 #[.string t] w fun e w' => e = .returned (.tuple #[.agg #[.int .i64 0, .int .i64 0, .int .i64 0, .int .i64 0, .string ⟨#[]⟩], .int .i64 3]) ∧ Below w.heap.size w w' := by
  have hs' : (b.size : Int) < 16 := by omega
  obtain ⟨W, hW⟩ : ∃ W, W = w.alloc (.cells #[.int .i64 0, .int .i64 0, .int .i64 0, .int .i64 0, .string ⟨#[]⟩] 30) := ⟨_, rfl⟩
  have k1 : Blk W w.heap.size 30 #[.int .i64 0, .int .i64 0, .int .i64 0, .int .i64 0, .string ⟨#[]⟩] := by rw [hW]; exact Blk.new w _ _
  have hb0 : Below w.heap.size w W := by rw [hW]; exact below_box w _
  have HW := Lib.hid hW
  clear hW
  go_enter Try.func13, Try.ntmps13
  go_wp2_with fail
  rw [← HW.out]
  refine (HO.out _).mono ?_
  rintro e w1 ⟨rfl, hb1⟩
  have k2 := k1.below hb1 k1.lt
  have HB := Lib.hid (hb0.trans (hb1.mono hb0.size))
  have K2 := Lib.hid k2
  obtain ⟨⟨z0, z1, z2, z3, z4⟩, f0, f1, f2, f3, f4⟩ := cells5 k2
  clear hb1 k1 k2 hb0
  go_wp2
  exact ret_cell_tmp rfl _ _ _ _ _ _ _ _ rfl rfl rfl (stored5 K2.out _ _ _ _ _) Try.underlying30 rfl (by kernel_rfl) ⟨rfl, stored5_below HB.out (Nat.le_refl _) _ _ _ _ _⟩

set_option maxHeartbeats 4000000 in
theorem rread_may (t b B : ByteArray) (N0 N1 N2 N3 : Int)  (hs : 16 ≤ b.size) (hB : b.extract 16 b.size = B) (HO : Hid (∀ w, Calls Try.prog 27 #[.string t] w fun e w' => e = .returned (.tuple #[.string b, .int .i64 0]) ∧ Below w.heap.size w w'))
    (HG : Hid (∀ x y v, GA N0 N1 N2 N3 x y v → ∀ w, Calls Try.prog 28 #[.string b, x, y] w fun e w' => e = .returned (.int .i64 v) ∧ w = w'))
    (HWR : Hid (∀ w, Calls Try.prog 11 #[.agg #[.int .i64 N0, .int .i64 N1, .int .i64 N2, .int .i64 N3, .string B]] w fun e w' => e = .returned (.tuple #[.string ⟨#[]⟩, .int .i64 1]) ∧ Below w.heap.size w w')) (w : World) :
    Calls Try.prog 13 #[.string t] w fun e w' => e = .returned (.tuple #[.agg #[.int .i64 0, .int .i64 0, .int .i64 0, .int .i64 0, .string ⟨#[]⟩], .int .i64 3]) ∧ Below w.heap.size w w' := by
  have GAa := Lib.hid (GA.a (N0 := N0) (N1 := N1) (N2 := N2) (N3 := N3))
  have GAb := Lib.hid (GA.b (N0 := N0) (N1 := N1) (N2 := N2) (N3 := N3))
  have GAc := Lib.hid (GA.c (N0 := N0) (N1 := N1) (N2 := N2) (N3 := N3))
  have GAd := Lib.hid (GA.d (N0 := N0) (N1 := N1) (N2 := N2) (N3 := N3))
  obtain ⟨W, hW⟩ : ∃ W, W = w.alloc (.cells #[.int .i64 0, .int .i64 0, .int .i64 0, .int .i64 0, .string ⟨#[]⟩] 30) := ⟨_, rfl⟩
  have k1 : Blk W w.heap.size 30 #[.int .i64 0, .int .i64 0, .int .i64 0, .int .i64 0, .string ⟨#[]⟩] := by rw [hW]; exact Blk.new w _ _
  have hb0 : Below w.heap.size w W := by rw [hW]; exact below_box w _
  have HW := Lib.hid hW
  clear hW
  go_enter Try.func13, Try.ntmps13
  go_wp2_with fail
  rw [← HW.out]
  refine (HO.out _).mono ?_
  rintro e w1 ⟨rfl, hb1⟩
  have k2 := k1.below hb1 k1.lt
  have HB := Lib.hid (hb0.trans (hb1.mono hb0.size))
  have K2 := Lib.hid k2
  have hs' : (16 : Int) ≤ (b.size : Int) := by omega
  have HS0 : Hid (Blk w1.drew w.heap.size 30 #[.int .i64 0, .int .i64 0, .int .i64 0, .int .i64 0, .string ⟨#[]⟩] ∧ Below w.heap.size w w1.drew) := Lib.hid ⟨k2, HB.out.drew⟩
  have HS1 : Hid (∀ cs, Blk (w1.alloc (.cells cs 30)).drew w.heap.size 30 #[.int .i64 0, .int .i64 0, .int .i64 0, .int .i64 0, .string ⟨#[]⟩] ∧ Below w.heap.size w (w1.alloc (.cells cs 30)).drew) := Lib.hid fun cs => ⟨k2.alloc _, (HB.out.alloc HB.out.size _).drew⟩
  have HS2 : Hid (∀ cs, Blk (w1.alloc (.cells cs 30)) w.heap.size 30 #[.int .i64 0, .int .i64 0, .int .i64 0, .int .i64 0, .string ⟨#[]⟩] ∧ Below w.heap.size w (w1.alloc (.cells cs 30))) := Lib.hid fun cs => ⟨k2.alloc _, (HB.out.alloc HB.out.size _)⟩
  clear hb1 k1 k2 hb0
  go_wp2
  go_region_held3 (fun w' => Blk w' w.heap.size 30 #[.int .i64 0, .int .i64 0, .int .i64 0, .int .i64 0, .string ⟨#[]⟩] ∧ Below w.heap.size w w') (first | with_reducible exact HS0.out | with_reducible exact HS1.out _ | with_reducible exact HS2.out _ | assumption) ((go_at_call 28; refine (HG.out _ _ _ (by first | exact GAa.out | exact GAb.out | exact GAc.out | exact GAd.out) _).mono ?_; rintro e w5 ⟨rfl, rfl⟩))
  all_goals
    have HX := Lib.hid (Blk.new w1 30 #[.int .i64 N0, .int .i64 N1, .int .i64 N2, .int .i64 N3, .string B])
    obtain ⟨W6, hW6⟩ : ∃ W6, W6 = w1.alloc (.cells #[.int .i64 N0, .int .i64 N1, .int .i64 N2, .int .i64 N3, .string B] 30) := ⟨_, rfl⟩
    obtain ⟨X, hX⟩ : ∃ X, X = w1.heap.size := ⟨_, rfl⟩
    have PX : Hid (Blk W6.drew X 30 #[.int .i64 N0, .int .i64 N1, .int .i64 N2, .int .i64 N3, .string B]) := by show Blk _ _ _ _; rw [hW6, hX]; exact HX.out
    have PZ : Hid (Blk W6.drew w.heap.size 30 #[.int .i64 0, .int .i64 0, .int .i64 0, .int .i64 0, .string ⟨#[]⟩]) := by show Blk _ _ _ _; rw [hW6]; exact (HS1.out _).1
    have PB : Hid (Below w.heap.size w W6.drew) := by show Below _ _ _; rw [hW6]; exact (HS1.out _).2
    rw [← hW6, ← hX]
    clear hW6 hX HS0 HS1 HS2 HX K2 HB
    obtain ⟨⟨a0, a1, a2, a3, a4⟩, _⟩ := cells5 PX.out
    go_wp2_with fail
    refine (HWR.out _).mono ?_
    rintro e w7 ⟨rfl, hb7⟩
    obtain ⟨⟨b0, b1, b2, b3, b4⟩, _⟩ := cells5 (PX.out.below hb7 PX.out.lt)
    have pz7 := PZ.out.below hb7 PZ.out.lt
    obtain ⟨⟨y0, y1, y2, y3, y4⟩, f0, f1, f2, f3, f4⟩ := cells5 pz7
    have HZ7 := Lib.hid pz7
    have HB7 := Lib.hid (PB.out.trans (hb7.mono PB.out.size))
    clear hb7 pz7 a0 a1 a2 a3 a4
    go_wp2
    all_goals first | exact ret_cell_tmp rfl _ _ _ _ _ _ _ _ rfl rfl rfl (stored5 HZ7.out _ _ _ _ _) Try.underlying30 rfl (by kernel_rfl) ⟨rfl, stored5_below HB7.out (Nat.le_refl _) _ _ _ _ _⟩ | (exfalso; rename_i hh; revert hh; simp [hne])

set_option maxHeartbeats 4000000 in
theorem rread_other (t b B U : ByteArray) (N0 N1 N2 N3 : Int) (hne : ¬ U.toList = t.toList) (hs : 16 ≤ b.size) (hB : b.extract 16 b.size = B) (HO : Hid (∀ w, Calls Try.prog 27 #[.string t] w fun e w' => e = .returned (.tuple #[.string b, .int .i64 0]) ∧ Below w.heap.size w w'))
    (HG : Hid (∀ x y v, GA N0 N1 N2 N3 x y v → ∀ w, Calls Try.prog 28 #[.string b, x, y] w fun e w' => e = .returned (.int .i64 v) ∧ w = w'))
    (HWR : Hid (∀ w, Calls Try.prog 11 #[.agg #[.int .i64 N0, .int .i64 N1, .int .i64 N2, .int .i64 N3, .string B]] w fun e w' => e = .returned (.tuple #[.string U, .int .i64 0]) ∧ Below w.heap.size w w')) (w : World) :
    Calls Try.prog 13 #[.string t] w fun e w' => e = .returned (.tuple #[.agg #[.int .i64 0, .int .i64 0, .int .i64 0, .int .i64 0, .string ⟨#[]⟩], .int .i64 3]) ∧ Below w.heap.size w w' := by
  have GAa := Lib.hid (GA.a (N0 := N0) (N1 := N1) (N2 := N2) (N3 := N3))
  have GAb := Lib.hid (GA.b (N0 := N0) (N1 := N1) (N2 := N2) (N3 := N3))
  have GAc := Lib.hid (GA.c (N0 := N0) (N1 := N1) (N2 := N2) (N3 := N3))
  have GAd := Lib.hid (GA.d (N0 := N0) (N1 := N1) (N2 := N2) (N3 := N3))
  obtain ⟨W, hW⟩ : ∃ W, W = w.alloc (.cells #[.int .i64 0, .int .i64 0, .int .i64 0, .int .i64 0, .string ⟨#[]⟩] 30) := ⟨_, rfl⟩
  have k1 : Blk W w.heap.size 30 #[.int .i64 0, .int .i64 0, .int .i64 0, .int .i64 0, .string ⟨#[]⟩] := by rw [hW]; exact Blk.new w _ _
  have hb0 : Below w.heap.size w W := by rw [hW]; exact below_box w _
  have HW := Lib.hid hW
  clear hW
  go_enter Try.func13, Try.ntmps13
  go_wp2_with fail
  rw [← HW.out]
  refine (HO.out _).mono ?_
  rintro e w1 ⟨rfl, hb1⟩
  have k2 := k1.below hb1 k1.lt
  have HB := Lib.hid (hb0.trans (hb1.mono hb0.size))
  have K2 := Lib.hid k2
  have hs' : (16 : Int) ≤ (b.size : Int) := by omega
  have HS0 : Hid (Blk w1.drew w.heap.size 30 #[.int .i64 0, .int .i64 0, .int .i64 0, .int .i64 0, .string ⟨#[]⟩] ∧ Below w.heap.size w w1.drew) := Lib.hid ⟨k2, HB.out.drew⟩
  have HS1 : Hid (∀ cs, Blk (w1.alloc (.cells cs 30)).drew w.heap.size 30 #[.int .i64 0, .int .i64 0, .int .i64 0, .int .i64 0, .string ⟨#[]⟩] ∧ Below w.heap.size w (w1.alloc (.cells cs 30)).drew) := Lib.hid fun cs => ⟨k2.alloc _, (HB.out.alloc HB.out.size _).drew⟩
  have HS2 : Hid (∀ cs, Blk (w1.alloc (.cells cs 30)) w.heap.size 30 #[.int .i64 0, .int .i64 0, .int .i64 0, .int .i64 0, .string ⟨#[]⟩] ∧ Below w.heap.size w (w1.alloc (.cells cs 30))) := Lib.hid fun cs => ⟨k2.alloc _, (HB.out.alloc HB.out.size _)⟩
  clear hb1 k1 k2 hb0
  go_wp2
  go_region_held3 (fun w' => Blk w' w.heap.size 30 #[.int .i64 0, .int .i64 0, .int .i64 0, .int .i64 0, .string ⟨#[]⟩] ∧ Below w.heap.size w w') (first | with_reducible exact HS0.out | with_reducible exact HS1.out _ | with_reducible exact HS2.out _ | assumption) ((go_at_call 28; refine (HG.out _ _ _ (by first | exact GAa.out | exact GAb.out | exact GAc.out | exact GAd.out) _).mono ?_; rintro e w5 ⟨rfl, rfl⟩))
  all_goals
    have HX := Lib.hid (Blk.new w1 30 #[.int .i64 N0, .int .i64 N1, .int .i64 N2, .int .i64 N3, .string B])
    obtain ⟨W6, hW6⟩ : ∃ W6, W6 = w1.alloc (.cells #[.int .i64 N0, .int .i64 N1, .int .i64 N2, .int .i64 N3, .string B] 30) := ⟨_, rfl⟩
    obtain ⟨X, hX⟩ : ∃ X, X = w1.heap.size := ⟨_, rfl⟩
    have PX : Hid (Blk W6.drew X 30 #[.int .i64 N0, .int .i64 N1, .int .i64 N2, .int .i64 N3, .string B]) := by show Blk _ _ _ _; rw [hW6, hX]; exact HX.out
    have PZ : Hid (Blk W6.drew w.heap.size 30 #[.int .i64 0, .int .i64 0, .int .i64 0, .int .i64 0, .string ⟨#[]⟩]) := by show Blk _ _ _ _; rw [hW6]; exact (HS1.out _).1
    have PB : Hid (Below w.heap.size w W6.drew) := by show Below _ _ _; rw [hW6]; exact (HS1.out _).2
    rw [← hW6, ← hX]
    clear hW6 hX HS0 HS1 HS2 HX K2 HB
    obtain ⟨⟨a0, a1, a2, a3, a4⟩, _⟩ := cells5 PX.out
    go_wp2_with fail
    refine (HWR.out _).mono ?_
    rintro e w7 ⟨rfl, hb7⟩
    obtain ⟨⟨b0, b1, b2, b3, b4⟩, _⟩ := cells5 (PX.out.below hb7 PX.out.lt)
    have pz7 := PZ.out.below hb7 PZ.out.lt
    obtain ⟨⟨y0, y1, y2, y3, y4⟩, f0, f1, f2, f3, f4⟩ := cells5 pz7
    have HZ7 := Lib.hid pz7
    have HB7 := Lib.hid (PB.out.trans (hb7.mono PB.out.size))
    clear hb7 pz7 a0 a1 a2 a3 a4
    go_wp2
    all_goals first | exact ret_cell_tmp rfl _ _ _ _ _ _ _ _ rfl rfl rfl (stored5 HZ7.out _ _ _ _ _) Try.underlying30 rfl (by kernel_rfl) ⟨rfl, stored5_below HB7.out (Nat.le_refl _) _ _ _ _ _⟩ | (exfalso; rename_i hh; revert hh; simp [hne])

set_option maxHeartbeats 4000000 in
theorem rread_page (t b B : ByteArray) (N0 N1 N2 N3 : Int) (hs : 16 ≤ b.size) (hB : b.extract 16 b.size = B) (HO : Hid (∀ w, Calls Try.prog 27 #[.string t] w fun e w' => e = .returned (.tuple #[.string b, .int .i64 0]) ∧ Below w.heap.size w w'))
    (HG : Hid (∀ x y v, GA N0 N1 N2 N3 x y v → ∀ w, Calls Try.prog 28 #[.string b, x, y] w fun e w' => e = .returned (.int .i64 v) ∧ w = w'))
    (HWR : Hid (∀ w, Calls Try.prog 11 #[.agg #[.int .i64 N0, .int .i64 N1, .int .i64 N2, .int .i64 N3, .string B]] w fun e w' => e = .returned (.tuple #[.string t, .int .i64 0]) ∧ Below w.heap.size w w')) (w : World) :
    Calls Try.prog 13 #[.string t] w fun e w' => e = .returned (.tuple #[.agg #[.int .i64 N0, .int .i64 N1, .int .i64 N2, .int .i64 N3, .string B], .int .i64 0]) ∧ Below w.heap.size w w' := by
  have GAa := Lib.hid (GA.a (N0 := N0) (N1 := N1) (N2 := N2) (N3 := N3))
  have GAb := Lib.hid (GA.b (N0 := N0) (N1 := N1) (N2 := N2) (N3 := N3))
  have GAc := Lib.hid (GA.c (N0 := N0) (N1 := N1) (N2 := N2) (N3 := N3))
  have GAd := Lib.hid (GA.d (N0 := N0) (N1 := N1) (N2 := N2) (N3 := N3))
  obtain ⟨W, hW⟩ : ∃ W, W = w.alloc (.cells #[.int .i64 0, .int .i64 0, .int .i64 0, .int .i64 0, .string ⟨#[]⟩] 30) := ⟨_, rfl⟩
  have k1 : Blk W w.heap.size 30 #[.int .i64 0, .int .i64 0, .int .i64 0, .int .i64 0, .string ⟨#[]⟩] := by rw [hW]; exact Blk.new w _ _
  have hb0 : Below w.heap.size w W := by rw [hW]; exact below_box w _
  have HW := Lib.hid hW
  clear hW
  go_enter Try.func13, Try.ntmps13
  go_wp2_with fail
  rw [← HW.out]
  refine (HO.out _).mono ?_
  rintro e w1 ⟨rfl, hb1⟩
  have k2 := k1.below hb1 k1.lt
  have HB := Lib.hid (hb0.trans (hb1.mono hb0.size))
  have K2 := Lib.hid k2
  have hs' : (16 : Int) ≤ (b.size : Int) := by omega
  have HS0 : Hid (Blk w1.drew w.heap.size 30 #[.int .i64 0, .int .i64 0, .int .i64 0, .int .i64 0, .string ⟨#[]⟩] ∧ Below w.heap.size w w1.drew) := Lib.hid ⟨k2, HB.out.drew⟩
  have HS1 : Hid (∀ cs, Blk (w1.alloc (.cells cs 30)).drew w.heap.size 30 #[.int .i64 0, .int .i64 0, .int .i64 0, .int .i64 0, .string ⟨#[]⟩] ∧ Below w.heap.size w (w1.alloc (.cells cs 30)).drew) := Lib.hid fun cs => ⟨k2.alloc _, (HB.out.alloc HB.out.size _).drew⟩
  have HS2 : Hid (∀ cs, Blk (w1.alloc (.cells cs 30)) w.heap.size 30 #[.int .i64 0, .int .i64 0, .int .i64 0, .int .i64 0, .string ⟨#[]⟩] ∧ Below w.heap.size w (w1.alloc (.cells cs 30))) := Lib.hid fun cs => ⟨k2.alloc _, (HB.out.alloc HB.out.size _)⟩
  clear hb1 k1 k2 hb0
  go_wp2
  go_region_held3 (fun w' => Blk w' w.heap.size 30 #[.int .i64 0, .int .i64 0, .int .i64 0, .int .i64 0, .string ⟨#[]⟩] ∧ Below w.heap.size w w') (first | with_reducible exact HS0.out | with_reducible exact HS1.out _ | with_reducible exact HS2.out _ | assumption) ((go_at_call 28; refine (HG.out _ _ _ (by first | exact GAa.out | exact GAb.out | exact GAc.out | exact GAd.out) _).mono ?_; rintro e w5 ⟨rfl, rfl⟩))
  all_goals
    have HX := Lib.hid (Blk.new w1 30 #[.int .i64 N0, .int .i64 N1, .int .i64 N2, .int .i64 N3, .string B])
    obtain ⟨W6, hW6⟩ : ∃ W6, W6 = w1.alloc (.cells #[.int .i64 N0, .int .i64 N1, .int .i64 N2, .int .i64 N3, .string B] 30) := ⟨_, rfl⟩
    obtain ⟨X, hX⟩ : ∃ X, X = w1.heap.size := ⟨_, rfl⟩
    have PX : Hid (Blk W6.drew X 30 #[.int .i64 N0, .int .i64 N1, .int .i64 N2, .int .i64 N3, .string B]) := by show Blk _ _ _ _; rw [hW6, hX]; exact HX.out
    have PZ : Hid (Blk W6.drew w.heap.size 30 #[.int .i64 0, .int .i64 0, .int .i64 0, .int .i64 0, .string ⟨#[]⟩]) := by show Blk _ _ _ _; rw [hW6]; exact (HS1.out _).1
    have PB : Hid (Below w.heap.size w W6.drew) := by show Below _ _ _; rw [hW6]; exact (HS1.out _).2
    rw [← hW6, ← hX]
    clear hW6 hX HS0 HS1 HS2 HX K2 HB
    obtain ⟨⟨a0, a1, a2, a3, a4⟩, _⟩ := cells5 PX.out
    go_wp2_with fail
    refine (HWR.out _).mono ?_
    rintro e w7 ⟨rfl, hb7⟩
    obtain ⟨⟨b0, b1, b2, b3, b4⟩, _⟩ := cells5 (PX.out.below hb7 PX.out.lt)
    have pz7 := PZ.out.below hb7 PZ.out.lt
    obtain ⟨⟨y0, y1, y2, y3, y4⟩, f0, f1, f2, f3, f4⟩ := cells5 pz7
    have HZ7 := Lib.hid pz7
    have HB7 := Lib.hid (PB.out.trans (hb7.mono PB.out.size))
    clear hb7 pz7 a0 a1 a2 a3 a4
    go_wp2
    all_goals first | exact ret_cell_tmp rfl _ _ _ _ _ _ _ _ rfl rfl rfl (stored5 HZ7.out _ _ _ _ _) Try.underlying30 rfl (by kernel_rfl) ⟨rfl, stored5_below HB7.out (Nat.le_refl _) _ _ _ _ _⟩ | (exfalso; rename_i hh; revert hh; simp [hne])

theorem gets_any (b : ByteArray) (hl : b.size ≤ 140737488355328) (hs : 16 ≤ b.size) : ∀ x y v, GA (dec b.data.toList).kind (dec b.data.toList).space (dec b.data.toList).key (dec b.data.toList).seq x y v → ∀ w, Calls Try.prog 28 #[.string b, x, y] w fun e w' => e = .returned (.int .i64 v) ∧ w = w' := by
  intro x y v h w
  cases h
  · exact rget1 b hl 2 1 (by decide) (by decide) (by omega) w
  · exact rget1 b hl 3 2 (by decide) (by decide) (by omega) w
  · exact rget1 b hl 5 4 (by decide) (by decide) (by omega) w
  · exact rget1 b hl 9 6 (by decide) (by decide) (by omega) w
theorem rread_any {t : ByteArray} {q : Pg} {n : Int} (h : Ans t q n) (hl : t.size ≤ 140737488351232) (w : World) :
    Calls Try.prog 13 #[.string t] w fun e w' => e = .returned (.tuple #[.agg #[.int .i64 q.kind, .int .i64 q.space, .int .i64 q.key, .int .i64 q.seq, .string q.body], .int .i64 n]) ∧ Below w.heap.size w w' := by
  cases h with
  | short h => exact rread_err t 5 (by decide) (Lib.hid fun w => (ropen_short t h w).mono fun e w' h => ⟨h.1, h.2 ▸ Below.refl _ _⟩) w
  | sum h4 h => exact rread_err t 6 (by decide) (Lib.hid (ropen_bad t (by omega) h4 h)) w
  | form h4 h hf =>
    have HO := Lib.hid (ropen_ok t (by omega) h4 h)
    obtain ⟨b, hb⟩ : ∃ b, b = str (CM.body t.data.toList) := ⟨_, rfl⟩
    have hd : b.data.toList = CM.body t.data.toList := by rw [hb, data_str]
    have hbs : b.size ≤ 140737488351232 := by rw [hb]; exact body_size t hl
    rw [← hd] at hf
    rw [← hb] at HO
    rcases Nat.lt_or_ge b.size 16 with h2 | h2
    · exact rread_short t b h2 HO w
    · by_cases hm : May (dec b.data.toList)
      · refine rread_other t b (dec b.data.toList).body (str (bytes (dec b.data.toList))) _ _ _ _ ?_ h2 (ext_from b 16) HO (Lib.hid (gets_any b (by omega) h2)) (Lib.hid (rwrite_yes _ hm)) w
        intro he
        rw [str_toList, ByteArray.toList_eq] at he
        apply hf
        have e1 : CM.body (bytes (dec b.data.toList)) = lay (dec b.data.toList) := by rw [bytes, body_sealed]
        rw [he, ← hd] at e1
        have := laid_lay hm
        rwa [← e1] at this
      · exact rread_may t b (dec b.data.toList).body _ _ _ _ h2 (ext_from b 16) HO (Lib.hid (gets_any b (by omega) h2)) (Lib.hid (rwrite_no _ hm)) w
  | page h4 h hf =>
    have hb2 := (ans_page (Ans.page h4 h hf)).2
    have HO := Lib.hid (ropen_ok t (by omega) h4 h)
    obtain ⟨b, hb⟩ : ∃ b, b = str (CM.body t.data.toList) := ⟨_, rfl⟩
    have hd : b.data.toList = CM.body t.data.toList := by rw [hb, data_str]
    have hbs : b.size ≤ 140737488351232 := by rw [hb]; exact body_size t hl
    have hHW := rwrite_yes _ hf.2
    rw [hb2] at hHW
    rw [← hd] at hf hHW ⊢
    rw [← hb] at HO
    have h2 : 16 ≤ b.size := by have := hf.1.2.1; rwa [len_size] at this
    exact rread_page t b (dec b.data.toList).body _ _ _ _ h2 (ext_from b 16) HO (Lib.hid (gets_any b (by omega) h2)) (Lib.hid hHW) w
end PG
end Go.Proofs.Ytolcacmkageidaa
