/- What scoriaref05.Newer answers: of any two pages. No condition. -/
import Derived.Test.YtolcacmkageidaaPgN
namespace Go.Proofs.Ytolcacmkageidaa
open Go.RowKit
namespace PG
open FM MM
set_option linter.unusedVariables false
set_option linter.unusedSimpArgs false

set_option maxHeartbeats 2000000 in
theorem rnewer_a (k s y q k' s' y' q' : Int) (b b' : ByteArray)  (w : World) (HA : Hid (∀ w, Calls Try.prog 22 #[.agg #[.int .i64 k, .int .i64 s, .int .i64 y, .int .i64 q, .string b]] w fun e w' => e = .returned (.bool false) ∧ Below w.heap.size w w')) :
    Calls Try.prog 15 #[.agg #[.int .i64 k, .int .i64 s, .int .i64 y, .int .i64 q, .string b], .agg #[.int .i64 k', .int .i64 s', .int .i64 y', .int .i64 q', .string b']] w fun e w' => e = .returned (.bool false) ∧ Below w.heap.size w w' := by
  obtain ⟨w0, hw0⟩ : ∃ w0, w0 = (w.alloc (.cells #[.int .i64 k, .int .i64 s, .int .i64 y, .int .i64 q, .string b] 30)).alloc (.cells #[.int .i64 k', .int .i64 s', .int .i64 y', .int .i64 q', .string b'] 30) := ⟨_, rfl⟩
  have h0 := box2_at w k s y q k' s' y' q' b b' 30 w0 hw0
  have HW0 := Lib.hid hw0
  clear hw0
  go_enter Try.func15, Try.ntmps15
  go_wp2_with fail
  rw [← HW0.out]
  refine (HA.out _).mono ?_
  rintro e w1 ⟨rfl, hb1⟩
  have h1 := keep2 w k s y q k' s' y' q' b b' h0 hb1
  obtain ⟨p0, p1, p2, p3, p4, r0, r1, r2, r3, r4, _, hbel1⟩ := id h1
  have H1 := Lib.hid h1
  have HBL1 := Lib.hid hbel1
  clear hb1 h0 h1 hbel1
  go_wp2
  all_goals go_ret
  all_goals exact ⟨rfl, HBL1.out⟩

set_option maxHeartbeats 2000000 in
theorem rnewer_b (k s y q k' s' y' q' : Int) (b b' : ByteArray)  (w : World) (HA : Hid (∀ w, Calls Try.prog 22 #[.agg #[.int .i64 k, .int .i64 s, .int .i64 y, .int .i64 q, .string b]] w fun e w' => e = .returned (.bool true) ∧ Below w.heap.size w w')) (HB : Hid (∀ w, Calls Try.prog 22 #[.agg #[.int .i64 k', .int .i64 s', .int .i64 y', .int .i64 q', .string b']] w fun e w' => e = .returned (.bool false) ∧ Below w.heap.size w w')) :
    Calls Try.prog 15 #[.agg #[.int .i64 k, .int .i64 s, .int .i64 y, .int .i64 q, .string b], .agg #[.int .i64 k', .int .i64 s', .int .i64 y', .int .i64 q', .string b']] w fun e w' => e = .returned (.bool false) ∧ Below w.heap.size w w' := by
  obtain ⟨w0, hw0⟩ : ∃ w0, w0 = (w.alloc (.cells #[.int .i64 k, .int .i64 s, .int .i64 y, .int .i64 q, .string b] 30)).alloc (.cells #[.int .i64 k', .int .i64 s', .int .i64 y', .int .i64 q', .string b'] 30) := ⟨_, rfl⟩
  have h0 := box2_at w k s y q k' s' y' q' b b' 30 w0 hw0
  have HW0 := Lib.hid hw0
  clear hw0
  go_enter Try.func15, Try.ntmps15
  go_wp2_with fail
  rw [← HW0.out]
  refine (HA.out _).mono ?_
  rintro e w1 ⟨rfl, hb1⟩
  have h1 := keep2 w k s y q k' s' y' q' b b' h0 hb1
  obtain ⟨p0, p1, p2, p3, p4, r0, r1, r2, r3, r4, _, hbel1⟩ := id h1
  have H1 := Lib.hid h1
  have HBL1 := Lib.hid hbel1
  clear hb1 h0 h1 hbel1
  go_wp2_with fail
  refine (HB.out _).mono ?_
  rintro e w2 ⟨rfl, hb2⟩
  have h2 := keep2 w k s y q k' s' y' q' b b' H1.out hb2
  obtain ⟨c0, c1, c2, c3, c4, d0, d1, d2, d3, d4, _, hbel⟩ := h2
  have HBL := Lib.hid hbel
  clear hb2 hbel
  go_wp2
  all_goals go_ret
  all_goals exact ⟨rfl, HBL.out⟩

set_option maxHeartbeats 2000000 in
theorem rnewer_k (k s y q k' s' y' q' : Int) (b b' : ByteArray) (hne : (k == k') = false) (w : World) (HA : Hid (∀ w, Calls Try.prog 22 #[.agg #[.int .i64 k, .int .i64 s, .int .i64 y, .int .i64 q, .string b]] w fun e w' => e = .returned (.bool true) ∧ Below w.heap.size w w')) (HB : Hid (∀ w, Calls Try.prog 22 #[.agg #[.int .i64 k', .int .i64 s', .int .i64 y', .int .i64 q', .string b']] w fun e w' => e = .returned (.bool true) ∧ Below w.heap.size w w')) :
    Calls Try.prog 15 #[.agg #[.int .i64 k, .int .i64 s, .int .i64 y, .int .i64 q, .string b], .agg #[.int .i64 k', .int .i64 s', .int .i64 y', .int .i64 q', .string b']] w fun e w' => e = .returned (.bool false) ∧ Below w.heap.size w w' := by
  obtain ⟨w0, hw0⟩ : ∃ w0, w0 = (w.alloc (.cells #[.int .i64 k, .int .i64 s, .int .i64 y, .int .i64 q, .string b] 30)).alloc (.cells #[.int .i64 k', .int .i64 s', .int .i64 y', .int .i64 q', .string b'] 30) := ⟨_, rfl⟩
  have h0 := box2_at w k s y q k' s' y' q' b b' 30 w0 hw0
  have HW0 := Lib.hid hw0
  clear hw0
  go_enter Try.func15, Try.ntmps15
  go_wp2_with fail
  rw [← HW0.out]
  refine (HA.out _).mono ?_
  rintro e w1 ⟨rfl, hb1⟩
  have h1 := keep2 w k s y q k' s' y' q' b b' h0 hb1
  obtain ⟨p0, p1, p2, p3, p4, r0, r1, r2, r3, r4, _, hbel1⟩ := id h1
  have H1 := Lib.hid h1
  have HBL1 := Lib.hid hbel1
  clear hb1 h0 h1 hbel1
  go_wp2_with fail
  refine (HB.out _).mono ?_
  rintro e w2 ⟨rfl, hb2⟩
  have h2 := keep2 w k s y q k' s' y' q' b b' H1.out hb2
  obtain ⟨c0, c1, c2, c3, c4, d0, d1, d2, d3, d4, _, hbel⟩ := h2
  have HBL := Lib.hid hbel
  clear hb2 hbel
  go_wp2
  all_goals go_ret
  all_goals exact ⟨rfl, HBL.out⟩

set_option maxHeartbeats 2000000 in
theorem rnewer_s (k s y q s' y' q' : Int) (b b' : ByteArray) (hne : (s == s') = false) (w : World) (HA : Hid (∀ w, Calls Try.prog 22 #[.agg #[.int .i64 k, .int .i64 s, .int .i64 y, .int .i64 q, .string b]] w fun e w' => e = .returned (.bool true) ∧ Below w.heap.size w w')) (HB : Hid (∀ w, Calls Try.prog 22 #[.agg #[.int .i64 k, .int .i64 s', .int .i64 y', .int .i64 q', .string b']] w fun e w' => e = .returned (.bool true) ∧ Below w.heap.size w w')) :
    Calls Try.prog 15 #[.agg #[.int .i64 k, .int .i64 s, .int .i64 y, .int .i64 q, .string b], .agg #[.int .i64 k, .int .i64 s', .int .i64 y', .int .i64 q', .string b']] w fun e w' => e = .returned (.bool false) ∧ Below w.heap.size w w' := by
  obtain ⟨w0, hw0⟩ : ∃ w0, w0 = (w.alloc (.cells #[.int .i64 k, .int .i64 s, .int .i64 y, .int .i64 q, .string b] 30)).alloc (.cells #[.int .i64 k, .int .i64 s', .int .i64 y', .int .i64 q', .string b'] 30) := ⟨_, rfl⟩
  have h0 := box2_at w k s y q k s' y' q' b b' 30 w0 hw0
  have HW0 := Lib.hid hw0
  clear hw0
  go_enter Try.func15, Try.ntmps15
  go_wp2_with fail
  rw [← HW0.out]
  refine (HA.out _).mono ?_
  rintro e w1 ⟨rfl, hb1⟩
  have h1 := keep2 w k s y q k s' y' q' b b' h0 hb1
  obtain ⟨p0, p1, p2, p3, p4, r0, r1, r2, r3, r4, _, hbel1⟩ := id h1
  have H1 := Lib.hid h1
  have HBL1 := Lib.hid hbel1
  clear hb1 h0 h1 hbel1
  go_wp2_with fail
  refine (HB.out _).mono ?_
  rintro e w2 ⟨rfl, hb2⟩
  have h2 := keep2 w k s y q k s' y' q' b b' H1.out hb2
  obtain ⟨c0, c1, c2, c3, c4, d0, d1, d2, d3, d4, _, hbel⟩ := h2
  have HBL := Lib.hid hbel
  clear hb2 hbel
  go_wp2
  all_goals go_ret
  all_goals exact ⟨rfl, HBL.out⟩

set_option maxHeartbeats 2000000 in
theorem rnewer_y (k s y q y' q' : Int) (b b' : ByteArray) (hne : (y == y') = false) (w : World) (HA : Hid (∀ w, Calls Try.prog 22 #[.agg #[.int .i64 k, .int .i64 s, .int .i64 y, .int .i64 q, .string b]] w fun e w' => e = .returned (.bool true) ∧ Below w.heap.size w w')) (HB : Hid (∀ w, Calls Try.prog 22 #[.agg #[.int .i64 k, .int .i64 s, .int .i64 y', .int .i64 q', .string b']] w fun e w' => e = .returned (.bool true) ∧ Below w.heap.size w w')) :
    Calls Try.prog 15 #[.agg #[.int .i64 k, .int .i64 s, .int .i64 y, .int .i64 q, .string b], .agg #[.int .i64 k, .int .i64 s, .int .i64 y', .int .i64 q', .string b']] w fun e w' => e = .returned (.bool false) ∧ Below w.heap.size w w' := by
  obtain ⟨w0, hw0⟩ : ∃ w0, w0 = (w.alloc (.cells #[.int .i64 k, .int .i64 s, .int .i64 y, .int .i64 q, .string b] 30)).alloc (.cells #[.int .i64 k, .int .i64 s, .int .i64 y', .int .i64 q', .string b'] 30) := ⟨_, rfl⟩
  have h0 := box2_at w k s y q k s y' q' b b' 30 w0 hw0
  have HW0 := Lib.hid hw0
  clear hw0
  go_enter Try.func15, Try.ntmps15
  go_wp2_with fail
  rw [← HW0.out]
  refine (HA.out _).mono ?_
  rintro e w1 ⟨rfl, hb1⟩
  have h1 := keep2 w k s y q k s y' q' b b' h0 hb1
  obtain ⟨p0, p1, p2, p3, p4, r0, r1, r2, r3, r4, _, hbel1⟩ := id h1
  have H1 := Lib.hid h1
  have HBL1 := Lib.hid hbel1
  clear hb1 h0 h1 hbel1
  go_wp2_with fail
  refine (HB.out _).mono ?_
  rintro e w2 ⟨rfl, hb2⟩
  have h2 := keep2 w k s y q k s y' q' b b' H1.out hb2
  obtain ⟨c0, c1, c2, c3, c4, d0, d1, d2, d3, d4, _, hbel⟩ := h2
  have HBL := Lib.hid hbel
  clear hb2 hbel
  go_wp2
  all_goals go_ret
  all_goals exact ⟨rfl, HBL.out⟩

set_option maxHeartbeats 2000000 in
theorem rnewer_d (k s y q q' : Int) (b b' : ByteArray)  (w : World) (HA : Hid (∀ w, Calls Try.prog 22 #[.agg #[.int .i64 k, .int .i64 s, .int .i64 y, .int .i64 q, .string b]] w fun e w' => e = .returned (.bool true) ∧ Below w.heap.size w w')) (HB : Hid (∀ w, Calls Try.prog 22 #[.agg #[.int .i64 k, .int .i64 s, .int .i64 y, .int .i64 q', .string b']] w fun e w' => e = .returned (.bool true) ∧ Below w.heap.size w w')) :
    Calls Try.prog 15 #[.agg #[.int .i64 k, .int .i64 s, .int .i64 y, .int .i64 q, .string b], .agg #[.int .i64 k, .int .i64 s, .int .i64 y, .int .i64 q', .string b']] w fun e w' => e = .returned (.bool (decide (q' < q))) ∧ Below w.heap.size w w' := by
  obtain ⟨w0, hw0⟩ : ∃ w0, w0 = (w.alloc (.cells #[.int .i64 k, .int .i64 s, .int .i64 y, .int .i64 q, .string b] 30)).alloc (.cells #[.int .i64 k, .int .i64 s, .int .i64 y, .int .i64 q', .string b'] 30) := ⟨_, rfl⟩
  have h0 := box2_at w k s y q k s y q' b b' 30 w0 hw0
  have HW0 := Lib.hid hw0
  clear hw0
  go_enter Try.func15, Try.ntmps15
  go_wp2_with fail
  rw [← HW0.out]
  refine (HA.out _).mono ?_
  rintro e w1 ⟨rfl, hb1⟩
  have h1 := keep2 w k s y q k s y q' b b' h0 hb1
  obtain ⟨p0, p1, p2, p3, p4, r0, r1, r2, r3, r4, _, hbel1⟩ := id h1
  have H1 := Lib.hid h1
  have HBL1 := Lib.hid hbel1
  clear hb1 h0 h1 hbel1
  go_wp2_with fail
  refine (HB.out _).mono ?_
  rintro e w2 ⟨rfl, hb2⟩
  have h2 := keep2 w k s y q k s y q' b b' H1.out hb2
  obtain ⟨c0, c1, c2, c3, c4, d0, d1, d2, d3, d4, _, hbel⟩ := h2
  have HBL := Lib.hid hbel
  clear hb2 hbel
  go_wp2
  all_goals go_ret
  all_goals exact ⟨rfl, HBL.out⟩

/-- .. any two pages. -/
theorem rnewer_any (a b : Pg) (w : World) : Calls Try.prog 15 #[.agg #[.int .i64 a.kind, .int .i64 a.space, .int .i64 a.key, .int .i64 a.seq, .string a.body], .agg #[.int .i64 b.kind, .int .i64 b.space, .int .i64 b.key, .int .i64 b.seq, .string b.body]] w fun e w' => e = .returned (.bool (decide (Nw a b))) ∧ Below w.heap.size w w' := by
  by_cases ha : May a
  · have HA := Lib.hid (rmay_yes a ha)
    by_cases hb : May b
    · have HB := Lib.hid (rmay_yes b hb)
      obtain ⟨k, s, y, q, t⟩ := a
      obtain ⟨k', s', y', q', t'⟩ := b
      by_cases h1 : k = k'
      · subst h1
        by_cases h2 : s = s'
        · subst h2
          by_cases h3 : y = y'
          · subst h3
            have e : decide (Nw ⟨k, s, y, q, t⟩ ⟨k, s, y, q', t'⟩) = decide (q' < q) := by
              apply decide_eq_decide.2
              exact ⟨fun h => h.2.2.2.2.2, fun h => ⟨ha, hb, rfl, rfl, rfl, h⟩⟩
            rw [e]
            exact rnewer_d k s y q q' t t' w HA HB
          · rw [decide_eq_false (show ¬ Nw ⟨k, s, y, q, t⟩ ⟨k, s, y', q', t'⟩ from fun h => h3 h.2.2.2.2.1)]
            exact rnewer_y k s y q y' q' t t' (by simpa using h3) w HA HB
        · rw [decide_eq_false (show ¬ Nw ⟨k, s, y, q, t⟩ ⟨k, s', y', q', t'⟩ from fun h => h2 h.2.2.2.1)]
          exact rnewer_s k s y q s' y' q' t t' (by simpa using h2) w HA HB
      · rw [decide_eq_false (show ¬ Nw ⟨k, s, y, q, t⟩ ⟨k', s', y', q', t'⟩ from fun h => h1 h.2.2.1)]
        exact rnewer_k k s y q k' s' y' q' t t' (by simpa using h1) w HA HB
    · rw [decide_eq_false (show ¬ Nw a b from fun h => hb h.2.1)]
      exact rnewer_b _ _ _ _ _ _ _ _ _ _ w HA (Lib.hid (rmay_no b hb))
  · rw [decide_eq_false (show ¬ Nw a b from fun h => ha h.1)]
    exact rnewer_a _ _ _ _ _ _ _ _ _ _ w (Lib.hid (rmay_no a ha))
end PG
end Go.Proofs.Ytolcacmkageidaa
