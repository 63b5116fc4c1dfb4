/- What page.Read answers: of any bytes. Condition: no text is longer than 2^47 bytes. -/
import Derived.Test.YtolcacmkageidacDoorPgD
namespace Go.Proofs.YtolcacmkageidacDoor
open Go.RowKit
namespace PG
open FM CM MM
set_option linter.unusedVariables false
set_option linter.unusedSimpArgs false

/-- What parse answers of bytes that are no page's: no. -/
theorem parse_no (t : ByteArray) (hl : t.size ≤ 140737488351232) (h : ¬ Laid t.data.toList) (w : World) :
    Calls Tryd.prog 30 #[.string t] w fun e w' => ∃ q : Pg, e = .returned (.tuple #[.agg #[.int .i64 q.kind, .int .i64 q.space, .int .i64 q.key, .int .i64 q.seq, .string q.body], .bool false]) ∧ Below w.heap.size w w' := by
  by_cases h1 : t.data.toList.take 2 = [83, 99]
  · rcases Nat.lt_or_ge t.size 16 with h2 | h2
    · exact (parse_short t hl h1 h2 w).mono fun e w' h => ⟨Pg.zero, h.1, h.2⟩
    · by_cases h3 : val ((t.data.toList.drop 15).take 1) = t.size - 16
      · have hm : ¬ May (dec t.data.toList) := fun hm => h ⟨⟨h1, by rw [len_size]; exact h2, by rw [len_size]; exact h3⟩, hm⟩
        exact (parse_fit t hl h1 h2 h3 false (Lib.hid (maybe_no _ hm)) w).mono fun e w' h => ⟨dec t.data.toList, h.1, h.2⟩
      · exact (parse_len t hl h1 h2 h3 w).mono fun e w' h => ⟨Pg.zero, h.1, h.2⟩
  · exact (parse_unmarked t hl h1 w).mono fun e w' h => ⟨Pg.zero, h.1, h.2⟩
theorem parse_yes (t : ByteArray) (hl : t.size ≤ 140737488351232) (h : Laid t.data.toList) (w : World) :
    Calls Tryd.prog 30 #[.string t] w fun e w' => e = .returned (.tuple #[.agg #[.int .i64 (dec t.data.toList).kind, .int .i64 (dec t.data.toList).space, .int .i64 (dec t.data.toList).key, .int .i64 (dec t.data.toList).seq, .string (dec t.data.toList).body], .bool true]) ∧ Below w.heap.size w w' :=
  parse_fit t hl h.1.1 (by have := h.1.2.1; rwa [len_size] at this) (by have := h.1.2.2; rwa [len_size] at this) true (Lib.hid (maybe_yes _ h.2)) w

/-- Bytes whose sum does not fit, or that have none: Open's own error. -/
theorem read_err (t : ByteArray) (n : Int) (hn : ¬ n = 0) (HO : Hid (∀ w, Calls Tryd.prog 29 #[.string t] w fun e w' => e = .returned (.tuple #[.string ⟨#[]⟩, .int .i64 n]) ∧ Below w.heap.size w w')) (w : World) :
    Calls Tryd.prog 14 #[.string t] w fun e w' => e = .returned (.tuple #[.agg #[.int .i64 0, .int .i64 0, .int .i64 0, .int .i64 0, .string ⟨#[]⟩], .int .i64 n]) ∧ Below w.heap.size w w' := by
  obtain ⟨W, hW⟩ : ∃ W, W = w.alloc (.cells #[.int .i64 0, .int .i64 0, .int .i64 0, .int .i64 0, .string ⟨#[]⟩] 23) := ⟨_, rfl⟩
  have k1 : Blk W w.heap.size 23 #[.int .i64 0, .int .i64 0, .int .i64 0, .int .i64 0, .string ⟨#[]⟩] := by rw [hW]; exact Blk.new w _ _
  have hb0 : Below w.heap.size w W := by rw [hW]; exact below_box w _
  have HW := Lib.hid hW
  clear hW
  go_enter Tryd.func14, Tryd.ntmps14
  go_wp2_with fail
  rw [← HW.out]
  refine (HO.out _).mono ?_
  rintro e w1 ⟨rfl, hb1⟩
  have k2 := k1.below hb1 k1.lt
  obtain ⟨⟨z0, z1, z2, z3, z4⟩, f0, f1, f2, f3, f4⟩ := cells5 k2
  have HB := Lib.hid (hb0.trans (hb1.mono hb0.size))
  have K2 := Lib.hid k2
  clear hb1 k1 k2 hb0
  go_wp2
  exact ret_cell_tmp rfl _ _ _ _ _ _ _ _ rfl rfl rfl (stored5 K2.out _ _ _ _ _) Tryd.underlying23 rfl (by kernel_rfl) ⟨rfl, stored5_below HB.out (Nat.le_refl _) _ _ _ _ _⟩

set_option maxHeartbeats 1000000 in
/-- A sum that fits, over what is no page's. -/
theorem read_form (t b : ByteArray) (HO : Hid (∀ w, Calls Tryd.prog 29 #[.string t] w fun e w' => e = .returned (.tuple #[.string b, .int .i64 0]) ∧ Below w.heap.size w w'))
    (HP : Hid (∀ w, Calls Tryd.prog 30 #[.string b] w fun e w' => ∃ q : Pg, e = .returned (.tuple #[.agg #[.int .i64 q.kind, .int .i64 q.space, .int .i64 q.key, .int .i64 q.seq, .string q.body], .bool false]) ∧ Below w.heap.size w w')) (w : World) :
    Calls Tryd.prog 14 #[.string t] w fun e w' => e = .returned (.tuple #[.agg #[.int .i64 0, .int .i64 0, .int .i64 0, .int .i64 0, .string ⟨#[]⟩], .int .i64 3]) ∧ Below w.heap.size w w' := by
  obtain ⟨W, hW⟩ : ∃ W, W = w.alloc (.cells #[.int .i64 0, .int .i64 0, .int .i64 0, .int .i64 0, .string ⟨#[]⟩] 23) := ⟨_, rfl⟩
  have k1 : Blk W w.heap.size 23 #[.int .i64 0, .int .i64 0, .int .i64 0, .int .i64 0, .string ⟨#[]⟩] := by rw [hW]; exact Blk.new w _ _
  have hb0 : Below w.heap.size w W := by rw [hW]; exact below_box w _
  have HW := Lib.hid hW
  clear hW
  go_enter Tryd.func14, Tryd.ntmps14
  go_wp2_with fail
  rw [← HW.out]
  refine (HO.out _).mono ?_
  rintro e w1 ⟨rfl, hb1⟩
  have HB := Lib.hid (hb0.trans (hb1.mono hb0.size))
  have K2 := Lib.hid (k1.below hb1 k1.lt)
  clear hb1 k1 hb0
  go_wp2_with fail
  refine (HP.out _).mono ?_
  rintro e w2 ⟨⟨q0, q1, q2, q3, q4⟩, rfl, hb2⟩
  have k3 := (K2.out.below hb2 K2.out.lt).alloc (.cells #[.int .i64 q0, .int .i64 q1, .int .i64 q2, .int .i64 q3, .string q4] 23)
  obtain ⟨⟨z0, z1, z2, z3, z4⟩, f0, f1, f2, f3, f4⟩ := cells5 k3
  have hbb := HB.out.trans (hb2.mono HB.out.size)
  have HB3 := Lib.hid (hbb.alloc hbb.size (.cells #[.int .i64 q0, .int .i64 q1, .int .i64 q2, .int .i64 q3, .string q4] 23))
  have K3 := Lib.hid k3
  clear hb2 hbb k3
  go_wp2
  exact ret_cell_tmp rfl _ _ _ _ _ _ _ _ rfl rfl rfl (stored5 K3.out _ _ _ _ _) Tryd.underlying23 rfl (by kernel_rfl) ⟨rfl, stored5_below HB3.out (Nat.le_refl _) _ _ _ _ _⟩

set_option maxHeartbeats 1000000 in
theorem read_page (t b : ByteArray) (q0 q1 q2 q3 : Int) (q4 : ByteArray) (HO : Hid (∀ w, Calls Tryd.prog 29 #[.string t] w fun e w' => e = .returned (.tuple #[.string b, .int .i64 0]) ∧ Below w.heap.size w w'))
    (HP : Hid (∀ w, Calls Tryd.prog 30 #[.string b] w fun e w' => e = .returned (.tuple #[.agg #[.int .i64 q0, .int .i64 q1, .int .i64 q2, .int .i64 q3, .string q4], .bool true]) ∧ Below w.heap.size w w')) (w : World) :
    Calls Tryd.prog 14 #[.string t] w fun e w' => e = .returned (.tuple #[.agg #[.int .i64 q0, .int .i64 q1, .int .i64 q2, .int .i64 q3, .string q4], .int .i64 0]) ∧ Below w.heap.size w w' := by
  obtain ⟨W, hW⟩ : ∃ W, W = w.alloc (.cells #[.int .i64 0, .int .i64 0, .int .i64 0, .int .i64 0, .string ⟨#[]⟩] 23) := ⟨_, rfl⟩
  have k1 : Blk W w.heap.size 23 #[.int .i64 0, .int .i64 0, .int .i64 0, .int .i64 0, .string ⟨#[]⟩] := by rw [hW]; exact Blk.new w _ _
  have hb0 : Below w.heap.size w W := by rw [hW]; exact below_box w _
  have HW := Lib.hid hW
  clear hW
  go_enter Tryd.func14, Tryd.ntmps14
  go_wp2_with fail
  rw [← HW.out]
  refine (HO.out _).mono ?_
  rintro e w1 ⟨rfl, hb1⟩
  have HB := Lib.hid (hb0.trans (hb1.mono hb0.size))
  have K2 := Lib.hid (k1.below hb1 k1.lt)
  clear hb1 k1 hb0
  go_wp2_with fail
  refine (HP.out _).mono ?_
  rintro e w2 ⟨rfl, hb2⟩
  have k3 := (K2.out.below hb2 K2.out.lt).alloc (.cells #[.int .i64 q0, .int .i64 q1, .int .i64 q2, .int .i64 q3, .string q4] 23)
  obtain ⟨⟨z0, z1, z2, z3, z4⟩, f0, f1, f2, f3, f4⟩ := cells5 k3
  have hbb := HB.out.trans (hb2.mono HB.out.size)
  have HB3 := Lib.hid (hbb.alloc hbb.size (.cells #[.int .i64 q0, .int .i64 q1, .int .i64 q2, .int .i64 q3, .string q4] 23))
  have K3 := Lib.hid k3
  clear hb2 hbb k3
  go_wp2
  exact ret_cell_tmp rfl _ _ _ _ _ _ _ _ rfl rfl rfl (stored5 K3.out _ _ _ _ _) Tryd.underlying23 rfl (by kernel_rfl) ⟨rfl, stored5_below HB3.out (Nat.le_refl _) _ _ _ _ _⟩

/-- How bytes are read: which error, or which page. -/
inductive Ans (t : ByteArray) : Pg → Int → Prop
  | short (h : t.size < 4) : Ans t Pg.zero 5
  | sum (h4 : 4 ≤ t.size) (h : ¬ sealOk t.data.toList) : Ans t Pg.zero 6
  | form (h4 : 4 ≤ t.size) (h : sealOk t.data.toList) (hf : ¬ Laid (CM.body t.data.toList)) : Ans t Pg.zero 3
  | page (h4 : 4 ≤ t.size) (h : sealOk t.data.toList) (hf : Laid (CM.body t.data.toList)) : Ans t (dec (CM.body t.data.toList)) 0
theorem ans_some (t : ByteArray) : ∃ q n, Ans t q n := by
  rcases Nat.lt_or_ge t.size 4 with h | h
  · exact ⟨_, _, .short h⟩
  · by_cases h1 : sealOk t.data.toList
    · by_cases h2 : Laid (CM.body t.data.toList)
      · exact ⟨_, _, .page h h1 h2⟩
      · exact ⟨_, _, .form h h1 h2⟩
    · exact ⟨_, _, .sum h h1⟩
theorem ans_page {t : ByteArray} {q : Pg} (h : Ans t q 0) : May q ∧ str (bytes q) = t := by
  generalize hn : (0 : Int) = n at h
  cases h with
  | short h => exact absurd hn (by decide)
  | sum h4 h => exact absurd hn (by decide)
  | form h4 h hf => exact absurd hn (by decide)
  | page h4 h hf => exact ⟨hf.2, by rw [bytes, lay_dec hf.1, sealed_body h, str_data]⟩
theorem ans_zero {t : ByteArray} {q : Pg} {n : Int} (h : Ans t q n) (hn : n ≠ 0) : q = Pg.zero := by
  cases h with
  | short h => rfl
  | sum h4 h => rfl
  | form h4 h hf => rfl
  | page h4 h hf => exact absurd rfl hn
/-- What was written is read. -/
theorem ans_bytes {p : Pg} (h : May p) : Ans (str (bytes p)) p 0 := by
  have e1 : (str (bytes p)).data.toList = sealed (lay p) := data_str _
  have e2 : CM.body (str (bytes p)).data.toList = lay p := by rw [e1, body_sealed]
  have := Ans.page (t := str (bytes p)) (by rw [str_size, bytes_len]; omega) (by rw [e1]; exact sealed_ok _) (by rw [e2]; exact laid_lay h)
  rwa [e2, dec_lay h] at this
theorem body_size (t : ByteArray) (h : t.size ≤ 140737488351232) : (str (CM.body t.data.toList)).size ≤ 140737488351232 := by
  rw [str_size, CM.body, List.length_take, CM.len_size]; omega
theorem read_any {t : ByteArray} {q : Pg} {n : Int} (h : Ans t q n) (hl : t.size ≤ 140737488351232) (w : World) :
    Calls Tryd.prog 14 #[.string t] w fun e w' => e = .returned (.tuple #[.agg #[.int .i64 q.kind, .int .i64 q.space, .int .i64 q.key, .int .i64 q.seq, .string q.body], .int .i64 n]) ∧ Below w.heap.size w w' := by
  cases h with
  | short h => exact read_err t 5 (by decide) (Lib.hid fun w => (open_short t h w).mono fun e w' h => ⟨h.1, h.2 ▸ Below.refl _ _⟩) w
  | sum h4 h => exact read_err t 6 (by decide) (Lib.hid (open_bad t (by omega) h4 h)) w
  | form h4 h hf => exact read_form t _ (Lib.hid (open_ok t (by omega) h4 h)) (Lib.hid (parse_no _ (body_size t hl) (by rw [data_str]; exact hf))) w
  | page h4 h hf =>
    have hp := parse_yes (str (CM.body t.data.toList)) (body_size t hl) (by rw [data_str]; exact hf)
    rw [data_str] at hp
    exact read_page t _ _ _ _ _ _ (Lib.hid (open_ok t (by omega) h4 h)) (Lib.hid hp) w
end PG
end Go.Proofs.YtolcacmkageidacDoor
