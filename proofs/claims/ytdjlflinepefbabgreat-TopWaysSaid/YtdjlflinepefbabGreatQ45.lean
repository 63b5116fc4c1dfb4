/- What page.parse and page.Read answer: of any bytes. Condition: no text is longer than 2^47 bytes. -/
import Derived.Test.YtdjlflinepefbabGreatQ43
import Derived.Test.YtdjlflinepefbabGreatQ44
import Derived.Test.YtdjlflinepefbabGreatQ36
import Derived.Test.YtdjlflinepefbabGreatQ05
import Derived.Deep.RegionHeld3

namespace Go.Proofs.YtdjlflinepefbabGreat
open Go.RowKit
namespace PG
open FM CM MM
set_option linter.unusedVariables false
set_option linter.unusedSimpArgs false

theorem pos_wd : pos Wd 0 = 0 ∧ pos Wd 1 = 1 ∧ pos Wd 2 = 3 ∧ pos Wd 3 = 7 ∧ pos Wd 4 = 13 ∧ pos Wd 5 = 14 := ⟨rfl, rfl, rfl, rfl, rfl, rfl⟩
/-- What Take answers for a page's widths. -/
theorem take5_short (s : ByteArray) (hs : s.size < 14) (w : World) (a : Option Addr) (c : Nat) (hr : Row .i64 w a 5 Wd) :
    Calls Tryz.prog 147 #[.string s, .slice a 5 c] w fun e w' => e = .returned (.tuple #[.slice none 0 0, .string ⟨#[]⟩, .int .i64 5]) ∧ Below w.heap.size w w' := by
  obtain ⟨J, hJ, hin, hout⟩ := place_of Wd 5 s.size
  have hJ5 : J < 5 := by
    rcases Nat.lt_or_ge J 5 with h | h
    · exact h
    · obtain rfl : J = 5 := by omega
      have : 14 ≤ s.size := hin
      omega
  exact (take_good s (by omega) a 5 c Wd (by decide) w hr wd_ok J hJ hin hout).mono fun e w' h => h.2 hJ5
theorem take5_ok (s : ByteArray) (hs : 14 ≤ s.size) (hl : s.size ≤ 140737488351232) (w : World) (a : Option Addr) (c : Nat) (hr : Row .i64 w a 5 Wd) :
    Calls Tryz.prog 147 #[.string s, .slice a 5 c] w fun e w' => ∃ b off c2, e = .returned (.tuple #[.slice (some ⟨b, off, none⟩) 5 c2, .string (str (s.data.toList.drop 14)), .int .i64 0]) ∧ b < w'.heap.size ∧ (∀ i, i < 5 → w'.cell? ⟨b, off + i, none⟩ = some (.int .u64 (num s.data.toList Wd i : Int))) ∧ Below w.heap.size w w' := by
  refine (take_good s hl a 5 c Wd (by decide) w hr wd_ok 5 (Nat.le_refl _) hs (fun h => by omega)).mono fun e w' h => ?_
  obtain ⟨v, rfl, hown, hb⟩ := h.1 rfl
  obtain ⟨x, c2, rfl, hrow⟩ := own_row hown
  rcases hrow with h0 | ⟨b, off, rfl, hlt, hc⟩
  · omega
  · exact ⟨b, off, c2, by rw [show pos Wd 5 = 14 from rfl, ext_from], hlt, hc, hb⟩

/-- A page's five values and a sign. -/
abbrev pv (p : Pg) : Value := .agg #[.int .i64 p.kind, .int .i64 p.space, .int .i64 p.key, .int .i64 p.seq, .string p.body]

set_option maxHeartbeats 2000000 in
theorem parse_unmarked (t : ByteArray) (hl : t.size ≤ 140737488351232) (h : t.data.toList.take 2 ≠ [83, 99]) (w : World) :
    Calls Tryz.prog 100 #[.string t] w fun e w' => e = .returned (.tuple #[.agg #[.int .i64 0, .int .i64 0, .int .i64 0, .int .i64 0, .string ⟨#[]⟩], .bool false]) ∧ Below w.heap.size w w' := by
  have HC := Lib.hid (cut_no t h)
  obtain ⟨W, hW⟩ : ∃ W, W = w.alloc (.cells #[.int .i64 0, .int .i64 0, .int .i64 0, .int .i64 0, .string ⟨#[]⟩] 117) := ⟨_, rfl⟩
  have k1 : Blk W w.heap.size 117 #[.int .i64 0, .int .i64 0, .int .i64 0, .int .i64 0, .string ⟨#[]⟩] := by rw [hW]; exact Blk.new w _ _
  have hb0 : Below w.heap.size w W := by rw [hW]; exact below_box w _
  have HW := Lib.hid hW
  clear hW h
  have HT : Hid (∀ (w : World) (a : Option Addr) (c : Nat), Row .i64 w a 5 Wd → Calls Tryz.prog 147 #[.string t, .slice a 5 c] w fun e w' => ∃ v s n, e = .returned (.tuple #[v, .string s, .int .i64 n]) ∧ Below w.heap.size w w') := by
    intro w a c hr
    rcases Nat.lt_or_ge t.size 14 with h | h
    · exact (take5_short t h w a c hr).mono fun e w' h => ⟨_, _, _, h.1, h.2⟩
    · refine (take5_ok t h hl w a c hr).mono ?_
      rintro e w' ⟨b, off, c2, rfl, _, _, hb⟩
      exact ⟨_, _, _, rfl, hb⟩
  go_enter Tryz.func100, Tryz.ntmps100
  go_wp2_with fail
  rw [← HW.out]
  refine (HC.out _).mono ?_
  rintro e w1 ⟨rfl, rfl⟩
  go_wp2_with fail
  refine (widths_any _).mono ?_
  rintro e w2 ⟨rfl, hr2, hb2⟩
  have hR := Lib.hid hr2
  have k2 := k1.below hb2 k1.lt
  have HB2 := Lib.hid (hb0.trans (hb2.mono hb0.size))
  have K2 := Lib.hid k2
  clear hb2 hr2 k1 k2 hb0
  go_wp2_with fail
  refine (HT.out _ _ _ hR.out).mono ?_
  rintro e w3 ⟨v, s, n, rfl, hb3⟩
  have k3 := K2.out.below hb3 K2.out.lt
  obtain ⟨⟨z0, z1, z2, z3, z4⟩, f0, f1, f2, f3, f4⟩ := cells5 k3
  have HB3 := Lib.hid (HB2.out.trans (hb3.mono HB2.out.size))
  have K3 := Lib.hid k3
  clear hb3 k3
  go_wp2
  exact ret_cell_tmp rfl _ _ _ _ _ _ _ _ rfl rfl rfl (stored5 K3.out _ _ _ _ _) Tryz.underlying117 rfl (by kernel_rfl) ⟨rfl, stored5_below HB3.out (Nat.le_refl _) _ _ _ _ _⟩
theorem num_wd (l : List UInt8) : num (l.drop 2) Wd 0 = val ((l.drop 2).take 1) ∧ num (l.drop 2) Wd 1 = val ((l.drop 3).take 2) ∧ num (l.drop 2) Wd 2 = val ((l.drop 5).take 4) ∧ num (l.drop 2) Wd 3 = val ((l.drop 9).take 6) ∧ num (l.drop 2) Wd 4 = val ((l.drop 15).take 1) := by
  refine ⟨rfl, ?_, ?_, ?_, ?_⟩
  · show val (((l.drop 2).drop 1).take 2) = _; rw [List.drop_drop]
  · show val (((l.drop 2).drop 3).take 4) = _; rw [List.drop_drop]
  · show val (((l.drop 2).drop 7).take 6) = _; rw [List.drop_drop]
  · show val (((l.drop 2).drop 13).take 1) = _; rw [List.drop_drop]
theorem drop2_size (t : ByteArray) : (str (t.data.toList.drop 2)).size = t.size - 2 := by rw [str_size, List.length_drop, len_size]

set_option maxHeartbeats 2000000 in
theorem parse_short (t : ByteArray) (hl : t.size ≤ 140737488351232) (h : t.data.toList.take 2 = [83, 99]) (hs : t.size < 16) (w : World) :
    Calls Tryz.prog 100 #[.string t] w fun e w' => e = .returned (.tuple #[.agg #[.int .i64 0, .int .i64 0, .int .i64 0, .int .i64 0, .string ⟨#[]⟩], .bool false]) ∧ Below w.heap.size w w' := by
  have HC := Lib.hid (cut_yes t h)
  have HT : Hid (∀ (w : World) (a : Option Addr) (c : Nat), Row .i64 w a 5 Wd → Calls Tryz.prog 147 #[.string (str (t.data.toList.drop 2)), .slice a 5 c] w fun e w' => e = .returned (.tuple #[.slice none 0 0, .string ⟨#[]⟩, .int .i64 5]) ∧ Below w.heap.size w w') := fun w a c hr => take5_short _ (by rw [drop2_size]; have := congrArg List.length h; rw [List.length_take, len_size] at this; simp at this; omega) w a c hr
  obtain ⟨s, hs2⟩ : ∃ s, s = str (t.data.toList.drop 2) := ⟨_, rfl⟩
  rw [← hs2] at HC HT
  clear h hs hs2
  obtain ⟨W, hW⟩ : ∃ W, W = w.alloc (.cells #[.int .i64 0, .int .i64 0, .int .i64 0, .int .i64 0, .string ⟨#[]⟩] 117) := ⟨_, rfl⟩
  have k1 : Blk W w.heap.size 117 #[.int .i64 0, .int .i64 0, .int .i64 0, .int .i64 0, .string ⟨#[]⟩] := by rw [hW]; exact Blk.new w _ _
  have hb0 : Below w.heap.size w W := by rw [hW]; exact below_box w _
  have HW := Lib.hid hW
  clear hW
  go_enter Tryz.func100, Tryz.ntmps100
  go_wp2_with fail
  rw [← HW.out]
  refine (HC.out _).mono ?_
  rintro e w1 ⟨rfl, rfl⟩
  go_wp2_with fail
  refine (widths_any _).mono ?_
  rintro e w2 ⟨rfl, hr2, hb2⟩
  have hR := Lib.hid hr2
  have k2 := k1.below hb2 k1.lt
  have HB2 := Lib.hid (hb0.trans (hb2.mono hb0.size))
  have K2 := Lib.hid k2
  clear hb2 hr2 k1 k2 hb0
  go_wp2_with fail
  refine (HT.out _ _ _ hR.out).mono ?_
  rintro e w3 ⟨rfl, hb3⟩
  have k3 := K2.out.below hb3 K2.out.lt
  obtain ⟨⟨z0, z1, z2, z3, z4⟩, f0, f1, f2, f3, f4⟩ := cells5 k3
  have HB3 := Lib.hid (HB2.out.trans (hb3.mono HB2.out.size))
  have K3 := Lib.hid k3
  clear hb3 k3
  go_wp2
  exact ret_cell_tmp rfl _ _ _ _ _ _ _ _ rfl rfl rfl (stored5 K3.out _ _ _ _ _) Tryz.underlying117 rfl (by kernel_rfl) ⟨rfl, stored5_below HB3.out (Nat.le_refl _) _ _ _ _ _⟩

/-- What Take gives parse of sixteen bytes or more. -/
theorem take_fit (t : ByteArray) (hl : t.size ≤ 140737488351232) (hs : 16 ≤ t.size) (w : World) (a : Option Addr) (c : Nat) (hr : Row .i64 w a 5 Wd) :
    Calls Tryz.prog 147 #[.string (str (t.data.toList.drop 2)), .slice a 5 c] w fun e w' => ∃ b off c2, e = .returned (.tuple #[.slice (some ⟨b, off, none⟩) 5 c2, .string (str (t.data.toList.drop 16)), .int .i64 0]) ∧ b < w'.heap.size ∧
      (w'.cell? ⟨b, off, none⟩ = some (.int .u64 (val ((t.data.toList.drop 2).take 1) : Int)) ∧ w'.cell? ⟨b, off + 1, none⟩ = some (.int .u64 (val ((t.data.toList.drop 3).take 2) : Int)) ∧ w'.cell? ⟨b, off + 2, none⟩ = some (.int .u64 (val ((t.data.toList.drop 5).take 4) : Int)) ∧ w'.cell? ⟨b, off + 3, none⟩ = some (.int .u64 (val ((t.data.toList.drop 9).take 6) : Int)) ∧ w'.cell? ⟨b, off + 4, none⟩ = some (.int .u64 (val ((t.data.toList.drop 15).take 1) : Int))) ∧ Below w.heap.size w w' := by
  obtain ⟨n0, n1, n2, n3, n4⟩ := num_wd t.data.toList
  refine (take5_ok (str (t.data.toList.drop 2)) (by rw [drop2_size]; omega) (by rw [drop2_size]; omega) w a c hr).mono ?_
  rintro e w' ⟨b, off, c2, rfl, hlt, hc, hb⟩
  rw [data_str] at hc ⊢
  have h0 := hc 0 (by decide)
  have h1 := hc 1 (by decide)
  have h2 := hc 2 (by decide)
  have h3 := hc 3 (by decide)
  have h4 := hc 4 (by decide)
  rw [n0] at h0
  rw [n1] at h1
  rw [n2] at h2
  rw [n3] at h3
  rw [n4] at h4
  exact ⟨b, off, c2, by rw [List.drop_drop], hlt, ⟨h0, h1, h2, h3, h4⟩, hb⟩

set_option maxHeartbeats 2000000 in
theorem parse_len (t : ByteArray) (hl : t.size ≤ 140737488351232) (h : t.data.toList.take 2 = [83, 99]) (hs : 16 ≤ t.size) (hn : val ((t.data.toList.drop 15).take 1) ≠ t.size - 16) (w : World) :
    Calls Tryz.prog 100 #[.string t] w fun e w' => e = .returned (.tuple #[.agg #[.int .i64 0, .int .i64 0, .int .i64 0, .int .i64 0, .string ⟨#[]⟩], .bool false]) ∧ Below w.heap.size w w' := by
  have HC := Lib.hid (cut_yes t h)
  have HT := Lib.hid (take_fit t hl hs)
  obtain ⟨s, hs2⟩ : ∃ s, s = str (t.data.toList.drop 2) := ⟨_, rfl⟩
  obtain ⟨B, hB⟩ : ∃ s, s = str (t.data.toList.drop 16) := ⟨_, rfl⟩
  have hBs : B.size = t.size - 16 := by rw [hB, str_size, List.length_drop, len_size]
  rw [← hs2] at HC HT
  rw [← hB] at HT
  obtain ⟨N0, h0⟩ : ∃ n, n = val ((t.data.toList.drop 2).take 1) := ⟨_, rfl⟩
  obtain ⟨N1, h1⟩ : ∃ n, n = val ((t.data.toList.drop 3).take 2) := ⟨_, rfl⟩
  obtain ⟨N2, h2⟩ : ∃ n, n = val ((t.data.toList.drop 5).take 4) := ⟨_, rfl⟩
  obtain ⟨N3, h3⟩ : ∃ n, n = val ((t.data.toList.drop 9).take 6) := ⟨_, rfl⟩
  obtain ⟨N4, h4⟩ : ∃ n, n = val ((t.data.toList.drop 15).take 1) := ⟨_, rfl⟩
  rw [← h0, ← h1, ← h2, ← h3, ← h4] at HT
  rw [← h4, ← hBs] at hn
  have e5 := u64_in B.size (by omega)
  have hne : ¬ (N4 : Int) = (B.size : Int) := by omega
  clear h hs hs2 hB hBs h0 h1 h2 h3 h4 hn
  obtain ⟨W, hW⟩ : ∃ W, W = w.alloc (.cells #[.int .i64 0, .int .i64 0, .int .i64 0, .int .i64 0, .string ⟨#[]⟩] 117) := ⟨_, rfl⟩
  have k1 : Blk W w.heap.size 117 #[.int .i64 0, .int .i64 0, .int .i64 0, .int .i64 0, .string ⟨#[]⟩] := by rw [hW]; exact Blk.new w _ _
  have hb0 : Below w.heap.size w W := by rw [hW]; exact below_box w _
  have HW := Lib.hid hW
  clear hW
  go_enter Tryz.func100, Tryz.ntmps100
  go_wp2_with fail
  rw [← HW.out]
  refine (HC.out _).mono ?_
  rintro e w1 ⟨rfl, rfl⟩
  go_wp2_with fail
  refine (widths_any _).mono ?_
  rintro e w2 ⟨rfl, hr2, hb2⟩
  have hR := Lib.hid hr2
  have k2 := k1.below hb2 k1.lt
  have HB2 := Lib.hid (hb0.trans (hb2.mono hb0.size))
  have K2 := Lib.hid k2
  clear hb2 hr2 k1 k2 hb0
  go_wp2_with fail
  refine (HT.out _ _ _ hR.out).mono ?_
  rintro e w3 ⟨g, off, c2, rfl, hlt, ⟨q0, q1, q2, q3, q4⟩, hb3⟩
  have k3 := K2.out.below hb3 K2.out.lt
  obtain ⟨⟨z0, z1, z2, z3, z4⟩, f0, f1, f2, f3, f4⟩ := cells5 k3
  have HB3 := Lib.hid (HB2.out.trans (hb3.mono HB2.out.size))
  have K3 := Lib.hid k3
  clear hb3 k3 q0 q1 q2 q3
  go_wp2
  exact ret_cell_tmp rfl _ _ _ _ _ _ _ _ rfl rfl rfl (stored5 K3.out _ _ _ _ _) Tryz.underlying117 rfl (by kernel_rfl) ⟨rfl, stored5_below HB3.out (Nat.le_refl _) _ _ _ _ _⟩
/-- The numbers that Take gave stay. -/
theorem keepN (w : World) (g off : Nat) (N0 N1 N2 N3 : Int) {w1 w2 : World} (h : w1.cell? ⟨g, off, none⟩ = some (.int .u64 N0) ∧ w1.cell? ⟨g, off + 1, none⟩ = some (.int .u64 N1) ∧ w1.cell? ⟨g, off + 2, none⟩ = some (.int .u64 N2) ∧ w1.cell? ⟨g, off + 3, none⟩ = some (.int .u64 N3) ∧ g < w1.heap.size ∧ Blk w1 w.heap.size 117 #[.int .i64 0, .int .i64 0, .int .i64 0, .int .i64 0, .string ⟨#[]⟩] ∧ Below w.heap.size w w1) (hb : Below w1.heap.size w1 w2) :
    w2.cell? ⟨g, off, none⟩ = some (.int .u64 N0) ∧ w2.cell? ⟨g, off + 1, none⟩ = some (.int .u64 N1) ∧ w2.cell? ⟨g, off + 2, none⟩ = some (.int .u64 N2) ∧ w2.cell? ⟨g, off + 3, none⟩ = some (.int .u64 N3) ∧ g < w2.heap.size ∧ Blk w2 w.heap.size 117 #[.int .i64 0, .int .i64 0, .int .i64 0, .int .i64 0, .string ⟨#[]⟩] ∧ Below w.heap.size w w2 := by
  obtain ⟨q0, q1, q2, q3, hl, hk, h⟩ := h
  exact ⟨(hb.cell (p := ⟨g, off, none⟩) hl).trans q0, (hb.cell (p := ⟨g, off + 1, none⟩) hl).trans q1, (hb.cell (p := ⟨g, off + 2, none⟩) hl).trans q2, (hb.cell (p := ⟨g, off + 3, none⟩) hl).trans q3, Nat.lt_of_lt_of_le hl hb.size, hk.below hb hk.lt, h.trans (hb.mono h.size)⟩

theorem keepN2 (w : World) (g off x : Nat) (N0 N1 N2 N3 : Int) (x0 x1 x2 x3 x4 : Value) {w1 : World} (h : w1.cell? ⟨g, off, none⟩ = some (.int .u64 N0) ∧ w1.cell? ⟨g, off + 1, none⟩ = some (.int .u64 N1) ∧ w1.cell? ⟨g, off + 2, none⟩ = some (.int .u64 N2) ∧ w1.cell? ⟨g, off + 3, none⟩ = some (.int .u64 N3) ∧ g < w1.heap.size ∧ Blk w1 w.heap.size 117 #[.int .i64 0, .int .i64 0, .int .i64 0, .int .i64 0, .string ⟨#[]⟩] ∧ Below w.heap.size w w1) (hx : g ≠ x ∧ w.heap.size ≠ x ∧ w.heap.size ≤ x) :
    (((((w1.setCell ⟨x, 0, none⟩ x0).setCell ⟨x, 1, none⟩ x1).setCell ⟨x, 2, none⟩ x2).setCell ⟨x, 3, none⟩ x3).setCell ⟨x, 4, none⟩ x4).cell? ⟨g, off, none⟩ = some (.int .u64 N0) ∧ (((((w1.setCell ⟨x, 0, none⟩ x0).setCell ⟨x, 1, none⟩ x1).setCell ⟨x, 2, none⟩ x2).setCell ⟨x, 3, none⟩ x3).setCell ⟨x, 4, none⟩ x4).cell? ⟨g, off + 1, none⟩ = some (.int .u64 N1) ∧ (((((w1.setCell ⟨x, 0, none⟩ x0).setCell ⟨x, 1, none⟩ x1).setCell ⟨x, 2, none⟩ x2).setCell ⟨x, 3, none⟩ x3).setCell ⟨x, 4, none⟩ x4).cell? ⟨g, off + 2, none⟩ = some (.int .u64 N2) ∧ (((((w1.setCell ⟨x, 0, none⟩ x0).setCell ⟨x, 1, none⟩ x1).setCell ⟨x, 2, none⟩ x2).setCell ⟨x, 3, none⟩ x3).setCell ⟨x, 4, none⟩ x4).cell? ⟨g, off + 3, none⟩ = some (.int .u64 N3) ∧ g < (((((w1.setCell ⟨x, 0, none⟩ x0).setCell ⟨x, 1, none⟩ x1).setCell ⟨x, 2, none⟩ x2).setCell ⟨x, 3, none⟩ x3).setCell ⟨x, 4, none⟩ x4).heap.size ∧ Blk (((((w1.setCell ⟨x, 0, none⟩ x0).setCell ⟨x, 1, none⟩ x1).setCell ⟨x, 2, none⟩ x2).setCell ⟨x, 3, none⟩ x3).setCell ⟨x, 4, none⟩ x4) w.heap.size 117 #[.int .i64 0, .int .i64 0, .int .i64 0, .int .i64 0, .string ⟨#[]⟩] ∧ Below w.heap.size w (((((w1.setCell ⟨x, 0, none⟩ x0).setCell ⟨x, 1, none⟩ x1).setCell ⟨x, 2, none⟩ x2).setCell ⟨x, 3, none⟩ x3).setCell ⟨x, 4, none⟩ x4) := by
  obtain ⟨q0, q1, q2, q3, hl, hk, h⟩ := h
  obtain ⟨hg, hn, hle⟩ := hx
  have far : ∀ (W : World) (i : Nat) (u : Value) (k : Nat), (W.setCell ⟨x, i, none⟩ u).cell? ⟨g, k, none⟩ = W.cell? ⟨g, k, none⟩ := fun W i u k => World.cell?_setCell_other _ _ _ _ (fun e => hg (congrArg Addr.block e).symm)
  refine ⟨by simp only [far]; exact q0, by simp only [far]; exact q1, by simp only [far]; exact q2, by simp only [far]; exact q3, by simpa [World.setCell] using hl, ((((hk.far hn _).far hn _).far hn _).far hn _).far hn _, stored5_below h hle _ _ _ _ _⟩

set_option maxHeartbeats 4000000 in
theorem parse_fit (t : ByteArray) (hl : t.size ≤ 140737488351232) (h : t.data.toList.take 2 = [83, 99]) (hs : 16 ≤ t.size) (hn : val ((t.data.toList.drop 15).take 1) = t.size - 16) (M : Bool)
    (HM : Hid (∀ w, Calls Tryz.prog 93 #[.agg #[.int .i64 (dec t.data.toList).kind, .int .i64 (dec t.data.toList).space, .int .i64 (dec t.data.toList).key, .int .i64 (dec t.data.toList).seq, .string (dec t.data.toList).body]] w fun e w' => e = .returned (.bool M) ∧ Below w.heap.size w w')) (w : World) :
    Calls Tryz.prog 100 #[.string t] w fun e w' => e = .returned (.tuple #[.agg #[.int .i64 (dec t.data.toList).kind, .int .i64 (dec t.data.toList).space, .int .i64 (dec t.data.toList).key, .int .i64 (dec t.data.toList).seq, .string (dec t.data.toList).body], .bool M]) ∧ Below w.heap.size w w' := by
  have HC := Lib.hid (cut_yes t h)
  have HT := Lib.hid (take_fit t hl hs)
  obtain ⟨s, hs2⟩ : ∃ s, s = str (t.data.toList.drop 2) := ⟨_, rfl⟩
  have hBs : (dec t.data.toList).body.size = t.size - 16 := by show (str _).size = _; rw [str_size, List.length_drop, len_size]
  rw [← hs2] at HC HT
  have HCL := Lib.hid (fun w => ND.clone_any (dec t.data.toList).body w (by omega))
  obtain ⟨v0, l0⟩ : val ((t.data.toList.drop 2).take 1) < 256 ^ 6 ∧ True := ⟨Nat.lt_of_lt_of_le (val_lt _) (Nat.pow_le_pow_right (by decide) (by rw [List.length_take]; omega)), trivial⟩
  obtain ⟨v1, _⟩ : val ((t.data.toList.drop 3).take 2) < 256 ^ 6 ∧ True := ⟨Nat.lt_of_lt_of_le (val_lt _) (Nat.pow_le_pow_right (by decide) (by rw [List.length_take]; omega)), trivial⟩
  obtain ⟨v2, _⟩ : val ((t.data.toList.drop 5).take 4) < 256 ^ 6 ∧ True := ⟨Nat.lt_of_lt_of_le (val_lt _) (Nat.pow_le_pow_right (by decide) (by rw [List.length_take]; omega)), trivial⟩
  obtain ⟨v3, _⟩ : val ((t.data.toList.drop 9).take 6) < 256 ^ 6 ∧ True := ⟨Nat.lt_of_lt_of_le (val_lt _) (Nat.pow_le_pow_right (by decide) (by rw [List.length_take]; omega)), trivial⟩
  have hdec : dec t.data.toList = ⟨(val ((t.data.toList.drop 2).take 1) : Int), (val ((t.data.toList.drop 3).take 2) : Int), (val ((t.data.toList.drop 5).take 4) : Int), (val ((t.data.toList.drop 9).take 6) : Int), str (t.data.toList.drop 16)⟩ := rfl
  rw [hdec] at HM HCL hBs ⊢
  obtain ⟨B, hB⟩ : ∃ s, s = str (t.data.toList.drop 16) := ⟨_, rfl⟩
  rw [← hB] at HT HM HCL hBs ⊢
  obtain ⟨N0, h0⟩ : ∃ n, n = val ((t.data.toList.drop 2).take 1) := ⟨_, rfl⟩
  obtain ⟨N1, h1⟩ : ∃ n, n = val ((t.data.toList.drop 3).take 2) := ⟨_, rfl⟩
  obtain ⟨N2, h2⟩ : ∃ n, n = val ((t.data.toList.drop 5).take 4) := ⟨_, rfl⟩
  obtain ⟨N3, h3⟩ : ∃ n, n = val ((t.data.toList.drop 9).take 6) := ⟨_, rfl⟩
  obtain ⟨N4, h4⟩ : ∃ n, n = val ((t.data.toList.drop 15).take 1) := ⟨_, rfl⟩
  rw [← h0] at HT HM v0 ⊢
  rw [← h1] at HT HM v1 ⊢
  rw [← h2] at HT HM v2 ⊢
  rw [← h3] at HT HM v3 ⊢
  rw [← h4] at HT hn
  have hBs' : B.size = t.size - 16 := hBs
  have e5 := u64_in B.size (by omega)
  have hne : (N4 : Int) = (B.size : Int) := by omega
  have i0 : IntKind.i64.wrap (N0 : Int) = (N0 : Int) := IntWalk.i64_in _ (by clear e5; omega)
  have i1 : IntKind.i64.wrap (N1 : Int) = (N1 : Int) := IntWalk.i64_in _ (by clear e5 i0; omega)
  have i2 : IntKind.i64.wrap (N2 : Int) = (N2 : Int) := IntWalk.i64_in _ (by clear e5 i0 i1; omega)
  have i3 : IntKind.i64.wrap (N3 : Int) = (N3 : Int) := IntWalk.i64_in _ (by clear e5 i0 i1 i2; omega)
  clear h hs hs2 hB hBs hBs' h0 h1 h2 h3 h4 hn v0 v1 v2 v3 hdec l0
  obtain ⟨W, hW⟩ : ∃ W, W = w.alloc (.cells #[.int .i64 0, .int .i64 0, .int .i64 0, .int .i64 0, .string ⟨#[]⟩] 117) := ⟨_, rfl⟩
  have k1 : Blk W w.heap.size 117 #[.int .i64 0, .int .i64 0, .int .i64 0, .int .i64 0, .string ⟨#[]⟩] := by rw [hW]; exact Blk.new w _ _
  have hb0 : Below w.heap.size w W := by rw [hW]; exact below_box w _
  have HW := Lib.hid hW
  clear hW
  go_enter Tryz.func100, Tryz.ntmps100
  go_wp2_with fail
  rw [← HW.out]
  refine (HC.out _).mono ?_
  rintro e w1 ⟨rfl, rfl⟩
  go_wp2_with fail
  refine (widths_any _).mono ?_
  rintro e w2 ⟨rfl, hr2, hb2⟩
  have hR := Lib.hid hr2
  have k2 := k1.below hb2 k1.lt
  have HB2 := Lib.hid (hb0.trans (hb2.mono hb0.size))
  have K2 := Lib.hid k2
  clear hb2 hr2 k1 k2 hb0
  go_wp2_with fail
  refine (HT.out _ _ _ hR.out).mono ?_
  rintro e w3 ⟨g, off, c2, rfl, hlt, ⟨q0, q1, q2, q3, q4⟩, hb3⟩
  have k3 := K2.out.below hb3 K2.out.lt
  have hbb := HB2.out.trans (hb3.mono HB2.out.size)
  have HS : Hid (w3.drew.cell? ⟨g, off, none⟩ = some (.int .u64 N0) ∧ w3.drew.cell? ⟨g, off + 1, none⟩ = some (.int .u64 N1) ∧ w3.drew.cell? ⟨g, off + 2, none⟩ = some (.int .u64 N2) ∧ w3.drew.cell? ⟨g, off + 3, none⟩ = some (.int .u64 N3) ∧ g < w3.drew.heap.size ∧ Blk w3.drew w.heap.size 117 #[.int .i64 0, .int .i64 0, .int .i64 0, .int .i64 0, .string ⟨#[]⟩] ∧ Below w.heap.size w w3.drew) := Lib.hid ⟨q0, q1, q2, q3, hlt, k3, hbb.drew⟩
  have HX : Hid (∀ w5, Below (w3.alloc (.cells #[.int .i64 0, .int .i64 0, .int .i64 0, .int .i64 0, .string ⟨#[]⟩] 117)).drew.heap.size (w3.alloc (.cells #[.int .i64 0, .int .i64 0, .int .i64 0, .int .i64 0, .string ⟨#[]⟩] 117)).drew w5 → Blk w5 w3.heap.size 117 #[.int .i64 0, .int .i64 0, .int .i64 0, .int .i64 0, .string ⟨#[]⟩]) := fun w5 hb5 => (Blk.new w3.drew 117 #[.int .i64 0, .int .i64 0, .int .i64 0, .int .i64 0, .string ⟨#[]⟩]).below hb5 (Blk.new w3.drew 117 #[.int .i64 0, .int .i64 0, .int .i64 0, .int .i64 0, .string ⟨#[]⟩]).lt
  have HS2 : Hid ((w3.alloc (.cells #[.int .i64 0, .int .i64 0, .int .i64 0, .int .i64 0, .string ⟨#[]⟩] 117)).drew.cell? ⟨g, off, none⟩ = some (.int .u64 N0) ∧ (w3.alloc (.cells #[.int .i64 0, .int .i64 0, .int .i64 0, .int .i64 0, .string ⟨#[]⟩] 117)).drew.cell? ⟨g, off + 1, none⟩ = some (.int .u64 N1) ∧ (w3.alloc (.cells #[.int .i64 0, .int .i64 0, .int .i64 0, .int .i64 0, .string ⟨#[]⟩] 117)).drew.cell? ⟨g, off + 2, none⟩ = some (.int .u64 N2) ∧ (w3.alloc (.cells #[.int .i64 0, .int .i64 0, .int .i64 0, .int .i64 0, .string ⟨#[]⟩] 117)).drew.cell? ⟨g, off + 3, none⟩ = some (.int .u64 N3) ∧ g < (w3.alloc (.cells #[.int .i64 0, .int .i64 0, .int .i64 0, .int .i64 0, .string ⟨#[]⟩] 117)).drew.heap.size ∧ Blk (w3.alloc (.cells #[.int .i64 0, .int .i64 0, .int .i64 0, .int .i64 0, .string ⟨#[]⟩] 117)).drew w.heap.size 117 #[.int .i64 0, .int .i64 0, .int .i64 0, .int .i64 0, .string ⟨#[]⟩] ∧ Below w.heap.size w (w3.alloc (.cells #[.int .i64 0, .int .i64 0, .int .i64 0, .int .i64 0, .string ⟨#[]⟩] 117)).drew) := Lib.hid (keepN w g off N0 N1 N2 N3 ⟨q0, q1, q2, q3, hlt, k3, hbb⟩ (below_box w3 _).drew)
  have HNE : Hid (g ≠ w3.heap.size ∧ w.heap.size ≠ w3.heap.size ∧ w.heap.size ≤ w3.heap.size) := Lib.hid ⟨Nat.ne_of_lt hlt, Nat.ne_of_lt k3.lt, Nat.le_of_lt k3.lt⟩
  clear hb3 k3 hbb hlt
  go_wp2
  go_region_held3 (fun w' => w'.cell? ⟨g, off, none⟩ = some (.int .u64 N0) ∧ w'.cell? ⟨g, off + 1, none⟩ = some (.int .u64 N1) ∧ w'.cell? ⟨g, off + 2, none⟩ = some (.int .u64 N2) ∧ w'.cell? ⟨g, off + 3, none⟩ = some (.int .u64 N3) ∧ g < w'.heap.size ∧ Blk w' w.heap.size 117 #[.int .i64 0, .int .i64 0, .int .i64 0, .int .i64 0, .string ⟨#[]⟩] ∧ Below w.heap.size w w') (first | with_reducible exact HS.out | with_reducible exact HS2.out | with_reducible assumption | with_reducible exact keepN w g off N0 N1 N2 N3 (by assumption) (below_box _ _) | with_reducible exact keepN2 w g off _ N0 N1 N2 N3 _ _ _ _ _ (by assumption) HNE.out) ((go_at_call 142; refine (HCL.out _).mono ?_; rintro e w5 ⟨rfl, hb5⟩; have hS5 := keepN w g off N0 N1 N2 N3 (by assumption) hb5; first | (have hx5 : Blk w5 w3.heap.size 117 #[.int .i64 0, .int .i64 0, .int .i64 0, .int .i64 0, .string ⟨#[]⟩] := (by with_reducible exact HX.out _ hb5); obtain ⟨⟨x0, x1, x2, x3, x4⟩, y0, y1, y2, y3, y4⟩ := cells5 hx5) | skip))
  · obtain ⟨W6, hW6⟩ : ∃ W6, W6 = w5.alloc (.cells #[.int .i64 N0, .int .i64 N1, .int .i64 N2, .int .i64 N3, .string B] 117) := ⟨_, rfl⟩
    obtain ⟨X, hX⟩ : ∃ X, X = w5.heap.size := ⟨_, rfl⟩
    have PX : Hid (Blk W6.drew X 117 #[.int .i64 N0, .int .i64 N1, .int .i64 N2, .int .i64 N3, .string B]) := by show Blk _ _ _ _; rw [hW6, hX]; exact Blk.new w5 _ _
    have PZ : Hid (Blk W6.drew w.heap.size 117 #[.int .i64 0, .int .i64 0, .int .i64 0, .int .i64 0, .string ⟨#[]⟩]) := by show Blk _ _ _ _; rw [hW6]; exact hS5.2.2.2.2.2.1.alloc _
    have PB : Hid (Below w.heap.size w W6.drew) := by show Below _ _ _; rw [hW6]; exact (hS5.2.2.2.2.2.2.alloc hS5.2.2.2.2.2.2.size _).drew
    rw [← hW6, ← hX]
    clear hW6 hX hS5 HS HS2 HX HNE K2 HB2 hR q0 q1 q2 q3 q4
    obtain ⟨⟨a0, a1, a2, a3, a4⟩, _⟩ := cells5 PX.out
    have a0' : W6.cell? ⟨X, 0, none⟩ = some (.int .i64 N0) := a0
    have a1' : W6.cell? ⟨X, 1, none⟩ = some (.int .i64 N1) := a1
    have a2' : W6.cell? ⟨X, 2, none⟩ = some (.int .i64 N2) := a2
    have a3' : W6.cell? ⟨X, 3, none⟩ = some (.int .i64 N3) := a3
    have a4' : W6.cell? ⟨X, 4, none⟩ = some (.string B) := a4
    clear a0 a1 a2 a3 a4
    go_wp2
    go_region_with ((go_at_call 93; refine (HM.out _).mono ?_; rintro e w7 ⟨rfl, hb7⟩; obtain ⟨⟨b0, b1, b2, b3, b4⟩, _⟩ := cells5 (PX.out.below hb7 PX.out.lt); have pz7 := PZ.out.below hb7 PZ.out.lt; obtain ⟨⟨y0, y1, y2, y3, y4⟩, f0, f1, f2, f3, f4⟩ := cells5 pz7; have HZ7 := Lib.hid pz7; have HB7 := Lib.hid (PB.out.trans (hb7.mono PB.out.size))))
    all_goals go_wp2
    all_goals exact ret_cell_tmp rfl _ _ _ _ _ _ _ _ rfl rfl rfl (stored5 HZ7.out _ _ _ _ _) Tryz.underlying117 rfl (by kernel_rfl) ⟨rfl, stored5_below HB7.out (Nat.le_refl _) _ _ _ _ _⟩
  · obtain ⟨W6, hW6⟩ : ∃ W6, W6 = (((((w5.setCell ⟨w3.heap.size, 0, none⟩ (.int .i64 N0)).setCell ⟨w3.heap.size, 1, none⟩ (.int .i64 N1)).setCell ⟨w3.heap.size, 2, none⟩ (.int .i64 N2)).setCell ⟨w3.heap.size, 3, none⟩ (.int .i64 N3)).setCell ⟨w3.heap.size, 4, none⟩ (.string B)) := ⟨_, rfl⟩
    obtain ⟨X, hX⟩ : ∃ X, X = w3.heap.size := ⟨_, rfl⟩
    have hS6 := keepN2 w g off w3.heap.size N0 N1 N2 N3 (.int .i64 N0) (.int .i64 N1) (.int .i64 N2) (.int .i64 N3) (.string B) hS5 HNE.out
    have PX : Hid (Blk W6.drew X 117 #[.int .i64 N0, .int .i64 N1, .int .i64 N2, .int .i64 N3, .string B]) := by show Blk _ _ _ _; rw [hW6, hX]; exact stored5 hx5 _ _ _ _ _
    have PZ : Hid (Blk W6.drew w.heap.size 117 #[.int .i64 0, .int .i64 0, .int .i64 0, .int .i64 0, .string ⟨#[]⟩]) := by show Blk _ _ _ _; rw [hW6]; exact hS6.2.2.2.2.2.1
    have PB : Hid (Below w.heap.size w W6.drew) := by show Below _ _ _; rw [hW6]; exact hS6.2.2.2.2.2.2.drew
    rw [← hW6, ← hX]
    clear hW6 hX hS5 HS HS2 HX HNE K2 HB2 hR q0 q1 q2 q3 q4
    obtain ⟨⟨a0, a1, a2, a3, a4⟩, _⟩ := cells5 PX.out
    have a0' : W6.cell? ⟨X, 0, none⟩ = some (.int .i64 N0) := a0
    have a1' : W6.cell? ⟨X, 1, none⟩ = some (.int .i64 N1) := a1
    have a2' : W6.cell? ⟨X, 2, none⟩ = some (.int .i64 N2) := a2
    have a3' : W6.cell? ⟨X, 3, none⟩ = some (.int .i64 N3) := a3
    have a4' : W6.cell? ⟨X, 4, none⟩ = some (.string B) := a4
    clear a0 a1 a2 a3 a4
    go_wp2
    go_region_with ((go_at_call 93; refine (HM.out _).mono ?_; rintro e w7 ⟨rfl, hb7⟩; obtain ⟨⟨b0, b1, b2, b3, b4⟩, _⟩ := cells5 (PX.out.below hb7 PX.out.lt); have pz7 := PZ.out.below hb7 PZ.out.lt; obtain ⟨⟨y0, y1, y2, y3, y4⟩, f0, f1, f2, f3, f4⟩ := cells5 pz7; have HZ7 := Lib.hid pz7; have HB7 := Lib.hid (PB.out.trans (hb7.mono PB.out.size))))
    all_goals go_wp2
    all_goals exact ret_cell_tmp rfl _ _ _ _ _ _ _ _ rfl rfl rfl (stored5 HZ7.out _ _ _ _ _) Tryz.underlying117 rfl (by kernel_rfl) ⟨rfl, stored5_below HB7.out (Nat.le_refl _) _ _ _ _ _⟩
end PG
end Go.Proofs.YtdjlflinepefbabGreat
