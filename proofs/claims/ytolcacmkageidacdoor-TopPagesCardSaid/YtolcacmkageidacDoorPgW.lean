/- What page.Write answers: of every page. Condition: no body is longer than 2^47 bytes. -/
import Derived.Test.YtolcacmkageidacDoorPgB
import Derived.Test.YtolcacmkageidacDoorRow
import Derived.Test.YtolcacmkageidacDoorCheck
namespace Go.Proofs.YtolcacmkageidacDoor
open Go.RowKit
namespace PG
open FM CM
set_option linter.unusedVariables false
set_option linter.unusedSimpArgs false

/-- The numbers of a page's row. -/
def Nm (k s y q n : Nat) : Nat → Int
  | 0 => k
  | 1 => s
  | 2 => y
  | 3 => q
  | _ => n
theorem rowl_rowb (k s y q : Nat) (b : ByteArray) : rowl (Nm k s y q b.size) Wd 5 = rowb ⟨k, s, y, q, b⟩ := by
  simp [rowl, rowb, Nm, Wd]
theorem u64_in (n : Nat) (h : n < 18446744073709551616) : IntKind.u64.wrap (n : Int) = (n : Int) := by
  exact IntWalk.u64_in _ ⟨by omega, by omega⟩
theorem write_no (p : Pg) (h : ¬ May p) (w : World) : Calls Tryd.prog 5 #[.agg #[.int .i64 p.kind, .int .i64 p.space, .int .i64 p.key, .int .i64 p.seq, .string p.body]] w fun e w' => e = .returned (.tuple #[.string ⟨#[]⟩, .int .i64 1]) ∧ Below w.heap.size w w' := by
  have HM := Lib.hid (maybe_no p h)
  obtain ⟨k, s, y, q, b⟩ := p
  clear h
  go_enter Tryd.func5, Tryd.ntmps5
  go_wp2_with fail
  refine (HM.out _).mono ?_
  rintro e w1 ⟨rfl, hb1⟩
  have hb : Below w.heap.size w w1 := (below_box w _).trans (hb1.mono (below_box w _).size)
  go_wp2
  go_ret2
  exact ⟨rfl, hb⟩

set_option maxHeartbeats 2000000 in
theorem write_yes (p : Pg) (h : May p) (w : World) : Calls Tryd.prog 5 #[.agg #[.int .i64 p.kind, .int .i64 p.space, .int .i64 p.key, .int .i64 p.seq, .string p.body]] w fun e w' => e = .returned (.tuple #[.string (str (bytes p)), .int .i64 0]) ∧ Below w.heap.size w w' := by
  have HM := Lib.hid (maybe_yes p h)
  obtain ⟨k, s, y, q, b⟩ := p
  obtain ⟨⟨k1, k2⟩, ⟨s1, s2⟩, ⟨y1, y2⟩, ⟨q1, q2⟩, hb⟩ := h
  obtain ⟨k, rfl⟩ := Int.eq_ofNat_of_zero_le (show 0 ≤ k by have : (1 : Int) ≤ k := k1; omega)
  obtain ⟨s, rfl⟩ := Int.eq_ofNat_of_zero_le (show 0 ≤ s from s1)
  obtain ⟨y, rfl⟩ := Int.eq_ofNat_of_zero_le (show 0 ≤ y from y1)
  obtain ⟨q, rfl⟩ := Int.eq_ofNat_of_zero_le (show 0 ≤ q from q1)
  have k3 : (k : Int) ≤ 4 := k2
  have s3 : (s : Int) ≤ 65535 := s2
  have y3 : (y : Int) ≤ 4294967295 := y2
  have q3 : (q : Int) ≤ 281474976710655 := q2
  have b3 : b.size ≤ 100 := hb
  have e1 := u64_in k (by omega)
  have e2 := u64_in s (by omega)
  have e3 := u64_in y (by omega)
  have e4 := u64_in q (by omega)
  have e5 := u64_in b.size (by omega)
  have HR : Hid (∀ (w : World) (a c : Option Addr) (ca cc : Nat), Row .u64 w a 5 (Nm k s y q b.size) → Row .i64 w c 5 Wd → Calls Tryd.prog 18 #[.slice a 5 ca, .slice c 5 cc] w fun e w' => e = .returned (.tuple #[.string (str (rowb ⟨k, s, y, q, b⟩)), .int .i64 0]) ∧ Below w.heap.size w w') := by
    intro w a c ca cc h1 h2
    have := row_good a c 5 ca cc (Nm k s y q b.size) Wd (by decide) w h1 h2 (fun i hi => by
      obtain rfl | rfl | rfl | rfl | rfl : i = 0 ∨ i = 1 ∨ i = 2 ∨ i = 3 ∨ i = 4 := by omega
      all_goals (simp only [Nm]; omega)) wd_ok 5 (Nat.le_refl _) (fun i hi => by
      obtain rfl | rfl | rfl | rfl | rfl : i = 0 ∨ i = 1 ∨ i = 2 ∨ i = 3 ∨ i = 4 := by omega
      · show k < 256 ^ 1; omega
      · show s < 256 ^ 2; omega
      · show y < 256 ^ 4; omega
      · show q < 256 ^ 6; omega
      · show b.size < 256 ^ 1; omega) (fun h => by omega)
    refine this.mono fun e w' h => ?_
    have := h.1 rfl
    rw [rowl_rowb] at this
    exact this
  have h1 : str (bytes ⟨k, s, y, q, b⟩) = str (sealed ((⟨#[83, 99]⟩ : ByteArray) ++ str (rowb ⟨k, s, y, q, b⟩) ++ b).data.toList) := by
    unfold bytes lay
    simp [str]
  rw [h1]
  obtain ⟨R, hR⟩ : ∃ R, R = str (rowb ⟨k, s, y, q, b⟩) := ⟨_, rfl⟩
  have hRs : R.size = 14 := by rw [hR, str_size, rowb_len]
  rw [← hR] at HR ⊢
  have a1 : ∀ w' : World, (Op.stringOp .add ⟨#[83, 99]⟩ R).run Tryd.prog w' = .ok (.string (⟨#[83, 99]⟩ ++ R)) w' := fun w' => run_string_add_sum w' _ _ (by rw [hRs]; decide)
  obtain ⟨X, hX⟩ : ∃ X, X = (⟨#[83, 99]⟩ : ByteArray) ++ R := ⟨_, rfl⟩
  have hXs : X.size = 16 := by rw [hX, ByteArray.size_append, hRs]; rfl
  rw [← hX] at a1 ⊢
  have a2 : ∀ w' : World, (Op.stringOp .add X b).run Tryd.prog w' = .ok (.string (X ++ b)) w' := fun w' => run_string_add_sum w' _ _ (by rw [hXs]; omega)
  have HS := Lib.hid (seal_any (X ++ b) (by rw [ByteArray.size_append, hXs]; omega))
  obtain ⟨Y, hY⟩ : ∃ Y, Y = X ++ b := ⟨_, rfl⟩
  rw [← hY] at a2 HS ⊢
  obtain ⟨w0, hw0⟩ : ∃ w0, w0 = w.alloc (.cells #[.int .i64 k, .int .i64 s, .int .i64 y, .int .i64 q, .string b] 23) := ⟨_, rfl⟩
  have hz0 : w0.heap.size = w.heap.size + 1 := by rw [hw0]; simp
  have hc : ∀ i, w0.cell? ⟨w.heap.size, i, none⟩ = (#[Value.int .i64 k, .int .i64 s, .int .i64 y, .int .i64 q, .string b] : Array Value)[i]? := fun i => by rw [hw0]; exact World.cell?_alloc_new _ _ _ _
  have HC := Lib.hid hc
  have HB0 := Lib.hid (below_box w (.cells #[.int .i64 k, .int .i64 s, .int .i64 y, .int .i64 q, .string b] 23))
  rw [← hw0] at HB0
  have HW0 := Lib.hid hw0
  clear hX hXs hY hR hRs h1 hw0 hc
  go_enter Tryd.func5, Tryd.ntmps5
  go_wp2_with fail
  rw [← HW0.out]
  refine (HM.out _).mono ?_
  rintro e w1 ⟨rfl, hb1⟩
  have c0 : w1.cell? ⟨w.heap.size, 0, none⟩ = some (.int .i64 k) := (hb1.cell (p := ⟨w.heap.size, 0, none⟩) (by rw [hz0]; exact Nat.lt_succ_self _)).trans (HC.out 0)
  have c1 : w1.cell? ⟨w.heap.size, 1, none⟩ = some (.int .i64 s) := (hb1.cell (p := ⟨w.heap.size, 1, none⟩) (by rw [hz0]; exact Nat.lt_succ_self _)).trans (HC.out 1)
  have c2 : w1.cell? ⟨w.heap.size, 2, none⟩ = some (.int .i64 y) := (hb1.cell (p := ⟨w.heap.size, 2, none⟩) (by rw [hz0]; exact Nat.lt_succ_self _)).trans (HC.out 2)
  have c3 : w1.cell? ⟨w.heap.size, 3, none⟩ = some (.int .i64 q) := (hb1.cell (p := ⟨w.heap.size, 3, none⟩) (by rw [hz0]; exact Nat.lt_succ_self _)).trans (HC.out 3)
  have c4 : w1.cell? ⟨w.heap.size, 4, none⟩ = some (.string b) := (hb1.cell (p := ⟨w.heap.size, 4, none⟩) (by rw [hz0]; exact Nat.lt_succ_self _)).trans (HC.out 4)
  have HB1 : Hid (Below w.heap.size w w1) := Lib.hid (HB0.out.trans (hb1.mono HB0.out.size))
  have hl1 : w.heap.size < w1.heap.size := by have := hb1.size; rw [hz0] at this; exact this
  clear hb1
  go_wp2_with fail
  refine (widths_any _).mono ?_
  rintro e w2 ⟨rfl, hr2, hb2⟩
  have hr2' : Row .i64 w2 (some ⟨w1.heap.size + 1, 0, none⟩) 5 Wd := by simpa using hr2
  have HR2 := Lib.hid hr2'
  have HB2 : Hid (Below w1.heap.size w1 w2) := Lib.hid ((below_box w1 _).trans (hb2.mono (below_box w1 _).size))
  have hn2 := Lib.hid ((row5 .u64 w1 52 _ _ _ _ _ (Nm k s y q b.size) rfl rfl rfl rfl rfl).kept hb2 (Nat.le_refl _))
  clear hr2 hr2' hb2
  go_wp2_with fail
  refine (HR.out _ _ _ _ _ hn2.out HR2.out).mono ?_
  rintro e w3 ⟨rfl, hb3⟩
  have hb13 := HB2.out.trans (hb3.mono HB2.out.size)
  have d4 : w3.cell? ⟨w.heap.size, 4, none⟩ = some (.string b) := (hb13.cell (p := ⟨w.heap.size, 4, none⟩) hl1).trans c4
  have HB3 := Lib.hid (HB1.out.trans (hb13.mono HB1.out.size))
  clear hb13 hb3 c0 c1 c2 c3 c4
  go_wp2_with fail
  refine (HS.out _).mono ?_
  rintro e w4 ⟨rfl, hb4⟩
  have HB4 := Lib.hid (HB3.out.trans (hb4.mono HB3.out.size))
  clear hb4
  go_wp2
  go_ret2
  exact ⟨rfl, HB4.out⟩
end PG
end Go.Proofs.YtolcacmkageidacDoor
