/- What scoriaref05.Write answers: of every page. No condition. -/
import Derived.Test.YtolcacmkageidaaPgRA
import Derived.Test.YtolcacmkageidaaRef2
import Derived.Deep.RegionHeld3
namespace Go.Proofs.Ytolcacmkageidaa
open Go.RowKit
namespace PG
open FM CM
set_option linter.unusedVariables false
set_option linter.unusedSimpArgs false

theorem rwrite_no (p : Pg) (h : ¬ May p) (w : World) : Calls Try.prog 11 #[.agg #[.int .i64 p.kind, .int .i64 p.space, .int .i64 p.key, .int .i64 p.seq, .string p.body]] w fun e w' => e = .returned (.tuple #[.string ⟨#[]⟩, .int .i64 1]) ∧ Below w.heap.size w w' := by
  have HM := Lib.hid (rmay_no p h)
  obtain ⟨k, s, y, q, b⟩ := p
  clear h
  go_enter Try.func11, Try.ntmps11
  go_wp2_with fail
  refine (HM.out _).mono ?_
  rintro e w1 ⟨rfl, hb1⟩
  have hb : Below w.heap.size w w1 := (below_box w _).trans (hb1.mono (below_box w _).size)
  go_wp2
  go_ret2
  exact ⟨rfl, hb⟩

/-- What put is asked here, and what it answers. -/
inductive PA (k s y q n : Nat) : Value → Value → ByteArray → Prop
  | a : PA k s y q n (.int .i64 k) (.int .i64 1) (str (fb k 1))
  | b : PA k s y q n (.int .i64 s) (.int .i64 2) (str (fb s 2))
  | c : PA k s y q n (.int .i64 y) (.int .i64 4) (str (fb y 4))
  | d : PA k s y q n (.int .i64 q) (.int .i64 6) (str (fb q 6))
  | e : PA k s y q n (.int .i64 n) (.int .i64 1) (str (fb n 1))

theorem add_run (x y : ByteArray) (h : x.size + y.size ≤ 1000) (w : World) : (Op.stringOp .add x y).run Try.prog w = .ok (.string (x ++ y)) w :=
  run_string_add_sum w _ _ (by omega)

set_option maxHeartbeats 4000000 in
theorem rwrite_yes (p : Pg) (h : May p) (w : World) : Calls Try.prog 11 #[.agg #[.int .i64 p.kind, .int .i64 p.space, .int .i64 p.key, .int .i64 p.seq, .string p.body]] w fun e w' => e = .returned (.tuple #[.string (str (bytes p)), .int .i64 0]) ∧ Below w.heap.size w w' := by
  have HM := Lib.hid (rmay_yes p h)
  obtain ⟨k, s, y, q, b⟩ := p
  obtain ⟨⟨k1, k2⟩, ⟨s1, s2⟩, ⟨y1, y2⟩, ⟨q1, q2⟩, hb⟩ := h
  obtain ⟨k, rfl⟩ := Int.eq_ofNat_of_zero_le (show 0 ≤ k by have : (1 : Int) ≤ k := k1; omega)
  obtain ⟨s, rfl⟩ := Int.eq_ofNat_of_zero_le (show 0 ≤ s from s1)
  obtain ⟨y, rfl⟩ := Int.eq_ofNat_of_zero_le (show 0 ≤ y from y1)
  obtain ⟨q, rfl⟩ := Int.eq_ofNat_of_zero_le (show 0 ≤ q from q1)
  have k3 : (k : Int) ≤ 4 := k2
  have s3 : (s : Int) ≤ 65535 := s2
  have y3 : (y : Int) ≤ 4294967295 := y2
  have q3 : (q : Int) ≤ 281474976710655 := q2
  have b3 : b.size ≤ 100 := hb
  clear k1 k2 s1 s2 y1 y2 q1 q2 hb
  have HP : Hid (∀ v c t, PA k s y q b.size v c t → ∀ w, Calls Try.prog 24 #[v, c] w fun e w' => e = .returned (.string t) ∧ Below w.heap.size w w') := by
    intro v c t h w
    cases h
    · exact rput1 k 1 (by omega) (by decide) (by decide) (by omega) w
    · exact rput1 s 2 (by omega) (by decide) (by decide) (by omega) w
    · exact rput1 y 4 (by omega) (by decide) (by decide) (by omega) w
    · exact rput1 q 6 (by omega) (by decide) (by decide) (by omega) w
    · exact rput1 b.size 1 (by omega) (by decide) (by decide) (by omega) w
  have h1 : str (bytes ⟨k, s, y, q, b⟩) = str (sealed ((⟨#[83, 99]⟩ : ByteArray) ++ str (fb k 1) ++ str (fb s 2) ++ str (fb y 4) ++ str (fb q 6) ++ str (fb b.size 1) ++ b).data.toList) := by
    unfold bytes lay rowb
    simp [str]
  rw [h1]
  clear h1
  have PAa := PA.a (k := k) (s := s) (y := y) (q := q) (n := b.size)
  have PAb := PA.b (k := k) (s := s) (y := y) (q := q) (n := b.size)
  have PAc := PA.c (k := k) (s := s) (y := y) (q := q) (n := b.size)
  have PAd := PA.d (k := k) (s := s) (y := y) (q := q) (n := b.size)
  have PAe := PA.e (k := k) (s := s) (y := y) (q := q) (n := b.size)
  obtain ⟨F1, h1⟩ : ∃ F, F = str (fb k 1) := ⟨_, rfl⟩
  obtain ⟨F2, h2⟩ : ∃ F, F = str (fb s 2) := ⟨_, rfl⟩
  obtain ⟨F3, h3⟩ : ∃ F, F = str (fb y 4) := ⟨_, rfl⟩
  obtain ⟨F4, h4⟩ : ∃ F, F = str (fb q 6) := ⟨_, rfl⟩
  obtain ⟨F5, h5⟩ : ∃ F, F = str (fb b.size 1) := ⟨_, rfl⟩
  rw [← h1] at PAa ⊢
  rw [← h2] at PAb ⊢
  rw [← h3] at PAc ⊢
  rw [← h4] at PAd ⊢
  rw [← h5] at PAe ⊢
  have z1 : F1.size = 1 := by rw [h1, str_size, fb_length]
  have z2 : F2.size = 2 := by rw [h2, str_size, fb_length]
  have z3 : F3.size = 4 := by rw [h3, str_size, fb_length]
  have z4 : F4.size = 6 := by rw [h4, str_size, fb_length]
  have z5 : F5.size = 1 := by rw [h5, str_size, fb_length]
  clear h1 h2 h3 h4 h5
  have a1 := add_run ⟨#[83, 99]⟩ F1 (by rw [z1]; decide)
  obtain ⟨X1, x1⟩ : ∃ X, X = (⟨#[83, 99]⟩ : ByteArray) ++ F1 := ⟨_, rfl⟩
  have y1 : X1.size = 3 := by rw [x1, ByteArray.size_append, z1]; rfl
  rw [← x1] at a1 ⊢
  have a2 := add_run X1 F2 (by omega)
  obtain ⟨X2, x2⟩ : ∃ X, X = X1 ++ F2 := ⟨_, rfl⟩
  have y2 : X2.size = 5 := by rw [x2, ByteArray.size_append, y1, z2]
  rw [← x2] at a2 ⊢
  have a3 := add_run X2 F3 (by omega)
  obtain ⟨X3, x3⟩ : ∃ X, X = X2 ++ F3 := ⟨_, rfl⟩
  have y3' : X3.size = 9 := by rw [x3, ByteArray.size_append, y2, z3]
  rw [← x3] at a3 ⊢
  have a4 := add_run X3 F4 (by omega)
  obtain ⟨X4, x4⟩ : ∃ X, X = X3 ++ F4 := ⟨_, rfl⟩
  have y4 : X4.size = 15 := by rw [x4, ByteArray.size_append, y3', z4]
  rw [← x4] at a4 ⊢
  have a5 := add_run X4 F5 (by omega)
  obtain ⟨X5, x5⟩ : ∃ X, X = X4 ++ F5 := ⟨_, rfl⟩
  have y5 : X5.size = 16 := by rw [x5, ByteArray.size_append, y4, z5]
  rw [← x5] at a5 ⊢
  have a6 := add_run X5 b (by omega)
  obtain ⟨X6, x6⟩ : ∃ X, X = X5 ++ b := ⟨_, rfl⟩
  have y6 : X6.size ≤ 200 := by rw [x6, ByteArray.size_append, y5]; omega
  rw [← x6] at a6 ⊢
  have HS := Lib.hid (rseal_any X6 (by omega))
  obtain ⟨Z, hZ⟩ : ∃ Z, Z = str (sealed X6.data.toList) := ⟨_, rfl⟩
  rw [← hZ] at HS ⊢
  obtain ⟨w0, hw0⟩ : ∃ w0, w0 = w.alloc (.cells #[.int .i64 k, .int .i64 s, .int .i64 y, .int .i64 q, .string b] 30) := ⟨_, rfl⟩
  have hz0 : w0.heap.size = w.heap.size + 1 := by rw [hw0]; simp
  have hc : ∀ i, w0.cell? ⟨w.heap.size, i, none⟩ = (#[Value.int .i64 k, .int .i64 s, .int .i64 y, .int .i64 q, .string b] : Array Value)[i]? := fun i => by rw [hw0]; exact World.cell?_alloc_new _ _ _ _
  have HC := Lib.hid hc
  have HB0 := Lib.hid (below_box w (.cells #[.int .i64 k, .int .i64 s, .int .i64 y, .int .i64 q, .string b] 30))
  rw [← hw0] at HB0
  have HW0 := Lib.hid hw0
  clear hw0 hc hZ x1 x2 x3 x4 x5 x6 y1 y2 y3' y4 y5 y6 z1 z2 z3 z4 z5 k3 s3 y3 q3 b3
  have HPA := Lib.hid PAa
  have HPB := Lib.hid PAb
  have HPC := Lib.hid PAc
  have HPD := Lib.hid PAd
  have HPE := Lib.hid PAe
  clear PAa PAb PAc PAd PAe
  obtain ⟨L, hL⟩ : ∃ L, L = w.heap.size := ⟨_, rfl⟩
  have HL := Lib.hid hL
  clear hL
  go_enter Try.func11, Try.ntmps11
  go_wp2_with fail
  rw [← HW0.out]
  refine (HM.out _).mono ?_
  rintro e w1 ⟨rfl, hb1⟩
  have hl1 : w.heap.size < w1.heap.size := by have := hb1.size; rw [hz0] at this; exact this
  have c0 : w1.cell? ⟨w.heap.size, 0, none⟩ = some (.int .i64 k) := (hb1.cell (p := ⟨w.heap.size, 0, none⟩) (by rw [hz0]; exact Nat.lt_succ_self _)).trans (HC.out 0)
  have c1 : w1.cell? ⟨w.heap.size, 1, none⟩ = some (.int .i64 s) := (hb1.cell (p := ⟨w.heap.size, 1, none⟩) (by rw [hz0]; exact Nat.lt_succ_self _)).trans (HC.out 1)
  have c2 : w1.cell? ⟨w.heap.size, 2, none⟩ = some (.int .i64 y) := (hb1.cell (p := ⟨w.heap.size, 2, none⟩) (by rw [hz0]; exact Nat.lt_succ_self _)).trans (HC.out 2)
  have c3 : w1.cell? ⟨w.heap.size, 3, none⟩ = some (.int .i64 q) := (hb1.cell (p := ⟨w.heap.size, 3, none⟩) (by rw [hz0]; exact Nat.lt_succ_self _)).trans (HC.out 3)
  have c4 : w1.cell? ⟨w.heap.size, 4, none⟩ = some (.string b) := (hb1.cell (p := ⟨w.heap.size, 4, none⟩) (by rw [hz0]; exact Nat.lt_succ_self _)).trans (HC.out 4)
  have hb : Below w.heap.size w w1 := HB0.out.trans (hb1.mono HB0.out.size)
  clear hb1 hz0
  go_wp2
  go_region_held3 (fun w' => w'.cell? ⟨w.heap.size, 0, none⟩ = some (.int .i64 k) ∧ w'.cell? ⟨w.heap.size, 1, none⟩ = some (.int .i64 s) ∧ w'.cell? ⟨w.heap.size, 2, none⟩ = some (.int .i64 y) ∧ w'.cell? ⟨w.heap.size, 3, none⟩ = some (.int .i64 q) ∧ w'.cell? ⟨w.heap.size, 4, none⟩ = some (.string b) ∧ w.heap.size < w'.heap.size ∧ Below w.heap.size w w') (first | exact ⟨c0, c1, c2, c3, c4, hl1, hb⟩ | exact ⟨c0, c1, c2, c3, c4, hl1, hb.drew⟩ | assumption) (first
    | (go_at_call 24; refine (HP.out _ _ _ (by first | exact HPA.out | exact HPB.out | exact HPC.out | exact HPD.out | exact HPE.out) _).mono ?_; rintro e w2 ⟨rfl, hb2⟩; have hS2 := keepS w k s y q b (by assumption) hb2)
    | (go_at_call 23; refine (HS.out _).mono ?_; rintro e w2 ⟨rfl, hb2⟩; have hS2 := keepS w k s y q b (by assumption) hb2))
  all_goals (try go_wp2)
  all_goals go_ret2
  all_goals exact ⟨rfl, hS2.2.2.2.2.2.2⟩
end PG
end Go.Proofs.Ytolcacmkageidaa
