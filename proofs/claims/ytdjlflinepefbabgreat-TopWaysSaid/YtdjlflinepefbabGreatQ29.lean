/- 2 texts laid together: each says at its head what it proves. No condition but those that each theorem names. -/
import Derived.Test.YtdjlflinepefbabGreatQ28
import Derived.Test.YtdjlflinepefbabGreatQ14

/- What package ext's Cut, Clip and Over answer, of a list that may be, and that there is room for what they hand back. No condition but those that each theorem names. -/
namespace Go.Proofs.YtdjlflinepefbabGreat
open Go.RowKit
namespace EX
open MM
set_option linter.unusedVariables false
set_option linter.unusedSimpArgs false

/-- As TupEnd, and there is room. -/
def TupC (R : List Ext) (w : World) (r : Ending) (w' : World) : Prop := ∃ (A : Option Addr) (n c : Nat), r = .returned (.tuple #[.slice A n c, .int .i64 0]) ∧ n = R.length ∧ n ≤ c ∧ Exs w' A R ∧ ((A = none ∧ c = 0) ∨ ∃ b o, A = some ⟨b, o, none⟩) ∧ Below w.heap.size w w'
theorem room {w : World} {base : Nat} {e : TypeId} {size : Nat} {A : Option Addr} {k c n : Nat} {xs : List Value} (h : w.ownsRow base e size (.slice A k c) n xs) : k ≤ c := by
  rcases h.2 with ⟨h1, h2⟩ | ⟨g, cap, cur, h1, _, _, h2, _⟩
  · injection h1 with _ e1 e2
    omega
  · injection h1 with _ e1 e2
    omega
theorem good_own {w : World} {base : Nat} {e : TypeId} {size : Nat} {A : Option Addr} {k c n : Nat} {xs : List Value} (h : w.ownsRow base e size (.slice A k c) n xs) : (A = none ∧ c = 0) ∨ ∃ b o, A = some ⟨b, o, none⟩ := by
  rcases h.2 with ⟨h1, h2⟩ | ⟨g, cap, cur, h1, _⟩
  · injection h1 with e0 e1 e2
    exact .inl ⟨e0, e2⟩
  · injection h1 with e0 e1 e2
    exact .inr ⟨_, _, e0⟩
theorem TupC.of {R : List Ext} {w w' : World} {v : Value} {base : Nat} (h : w'.ownsRow base 41 4 v R.length (exCells R)) (hb : Below w.heap.size w w') : TupC R w (.returned (.tuple #[v, .int .i64 0])) w' := by
  obtain ⟨A, c, rfl, hx⟩ := own_exs h
  exact ⟨A, _, c, rfl, rfl, room h, hx, good_own h, hb⟩

set_option maxHeartbeats 2000000 in
theorem clip_yesC (L : List Ext) (len cap : Nat) (hlen : len = L.length) (hm : len ≤ maxLen) (a : Option Addr) (f n : Int) (w : World) (hr : Exs w a L) (hv : Valid L) (hg : Rng f n 16777216) :
    Calls Tryz.prog 60 #[.slice a len cap, .int .i64 f, .int .i64 n] w (TupC (clip L f n) w) := by
  have HC := Lib.hid (check_any L len cap hlen hm a w hr fun e he => (hv.1 e he).wf)
  rw [decide_eq_true hv] at HC
  have HW := Lib.hid (within_yes f n 16777216 (by decide) hg)
  have hg' := hg
  obtain ⟨g1, g2, g3⟩ := hg
  have hl := valid_len hv
  have HR := Lib.hid hr
  have HV := Lib.hid hv
  have HL := Lib.hid hlen
  have hl' : len ≤ 16777216 := by omega
  clear hm hr hv hlen hl hg'
  go_enter Tryz.func60, Tryz.ntmps60
  go_wp2_with fail
  refine HC.out.mono ?_
  rintro r w1 ⟨rfl, hb1⟩
  have HB1 := Lib.hid hb1
  clear hb1 HC
  go_wp2_with fail
  refine (HW.out _).mono ?_
  rintro r w2 ⟨rfl, rfl⟩
  have HP := Lib.hid (part_any w.heap.size [] L f (f + n) (.slice none 0 0) a len cap w1 HL.out (by omega) HV.out.1 g1 (by omega) (by omega) (by omega) ⟨w, HR.out, Nat.le_refl _, HB1.out⟩ (nil_own _ _) HB1.out.size (part_one HV.out f (f + n)))
  go_wp2_with fail
  refine HP.out.mono ?_
  rintro r w3 ⟨v3, rfl, own3, hb3⟩
  have H3 := Lib.hid own3
  have HB3 := Lib.hid (HB1.out.trans hb3)
  clear own3 hb3 HP
  go_wp2
  go_ret2
  exact TupC.of H3.out HB3.out

set_option maxHeartbeats 2000000 in
theorem cut_yesC (L : List Ext) (len cap : Nat) (hlen : len = L.length) (hm : len ≤ maxLen) (a : Option Addr) (f n : Int) (w : World) (hr : Exs w a L) (hv : Valid L) (hg : Rng f n 16777216) :
    Calls Tryz.prog 33 #[.slice a len cap, .int .i64 f, .int .i64 n] w (TupC (cut L f n) w) := by
  have HC := Lib.hid (check_any L len cap hlen hm a w hr fun e he => (hv.1 e he).wf)
  rw [decide_eq_true hv] at HC
  have HW := Lib.hid (within_yes f n 16777216 (by decide) hg)
  have hg' := hg
  obtain ⟨g1, g2, g3⟩ := hg
  have hl := valid_len hv
  have HR := Lib.hid hr
  have HV := Lib.hid hv
  have HL := Lib.hid hlen
  have hl' : len ≤ 16777216 := by omega
  clear hm hr hv hlen hl hg'
  go_enter Tryz.func33, Tryz.ntmps33
  go_wp2_with fail
  refine HC.out.mono ?_
  rintro r w1 ⟨rfl, hb1⟩
  have HB1 := Lib.hid hb1
  clear hb1 HC
  go_wp2_with fail
  refine (HW.out _).mono ?_
  rintro r w2 ⟨rfl, rfl⟩
  have HP := Lib.hid (part_any w.heap.size [] L 0 f (.slice none 0 0) a len cap w1 HL.out (by omega) HV.out.1 (by omega) (by omega) (by omega) (by omega) ⟨w, HR.out, Nat.le_refl _, HB1.out⟩ (nil_own _ _) HB1.out.size (part_one HV.out 0 f))
  go_wp2_with fail
  refine HP.out.mono ?_
  rintro r w3 ⟨v3, rfl, own3, hb3⟩
  have hb13 := HB1.out.trans hb3
  have HP2 := Lib.hid (part_any w.heap.size (pushAll [] (clips L 0 f)) L (f + n) 16777216 v3 a len cap w3 HL.out (by omega) HV.out.1 (by omega) (by omega) (by omega) (by omega) ⟨w, HR.out, Nat.le_refl _, hb13⟩ own3 hb13.size (part_two HV.out (part_valid HV.out 0 f) (f + n) 16777216 (fun x hx => by have := part_ends HV.out 0 f x hx; omega)))
  have HB3 := Lib.hid hb13
  clear own3 hb3 HP hb13
  go_wp2_with fail
  refine HP2.out.mono ?_
  rintro r w4 ⟨v4, rfl, own4, hb4⟩
  have H4 := Lib.hid own4
  have HB4 := Lib.hid (HB3.out.trans hb4)
  clear own4 hb4 HP2
  go_wp2
  go_ret2
  exact TupC.of H4.out HB4.out

set_option maxHeartbeats 4000000 in
theorem over_yesC (L : List Ext) (len cap : Nat) (hlen : len = L.length) (hm : len ≤ maxLen) (a : Option Addr) (e : Ext) (w : World) (hr : Exs w a L) (hv : Valid L) (ho : One e) :
    Calls Tryz.prog 34 #[.slice a len cap, .agg #[.int .i64 e.from_, .int .i64 e.n, .int .i64 e.kind, .int .i64 e.at_]] w (TupC (over L e) w) := by
  have HC := Lib.hid (fun w1 (hb : Below w.heap.size w w1) => check_any L len cap hlen hm a w1 (hr.below hb) fun e he => (hv.1 e he).wf)
  rw [decide_eq_true hv] at HC
  have HON := Lib.hid (one_any e ho.wf)
  rw [decide_eq_true ho] at HON
  have o1 := ho.low; have o2 := ho.high; have o3 := ho.pos; have o4 := ho.lt
  have HEN := Lib.hid (fun w => end_any e.from_ e.n e.kind e.at_ (by omega) (by unfold fin at *; omega) (by omega) (by unfold fin at *; omega) w)
  have hl := valid_len hv
  have HR := Lib.hid hr
  have HV := Lib.hid hv
  have HO := Lib.hid ho
  have HL := Lib.hid hlen
  have hl' : len ≤ 16777216 := by omega
  have HE : Hid (∀ w1, Calls Tryz.prog 72 #[.agg #[.int .i64 e.from_, .int .i64 e.n, .int .i64 e.kind, .int .i64 e.at_]] w1 fun r w' => r = .returned (.int .i64 (fin e)) ∧ Below w1.heap.size w1 w') := HEN
  clear hm hr hv hlen hl HEN
  obtain ⟨W, hW⟩ : ∃ W, W = w.alloc (.cells #[.int .i64 e.from_, .int .i64 e.n, .int .i64 e.kind, .int .i64 e.at_] 41) := ⟨_, rfl⟩
  have k1 : Blk W w.heap.size 41 #[.int .i64 e.from_, .int .i64 e.n, .int .i64 e.kind, .int .i64 e.at_] := by rw [hW]; exact Blk.new w _ _
  have hb0 : Below w.heap.size w W := by rw [hW]; exact below_box w _
  have K1 := Lib.hid k1
  have HB0 := Lib.hid hb0
  have HW := Lib.hid hW
  clear hW k1 hb0 ho
  go_enter Tryz.func34, Tryz.ntmps34
  go_wp2_with fail
  rw [← HW.out]
  refine (HC.out _ HB0.out).mono ?_
  rintro r w1 ⟨rfl, hb1⟩
  have k2 := K1.out.below hb1 K1.out.lt
  obtain ⟨⟨a0, a1, a2, a3⟩, _⟩ := cells4 k2
  have HB := Lib.hid (below_kept HB0.out hb1)
  have K2 := Lib.hid k2
  clear hb1 k2
  go_wp2_with fail
  refine (HON.out _).mono ?_
  rintro r w2 ⟨rfl, hb2⟩
  have k3 := K2.out.below hb2 K2.out.lt
  have hb02 := below_kept HB.out hb2
  clear hb2 a0 a1 a2 a3
  have HPA : Hid (∀ w1, Below w2.heap.size w2 w1 → Calls Tryz.prog 70 #[.slice none 0 0, .slice a len cap, .int .i64 0, .int .i64 e.from_] w1 (OwnEnd w2.heap.size (pushAll [] (clips L 0 e.from_)) w1)) := Lib.hid fun w1 h1 =>
    part_any w2.heap.size [] L 0 e.from_ (.slice none 0 0) a len cap w1 HL.out (by omega) HV.out.1 (by omega) (by omega) o1 (by omega) ⟨w2, HR.out.below hb02, Nat.le_refl _, h1⟩ (nil_own _ _) h1.size (part_one HV.out 0 e.from_)
  have HPU : Hid (∀ (w1 : World) (v : Value), w1.ownsRow w2.heap.size 41 4 v (pushAll [] (clips L 0 e.from_)).length (exCells (pushAll [] (clips L 0 e.from_))) → Below w2.heap.size w2 w1 → Calls Tryz.prog 71 #[v, .agg #[.int .i64 e.from_, .int .i64 e.n, .int .i64 e.kind, .int .i64 e.at_]] w1 (OwnEnd w2.heap.size (push (pushAll [] (clips L 0 e.from_)) e) w1)) := Lib.hid fun w1 v h1 h2 =>
    push_any w2.heap.size _ e v w1 h1 h2.size (part_valid HV.out 0 e.from_).1 HO.out (by have := valid_len (part_valid HV.out 0 e.from_); omega)
  have hI : Ov w2.heap.size w.heap.size e w2 w2.drew := ⟨k3, k3.lt, (Below.refl _ _).drew⟩
  have HS := Lib.hid (ov_s hI)
  have HB02 := Lib.hid hb02
  obtain ⟨⟨a0, a1, a2, a3⟩, _⟩ := cells4 k3
  clear hI hb02 k3
  go_wp2
  go_region_held3 (fun w' => w'.cell? ⟨w.heap.size, 0, none⟩ = some (.int .i64 e.from_) ∧ w'.cell? ⟨w.heap.size, 1, none⟩ = some (.int .i64 e.n) ∧ w'.cell? ⟨w.heap.size, 2, none⟩ = some (.int .i64 e.kind) ∧ w'.cell? ⟨w.heap.size, 3, none⟩ = some (.int .i64 e.at_) ∧ Ov w2.heap.size w.heap.size e w2 w') (first | with_reducible exact HS.out | with_reducible assumption) (first | (go_at_call 70; refine (HPA.out _ (ov_of (by assumption)).bel).mono ?_; rintro r w5 ⟨v5, rfl, own5, hb5⟩; have hS5 := ov_s (Ov.go (ov_of (by assumption)) hb5)) | (go_at_call 71; refine (HPU.out _ _ (by assumption) (ov_of (by assumption)).bel).mono ?_; rintro r w6 ⟨v6, rfl, own6, hb6⟩; have hS6 := ov_s (Ov.go (ov_of (by assumption)) hb6)))
  obtain ⟨b0, b1, b2, b3, hov⟩ := hS6
  have hb26 := hov.bel
  have hb06 := HB02.out.trans (hb26.mono HB02.out.size)
  have HQ : Hid (∀ w7, Below w6.heap.size w6 w7 → Calls Tryz.prog 70 #[v6, .slice a len cap, .int .i64 (fin e), .int .i64 16777216] w7 (OwnEnd w2.heap.size (over L e) w7)) := Lib.hid fun w7 h7 =>
    part_any w2.heap.size _ L (fin e) 16777216 v6 a len cap w7 HL.out (by omega) HV.out.1 (by omega) o2 (by decide) (by decide) ⟨w2, HR.out.below HB02.out, Nat.le_refl _, below_up hb26 h7 hb26.size⟩ (own_kept own6 h7) (Nat.le_trans hb26.size h7.size) (part_two HV.out (over_mid HV.out HO.out).valid (fin e) 16777216 (over_mid_ends HV.out HO.out))
  have HB6 := Lib.hid hb06
  clear own5 hb5 hS5 own6 hb6 hov hb26 hb06 HPA HPU HS a0 a1 a2 a3
  go_wp2_with fail
  refine (HE.out _).mono ?_
  rintro r w8 ⟨rfl, hb8⟩
  have HQ8 := Lib.hid (HQ.out _ hb8)
  have HB8 := Lib.hid (below_kept HB6.out hb8)
  clear hb8
  go_wp2_with fail
  refine HQ8.out.mono ?_
  rintro r w9 ⟨v9, rfl, own9, hb9⟩
  have H9 := Lib.hid own9
  have HB9 := Lib.hid (HB8.out.trans (hb9.mono HB02.out.size))
  clear own9 hb9 HQ8
  go_wp2
  go_ret2
  exact TupC.of H9.out HB9.out
end EX
end Go.Proofs.YtdjlflinepefbabGreat

/- Trees of extents as plain data, on: what a change of the extents that touch a range does to the whole list. No program. -/
namespace Go.Proofs.YtdjlflinepefbabGreat.TR
open EX
set_option linter.unusedVariables false
set_option linter.unusedSimpArgs false

/-- A part T of a list M becomes N: the list becomes M'. -/
def Does (M T N M' : List Ext) : Prop := ∃ A B, M = A ++ T ++ B ∧ M' = A ++ N ++ B ∧ Valid M ∧ Valid M' ∧ Valid N ∧ Valid T ∧ N.length ≤ 3
theorem does_over {M : List Ext} {e : Ext} (hM : Valid M) (he : One e) : Does M (touch M e.from_ (fin e)) (over (touch M e.from_ (fin e)) e) (over M e) := by
  obtain ⟨A, B, h1, h2, h3⟩ := split_touch hM.wv e.from_ (fin e) (by have := he.lt; omega)
  have hT : Valid (touch M e.from_ (fin e)) := hM.sub (touch_sub _ _ _)
  refine ⟨A, B, h1, ?_, hM, over_ok hM he, over_ok hT he, hT, over_few hT (fun x hx => (touch_in hx).1) (fun x hx => (touch_in hx).2)⟩
  conv => lhs; rw [h1]
  exact over_local (by rw [← h1]; exact hM) he h2 h3
theorem does_cut {M : List Ext} {f n : Int} (hM : Valid M) (f0 : 0 ≤ f) (n0 : 0 ≤ n) (n1 : n ≤ 16777216 - f) : Does M (touch M f (f + n)) (cut (touch M f (f + n)) f n) (cut M f n) := by
  obtain ⟨A, B, h1, h2, h3⟩ := split_touch hM.wv f (f + n) (by omega)
  have hT : Valid (touch M f (f + n)) := hM.sub (touch_sub _ _ _)
  refine ⟨A, B, h1, ?_, hM, cut_ok hM n0, cut_ok hT n0, hT, by have := cut_few (f := f) (n := n) hT (fun x hx => (touch_in hx).1) (fun x hx => (touch_in hx).2); omega⟩
  conv => lhs; rw [h1]
  exact cut_local (by rw [← h1]; exact hM) f0 n0 n1 h2 h3
theorem Does.same {M T N M' : List Ext} (d : Does M T N M') (h : T = N) : M' = M := by
  obtain ⟨A, B, h1, h2, _⟩ := d
  rw [h1, h2, h]
theorem Does.len {M T N M' : List Ext} (d : Does M T N M') : M'.length ≤ M.length + 3 := by
  obtain ⟨A, B, h1, h2, _, _, _, _, h7⟩ := d
  rw [h1, h2]; simp only [List.length_append]; omega
theorem from_in {e : Ext} (h : One e) : 0 ≤ e.from_ ∧ e.from_ ≤ 16777216 := by have := h.low; have := h.high; have := h.lt; omega
theorem Does.chg {M T N M' : List Ext} {a b : Int} {E : List Ext} (d : Does M T N M') (c : Chg T N a b E) : a ≤ b ∧ 0 ≤ a ∧ b ≤ 16777216 ∧ WV E ∧ E.length ≤ 50 ∧ repl M a b E = M' := by
  obtain ⟨A, B, h1, h2, h3, h4, h5, h6, h7⟩ := d
  have hE : WV E := h5.wv.sub c.sub
  obtain ⟨r1, r2⟩ := chg_repl c (by rw [← h1]; exact h3.wv) (by rw [← h2]; exact h4.wv)
  have hb : 0 ≤ a ∧ b ≤ 16777216 := by
    obtain ⟨P, W, S, p1, p2, p3⟩ := c.parts
    rcases p3 with ⟨q1, q2, q3⟩ | ⟨q1, q2, q3, q4⟩
    · have x1 := from_in (h6.1 _ (by rw [p1]; exact List.mem_append_left _ (List.mem_append_right _ (head_mem q1))))
      have x2 := from_in (h6.1 _ (by rw [p1]; exact List.mem_append_left _ (List.mem_append_right _ (last_mem q1))))
      rw [q2, q3]; exact ⟨x1.1, x2.2⟩
    · have x1 := from_in (hE.1 _ (head_mem q2))
      rw [q4, q3]; exact x1
  have hl := c.sub.length_le
  exact ⟨r1, hb.1, hb.2, hE, by omega, by rw [h1, h2]; exact r2⟩
end Go.Proofs.YtdjlflinepefbabGreat.TR
