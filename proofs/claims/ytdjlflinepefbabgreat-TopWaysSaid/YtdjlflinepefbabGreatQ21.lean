/- tree's change.across, if change.of does what it says of the nodes. No condition but those that each theorem names. -/
import Derived.Test.YtdjlflinepefbabGreatQ20

namespace Go.Proofs.YtdjlflinepefbabGreat
open Go.RowKit
namespace TR
open MM EX LF
set_option linter.unusedVariables false
set_option linter.unusedSimpArgs false

theorem of_far {P : Nat → Prop} {h : Nat} {t : Tr h} {a b : Int} {E : List Ext} {w w1 : World} (hb : Below w.heap.size w w1) {r : Ending} {w' : World} (x : OfEnd P h t a b E w1 r w') : OfEnd P h t a b E w r w' := by
  obtain ⟨A, n, c, R, h1, h2, h3, h4, h5, h6, h7⟩ := x
  have hsz := hb.size
  exact ⟨A, n, c, R, h1, h2, h3, h4.mono (fun b hb _ => hb.elim .inl (fun h => .inr (Nat.le_trans hsz h))), h5, h6.low hsz, bkept hb h7⟩
def AcEnd (P : Nat → Prop) (h : Nat) (l : List (Tr h)) (a b : Int) (E : List Ext) (w : World) (r : Ending) (w' : World) : Prop :=
  ∃ A n c R, r = .returned (.slice A n c) ∧ n = R.length ∧ n ≤ c ∧ NdsP (fun b => P b ∨ w.heap.size ≤ b) h w' A R ∧ CameL h l a b E R ∧ Mk w.heap.size h l R ∧ Below w.heap.size w w'
theorem ac_one {P : Nat → Prop} {h : Nat} {t : Tr h} {a b : Int} {E : List Ext} {w : World} {r : Ending} {w' : World} (x : OfEnd P h t a b E w r w') : AcEnd P h [t] a b E w r w' := by
  obtain ⟨A, n, c, R, h1, h2, h3, h4, h5, h6, h7⟩ := x
  exact ⟨A, n, c, R, h1, h2, h3, h4, cameL_one h5, h6, h7⟩
/-- The kids stand in a range: the first one ends, and the last one begins, within it. -/
def Ranged (h : Nat) (l : List (Tr h)) (a b : Int) : Prop := ∀ x m y, l = x :: (m ++ [y]) → (∀ e ∈ flat h x, e.from_ ≤ b) ∧ (∀ e ∈ flats h m, a ≤ e.from_ ∧ e.from_ ≤ b) ∧ (∀ e ∈ flat h y, a ≤ e.from_)
def AcOk (h : Nat) : Prop := ∀ (P : Nat → Prop) (a b : Int) (E : List Ext) (l : List (Tr h)) (w : World) (C : Option Addr) (n c : Nat) (A : Option Addr) (m d : Nat), a ≤ b → 0 ≤ a → b ≤ 16777216 → WV E → E.length ≤ 50 → n = E.length → n ≤ c → ExsP P w C E → GoodA C c → (∀ t ∈ l, Weak h t) → WV (flats h l) → m = l.length → 1 ≤ m → m ≤ 8 → m ≤ d → NdsP P h w A l → Ranged h l a b →
  Calls Tryz.prog 114 #[.agg #[.int .i64 a, .int .i64 b, .slice C n c], .slice A m d] w (AcEnd P h l a b E w)
/-- A change in a block of its own. -/
structure Cg (w : World) (L : Nat) (a b : Int) (e : Value) (w' : World) : Prop where
  chg : Blk w' L 146 #[.int .i64 a, .int .i64 b, e]
  bel : Below w.heap.size w w'
theorem Cg.below {w : World} {L : Nat} {a b : Int} {e : Value} {w1 w2 : World} (h : Cg w L a b e w1) (hb : Below w1.heap.size w1 w2) : Cg w L a b e w2 := ⟨h.chg.below hb h.chg.lt, bkept h.bel hb⟩
/-- Two changes in blocks of their own. -/
structure Cg2 (w : World) (L7 : Nat) (e7 : Value) (L8 : Nat) (e8 : Value) (a b : Int) (w' : World) : Prop where
  c7 : Blk w' L7 146 #[.int .i64 a, .int .i64 b, e7]
  c8 : Blk w' L8 146 #[.int .i64 a, .int .i64 b, e8]
  bel : Below w.heap.size w w'
theorem Cg2.below {w : World} {L7 L8 : Nat} {a b : Int} {e7 e8 : Value} {w1 w2 : World} (h : Cg2 w L7 e7 L8 e8 a b w1) (hb : Below w1.heap.size w1 w2) : Cg2 w L7 e7 L8 e8 a b w2 := ⟨h.c7.below hb h.c7.lt, h.c8.below hb h.c8.lt, bkept h.bel hb⟩
theorem kid_at {P : Nat → Prop} {h : Nat} {w : World} {A : Option Addr} {l : List (Tr h)} (x : NdsP P h w A l) {i : Nat} {t : Tr h} (ht : l[i]? = some t) : ∃ b o, A = some ⟨b, o, none⟩ ∧ b < w.heap.size ∧ w.cell? ⟨b, o + i, none⟩ = some (vl h t) := by
  rcases x.vals with h0 | ⟨b, o, h1, h2, _, h3⟩
  · rw [List.map_eq_nil_iff] at h0; rw [h0] at ht; simp at ht
  · exact ⟨b, o, h1, h2, h3 i _ (by rw [List.getElem?_map, ht]; rfl)⟩
theorem Mk.two_ {n m h : Nat} {x y : Tr h} {mm R1 R2 : List (Tr h)} (h2 : Mk n h [y] R2) (h1 : Mk m h [x] R1) (hnm : n ≤ m) (hx : ∀ b ∈ blocksL h R2, b < m) (hy : ∀ b ∈ blocks h x, b < m) : Mk n h (x :: (mm ++ [y])) (R1 ++ R2) := by
  have e2 : Mk n h ([x] ++ [y] ++ []) ([x] ++ R2 ++ []) := h2.mid
  have e1 : Mk m h ([] ++ [x] ++ R2) ([] ++ R1 ++ R2) := h1.mid
  simp only [List.nil_append, List.append_nil] at e1 e2
  refine (e2.trans e1 hnm ?_).sub ?_
  · intro b hb
    rw [blocksL_append, blocksL_cons, blocksL_nil, List.append_nil] at hb
    rcases List.mem_append.1 hb with hb | hb
    · exact hy b hb
    · exact hx b hb
  · show [x, y].Sublist (x :: (mm ++ [y]))
    exact List.Sublist.cons_cons _ (List.sublist_append_right _ _)
theorem NdsP.many {P : Nat → Prop} {h : Nat} {w : World} {l l' : List (Tr h)} {A : Option Addr} (hv : ValsP P w A ((l ++ l').map (vl h))) (h1 : ∀ t ∈ l, RepP P h w t) (h2 : ∀ t ∈ l', RepP P h w t) : NdsP P h w A (l ++ l') :=
  ⟨hv, fun t ht => (List.mem_append.1 ht).elim (h1 t) (h2 t)⟩
/-- Both parts are there: the call that puts them together. -/
theorem ac_calls {P : Nat → Prop} {h : Nat} {l : List (Tr h)} {a b : Int} {E : List Ext} {w w6 W : World} (hbw : Below w.heap.size w w6) (hb6 : Below w6.heap.size w6 W) {A1 A2 : Option Addr} {n1 n2 c1 c2 : Nat} {R1 R2 : List (Tr h)} (h1 : n1 = R1.length) (h2 : n2 = R2.length) (q1 : NdsP (fun b => P b ∨ w.heap.size ≤ b) h w6 A1 R1) (q2 : NdsP (fun b => P b ∨ w.heap.size ≤ b) h w6 A2 R2)
    (cm : CameL h l a b E (R1 ++ R2)) (mk : Mk w.heap.size h l (R1 ++ R2)) {p : Nat} (hp : p < W.heap.size) (g0 : W.cell? ⟨p, 0, none⟩ = some (.slice A1 n1 c1)) (g1 : W.cell? ⟨p, 1, none⟩ = some (.slice A2 n2 c2)) :
    Calls Tryz.prog 113 #[.slice (some ⟨p, 0, none⟩) 2 2] W fun r w' => AcEnd P h l a b E w r w' ∧ Below W.heap.size W w' := by
  have hl := cm.2.2.2
  rw [List.length_append] at hl
  have hv : Vals W (some ⟨p, 0, none⟩) ([(⟨A1, n1, c1, R1.map (vl h)⟩ : It), ⟨A2, n2, c2, R2.map (vl h)⟩].map It.val) := .inr ⟨p, 0, rfl, hp, fun i v hi => by
    match i, hi with
    | 0, hi => rw [show v = .slice A1 n1 c1 by simpa [It.val] using hi.symm]; exact g0
    | 1, hi => rw [show v = .slice A2 n2 c2 by simpa [It.val] using hi.symm]; exact g1
    | i + 2, hi => simp at hi⟩
  have hc := concatN_any [(⟨A1, n1, c1, R1.map (vl h)⟩ : It), ⟨A2, n2, c2, R2.map (vl h)⟩] (some ⟨p, 0, none⟩) 2 2 rfl (by omega) W hv (fun x hx => by
    rcases List.mem_cons.1 hx with rfl | hx
    · exact It.ok_nds h1 (q1.nds.vals.below hb6)
    · rw [List.mem_singleton.1 hx]; exact It.ok_nds h2 (q2.nds.vals.below hb6)) (by simp [tot]; omega)
  refine hc.mono ?_
  rintro r w1 ⟨A, m, c, rfl, hm, hown, hb1⟩
  refine ⟨⟨A, m, c, R1 ++ R2, rfl, ?_, own_cap hown, ?_, cm, mk, bkept hbw (bkept hb6 hb1)⟩, hb1⟩
  · rw [hm, List.length_append]; simp [tot]; omega
  · have hcat : cat [(⟨A1, n1, c1, R1.map (vl h)⟩ : It), ⟨A2, n2, c2, R2.map (vl h)⟩] = (R1 ++ R2).map (vl h) := by simp [cat]
    have hb61 := bkept hb6 hb1
    have hz : w.heap.size ≤ W.heap.size := Nat.le_trans hbw.size hb6.size
    refine NdsP.many ?_ (fun t ht => (q1.reps t ht).keep hb61.size (fun b _ hlt => hb61.block b hlt)) (fun t ht => (q2.reps t ht).keep hb61.size (fun b _ hlt => hb61.block b hlt))
    have hml : m = ((R1 ++ R2).map (vl h)).length := by rw [hm]; simp [tot]; omega
    rw [← hm, hcat] at hown
    have hown' : w1.ownsRow W.heap.size 80 1 (.slice A m c) ((R1 ++ R2).map (vl h)).length ((R1 ++ R2).map (vl h)) := by rw [← hml]; exact hown
    exact (own_valsP hown').mono (fun b hb _ => .inr (Nat.le_trans hz hb))
theorem rep_far {P : Nat → Prop} {w V : World} (hz : w.heap.size ≤ V.heap.size) {h : Nat} {W : World} {A : Option Addr} {R : List (Tr h)} (x : NdsP (fun b => P b ∨ V.heap.size ≤ b) h W A R) : NdsP (fun b => P b ∨ w.heap.size ≤ b) h W A R := x.mono (fun b hb _ => hb.elim .inl (fun h => .inr (Nat.le_trans hz h)))
/-- The left part first, or the right one. -/
theorem ac_left {P : Nat → Prop} {h : Nat} {x y : Tr h} {m : List (Tr h)} {a b : Int} {E1 E2 : List Ext} {w V w5 w6 W : World} (hV : Below w.heap.size w V) (hy : RepP P h w y) (hr : (∀ e ∈ flat h x, e.from_ ≤ b) ∧ (∀ e ∈ flats h m, a ≤ e.from_ ∧ e.from_ ≤ b) ∧ (∀ e ∈ flat h y, a ≤ e.from_)) {A1 A2 : Option Addr} {n1 n2 c1 c2 : Nat}
    (o1 : OfEnd P h x a b E1 V (.returned (.slice A1 n1 c1)) w5) (o2 : OfEnd P h y a b E2 w5 (.returned (.slice A2 n2 c2)) w6) (hb6 : Below w6.heap.size w6 W) {p : Nat} (hp : p < W.heap.size) (g0 : W.cell? ⟨p, 0, none⟩ = some (.slice A1 n1 c1)) (g1 : W.cell? ⟨p, 1, none⟩ = some (.slice A2 n2 c2)) :
    Calls Tryz.prog 113 #[.slice (some ⟨p, 0, none⟩) 2 2] W fun r w' => AcEnd P h (x :: (m ++ [y])) a b (E1 ++ E2) w r w' ∧ Below W.heap.size W w' := by
  obtain ⟨_, _, _, R1, e1, h1, _, q1, k1, m1, b1⟩ := o1
  cases e1
  obtain ⟨_, _, _, R2, e2, h2, _, q2, k2, m2, b2⟩ := o2
  cases e2
  have hb5 := bkept hV b1
  refine ac_calls (bkept hb5 b2) hb6 h1 h2 (rep_far hV.size (q1.keep b2.size (fun b _ hlt => b2.block b hlt))) (rep_far hb5.size q2) (cameL_two hr.1 hr.2.1 hr.2.2 k1 k2) ?_ hp g0 g1
  exact (Mk.two m1 m2 b1.size (fun b hb => q1.nds.lt b hb) (fun b hb => Nat.lt_of_lt_of_le (hy.rep.lt b hb) hb5.size)).low hV.size
theorem ac_right {P : Nat → Prop} {h : Nat} {x y : Tr h} {m : List (Tr h)} {a b : Int} {E1 E2 : List Ext} {w V w5 w6 W : World} (hV : Below w.heap.size w V) (hx : RepP P h w x) (hr : (∀ e ∈ flat h x, e.from_ ≤ b) ∧ (∀ e ∈ flats h m, a ≤ e.from_ ∧ e.from_ ≤ b) ∧ (∀ e ∈ flat h y, a ≤ e.from_)) {A1 A2 : Option Addr} {n1 n2 c1 c2 : Nat}
    (o1 : OfEnd P h x a b E1 w5 (.returned (.slice A1 n1 c1)) w6) (o2 : OfEnd P h y a b E2 V (.returned (.slice A2 n2 c2)) w5) (hb6 : Below w6.heap.size w6 W) {p : Nat} (hp : p < W.heap.size) (g0 : W.cell? ⟨p, 0, none⟩ = some (.slice A1 n1 c1)) (g1 : W.cell? ⟨p, 1, none⟩ = some (.slice A2 n2 c2)) :
    Calls Tryz.prog 113 #[.slice (some ⟨p, 0, none⟩) 2 2] W fun r w' => AcEnd P h (x :: (m ++ [y])) a b (E1 ++ E2) w r w' ∧ Below W.heap.size W w' := by
  obtain ⟨_, _, _, R1, e1, h1, _, q1, k1, m1, b1⟩ := o1
  cases e1
  obtain ⟨_, _, _, R2, e2, h2, _, q2, k2, m2, b2⟩ := o2
  cases e2
  have hb5 := bkept hV b2
  refine ac_calls (bkept hb5 b1) hb6 h1 h2 (rep_far hb5.size q1) (rep_far hV.size (q2.keep b1.size (fun b _ hlt => b1.block b hlt))) (cameL_two hr.1 hr.2.1 hr.2.2 k1 k2) ?_ hp g0 g1
  exact (Mk.two_ m2 m1 b2.size (fun b hb => q2.nds.lt b hb) (fun b hb => Nat.lt_of_lt_of_le (hx.rep.lt b hb) hb5.size)).low hV.size
set_option maxRecDepth 100000 in
set_option maxHeartbeats 4000000 in
theorem across0_one (ho : OfOk 0) (P : Nat → Prop) (a b : Int) (E : List Ext) (t : Tr 0) (w : World) (C : Option Addr) (n c : Nat) (A : Option Addr) (d : Nat) (hab : a ≤ b) (h0 : 0 ≤ a) (hb9 : b ≤ 16777216) (hE : WV E) (hE5 : E.length ≤ 50) (hn : n = E.length) (hc : n ≤ c) (hx : ExsP P w C E) (hg : GoodA C c) (ht : Weak 0 t) (hv : WV (flats 0 [t])) (hA : NdsP P 0 w A [t]) :
    Calls Tryz.prog 114 #[.agg #[.int .i64 a, .int .i64 b, .slice C n c], .slice A 1 d] w (AcEnd P 0 [t] a b E w) := by
  obtain ⟨kb, ko, rfl, hkb, hkc⟩ := kid_at hA (i := 0) (t := t) rfl
  rw [Nat.add_zero] at hkc
  rw [flats_one] at hv
  have hrt := hA.reps t List.mem_cons_self
  obtain ⟨BB, hBB⟩ : ∃ B, B = blk 0 t := ⟨_, rfl⟩
  have e1 : vl 0 t = .iface 156 (.pointer (some ⟨BB, 0, none⟩)) := by rw [hBB]; rfl
  have HO : Hid (∀ W, Below w.heap.size w W → Calls Tryz.prog 85 #[.agg #[.int .i64 a, .int .i64 b, .slice C n c], .iface 156 (.pointer (some ⟨BB, 0, none⟩))] W fun r w' => AcEnd P 0 [t] a b E w r w' ∧ Below W.heap.size W w') := Lib.hid fun W hW => by
    rw [← e1]
    refine (ho P a b E t W C n c hab h0 hb9 hE hE5 hn hc (hx.keep hW.size (fun b _ hlt => hW.block b hlt)) hg ht hv (hrt.keep hW.size (fun b _ hlt => hW.block b hlt))).mono fun r w' x => ⟨ac_one (of_far hW x), ?_⟩
    obtain ⟨_, _, _, _, _, _, _, _, _, _, h7⟩ := x
    exact h7
  rw [e1] at hkc
  obtain ⟨W, hW⟩ : ∃ W, W = w.alloc (.cells #[.int .i64 a, .int .i64 b, .slice C n c] 146) := ⟨_, rfl⟩
  have hb0 : Below w.heap.size w W := by rw [hW]; exact (Below.refl _ _).alloc (Nat.le_refl _) _
  have HI : Hid (Cg w w.heap.size a b (.slice C n c) W.drew) := Lib.hid ⟨by rw [hW]; exact Blk.new w _ _, hb0.drew⟩
  have HW := Lib.hid hW
  have HKC := Lib.hid hkc
  have HKB := Lib.hid hkb
  clear hkc hkb hW hb0 hab h0 hb9 hE hE5 hn hc hx hg ht hv hA hrt e1 hBB
  go_enter Tryz.func114, Tryz.ntmps114
  go_wp2
  rw [← HW.out]
  have d0 : ∀ x : Wd (Cg w w.heap.size a b (.slice C n c)), x.w.cell? ⟨w.heap.size, 0, none⟩ = some (.int .i64 a) := fun x => x.ok.chg.cell 0
  have d1 : ∀ x : Wd (Cg w w.heap.size a b (.slice C n c)), x.w.cell? ⟨w.heap.size, 1, none⟩ = some (.int .i64 b) := fun x => x.ok.chg.cell 1
  have d2 : ∀ x : Wd (Cg w w.heap.size a b (.slice C n c)), x.w.cell? ⟨w.heap.size, 2, none⟩ = some (.slice C n c) := fun x => x.ok.chg.cell 2
  have d3 : ∀ x : Wd (Cg w w.heap.size a b (.slice C n c)), x.w.cell? ⟨kb, ko, none⟩ = some (.iface 156 (.pointer (some ⟨BB, 0, none⟩))) := fun x => (x.ok.bel.cell (p := ⟨kb, ko, none⟩) HKB.out).trans HKC.out
  have HS0 := Lib.hid (⟨d0 ⟨_, HI.out⟩, d1 ⟨_, HI.out⟩, d2 ⟨_, HI.out⟩, d3 ⟨_, HI.out⟩, HI.out⟩ : _ ∧ _ ∧ _ ∧ _ ∧ Cg w w.heap.size a b (.slice C n c) W.drew)
  have HSF : Hid (∀ w', Cg w w.heap.size a b (.slice C n c) w' → w'.cell? ⟨w.heap.size, 0, none⟩ = some (.int .i64 a) ∧ w'.cell? ⟨w.heap.size, 1, none⟩ = some (.int .i64 b) ∧ w'.cell? ⟨w.heap.size, 2, none⟩ = some (.slice C n c) ∧ w'.cell? ⟨kb, ko, none⟩ = some (.iface 156 (.pointer (some ⟨BB, 0, none⟩))) ∧ Cg w w.heap.size a b (.slice C n c) w') := Lib.hid fun w' x => ⟨d0 ⟨_, x⟩, d1 ⟨_, x⟩, d2 ⟨_, x⟩, d3 ⟨_, x⟩, x⟩
  clear d0 d1 d2 d3
  go_region_held3 (fun w' => w'.cell? ⟨w.heap.size, 0, none⟩ = some (.int .i64 a) ∧ w'.cell? ⟨w.heap.size, 1, none⟩ = some (.int .i64 b) ∧ w'.cell? ⟨w.heap.size, 2, none⟩ = some (.slice C n c) ∧ w'.cell? ⟨kb, ko, none⟩ = some (.iface 156 (.pointer (some ⟨BB, 0, none⟩))) ∧ Cg w w.heap.size a b (.slice C n c) w') (first | with_reducible exact HS0.out | with_reducible assumption) ((go_at_call 85; (with_reducible refine (HO.out _ HI.out.bel).mono ?_); rintro r w5 ⟨⟨A5, n5, c5, R5, rfl, hrest⟩, hb5⟩; have HRE := Lib.hid hrest; have hS5 := HSF.out _ (HI.out.below hb5); clear hrest hb5))
  all_goals
    go_wp2
    go_ret
    exact ⟨A5, n5, c5, R5, rfl, HRE.out⟩
set_option maxRecDepth 100000 in
set_option maxHeartbeats 4000000 in
theorem across1_one {h : Nat} (ho : OfOk (h + 1)) (P : Nat → Prop) (a b : Int) (E : List Ext) (t : Tr (h + 1)) (w : World) (C : Option Addr) (n c : Nat) (A : Option Addr) (d : Nat) (hab : a ≤ b) (h0 : 0 ≤ a) (hb9 : b ≤ 16777216) (hE : WV E) (hE5 : E.length ≤ 50) (hn : n = E.length) (hc : n ≤ c) (hx : ExsP P w C E) (hg : GoodA C c) (ht : Weak (h + 1) t) (hv : WV (flats (h + 1) [t])) (hA : NdsP P (h + 1) w A [t]) :
    Calls Tryz.prog 114 #[.agg #[.int .i64 a, .int .i64 b, .slice C n c], .slice A 1 d] w (AcEnd P (h + 1) [t] a b E w) := by
  obtain ⟨kb, ko, rfl, hkb, hkc⟩ := kid_at hA (i := 0) (t := t) rfl
  rw [Nat.add_zero] at hkc
  rw [flats_one] at hv
  have hrt := hA.reps t List.mem_cons_self
  obtain ⟨BB, hBB⟩ : ∃ B, B = blk (h + 1) t := ⟨_, rfl⟩
  have e1 : vl (h + 1) t = .iface 161 (.pointer (some ⟨BB, 0, none⟩)) := by rw [hBB]; rfl
  have HO : Hid (∀ W, Below w.heap.size w W → Calls Tryz.prog 85 #[.agg #[.int .i64 a, .int .i64 b, .slice C n c], .iface 161 (.pointer (some ⟨BB, 0, none⟩))] W fun r w' => AcEnd P (h + 1) [t] a b E w r w' ∧ Below W.heap.size W w') := Lib.hid fun W hW => by
    rw [← e1]
    refine (ho P a b E t W C n c hab h0 hb9 hE hE5 hn hc (hx.keep hW.size (fun b _ hlt => hW.block b hlt)) hg ht hv (hrt.keep hW.size (fun b _ hlt => hW.block b hlt))).mono fun r w' x => ⟨ac_one (of_far hW x), ?_⟩
    obtain ⟨_, _, _, _, _, _, _, _, _, _, h7⟩ := x
    exact h7
  rw [e1] at hkc
  obtain ⟨W, hW⟩ : ∃ W, W = w.alloc (.cells #[.int .i64 a, .int .i64 b, .slice C n c] 146) := ⟨_, rfl⟩
  have hb0 : Below w.heap.size w W := by rw [hW]; exact (Below.refl _ _).alloc (Nat.le_refl _) _
  have HI : Hid (Cg w w.heap.size a b (.slice C n c) W.drew) := Lib.hid ⟨by rw [hW]; exact Blk.new w _ _, hb0.drew⟩
  have HW := Lib.hid hW
  have HKC := Lib.hid hkc
  have HKB := Lib.hid hkb
  clear hkc hkb hW hb0 hab h0 hb9 hE hE5 hn hc hx hg ht hv hA hrt e1 hBB
  go_enter Tryz.func114, Tryz.ntmps114
  go_wp2
  rw [← HW.out]
  have d0 : ∀ x : Wd (Cg w w.heap.size a b (.slice C n c)), x.w.cell? ⟨w.heap.size, 0, none⟩ = some (.int .i64 a) := fun x => x.ok.chg.cell 0
  have d1 : ∀ x : Wd (Cg w w.heap.size a b (.slice C n c)), x.w.cell? ⟨w.heap.size, 1, none⟩ = some (.int .i64 b) := fun x => x.ok.chg.cell 1
  have d2 : ∀ x : Wd (Cg w w.heap.size a b (.slice C n c)), x.w.cell? ⟨w.heap.size, 2, none⟩ = some (.slice C n c) := fun x => x.ok.chg.cell 2
  have d3 : ∀ x : Wd (Cg w w.heap.size a b (.slice C n c)), x.w.cell? ⟨kb, ko, none⟩ = some (.iface 161 (.pointer (some ⟨BB, 0, none⟩))) := fun x => (x.ok.bel.cell (p := ⟨kb, ko, none⟩) HKB.out).trans HKC.out
  have HS0 := Lib.hid (⟨d0 ⟨_, HI.out⟩, d1 ⟨_, HI.out⟩, d2 ⟨_, HI.out⟩, d3 ⟨_, HI.out⟩, HI.out⟩ : _ ∧ _ ∧ _ ∧ _ ∧ Cg w w.heap.size a b (.slice C n c) W.drew)
  have HSF : Hid (∀ w', Cg w w.heap.size a b (.slice C n c) w' → w'.cell? ⟨w.heap.size, 0, none⟩ = some (.int .i64 a) ∧ w'.cell? ⟨w.heap.size, 1, none⟩ = some (.int .i64 b) ∧ w'.cell? ⟨w.heap.size, 2, none⟩ = some (.slice C n c) ∧ w'.cell? ⟨kb, ko, none⟩ = some (.iface 161 (.pointer (some ⟨BB, 0, none⟩))) ∧ Cg w w.heap.size a b (.slice C n c) w') := Lib.hid fun w' x => ⟨d0 ⟨_, x⟩, d1 ⟨_, x⟩, d2 ⟨_, x⟩, d3 ⟨_, x⟩, x⟩
  clear d0 d1 d2 d3
  go_region_held3 (fun w' => w'.cell? ⟨w.heap.size, 0, none⟩ = some (.int .i64 a) ∧ w'.cell? ⟨w.heap.size, 1, none⟩ = some (.int .i64 b) ∧ w'.cell? ⟨w.heap.size, 2, none⟩ = some (.slice C n c) ∧ w'.cell? ⟨kb, ko, none⟩ = some (.iface 161 (.pointer (some ⟨BB, 0, none⟩))) ∧ Cg w w.heap.size a b (.slice C n c) w') (first | with_reducible exact HS0.out | with_reducible assumption) ((go_at_call 85; (with_reducible refine (HO.out _ HI.out.bel).mono ?_); rintro r w5 ⟨⟨A5, n5, c5, R5, rfl, hrest⟩, hb5⟩; have HRE := Lib.hid hrest; have hS5 := HSF.out _ (HI.out.below hb5); clear hrest hb5))
  all_goals
    go_wp2
    go_ret
    exact ⟨A5, n5, c5, R5, rfl, HRE.out⟩
set_option maxRecDepth 100000 in
set_option maxHeartbeats 8000000 in
theorem across0_two (ho : OfOk 0) (P : Nat → Prop) (a b : Int) (E : List Ext) (x y : Tr 0) (ms : List (Tr 0)) (w : World) (C : Option Addr) (n c : Nat) (A : Option Addr) (m d : Nat) (hab : a ≤ b) (h0 : 0 ≤ a) (hb9 : b ≤ 16777216) (hE : WV E) (hE5 : E.length ≤ 50) (hn : n = E.length) (hc : n ≤ c) (hx : ExsP P w C E) (hg : GoodA C c) (ht : ∀ t ∈ x :: (ms ++ [y]), Weak 0 t) (hv : WV (flats 0 (x :: (ms ++ [y])))) (hm : m = (x :: (ms ++ [y])).length) (hm8 : m ≤ 8) (hA : NdsP P 0 w A (x :: (ms ++ [y]))) (hR : (∀ e ∈ flat 0 x, e.from_ ≤ b) ∧ (∀ e ∈ flats 0 ms, a ≤ e.from_ ∧ e.from_ ≤ b) ∧ (∀ e ∈ flat 0 y, a ≤ e.from_)) :
    Calls Tryz.prog 114 #[.agg #[.int .i64 a, .int .i64 b, .slice C n c], .slice A m d] w (AcEnd P 0 (x :: (ms ++ [y])) a b E w) := by
  obtain ⟨kb, ko, rfl, hkb, hkx⟩ := kid_at hA (i := 0) (t := x) rfl
  rw [Nat.add_zero] at hkx
  obtain ⟨m1, hm1⟩ : ∃ k, k = ms.length + 1 := ⟨_, rfl⟩
  obtain ⟨_, _, heq, _, hky⟩ := kid_at hA (i := m1) (t := y) (by rw [hm1, List.getElem?_cons_succ, List.getElem?_append_right (Nat.le_refl _), Nat.sub_self]; rfl)
  cases heq
  have hmm : m = m1 + 1 := by rw [hm]; simp; omega
  have hyin : y ∈ x :: (ms ++ [y]) := by simp
  have hrx := hA.reps x List.mem_cons_self
  have hry := hA.reps y hyin
  have hwx := ht x List.mem_cons_self
  have hwy := ht y hyin
  have hvx : WV (flat 0 x) := hv.sub (by rw [flats_cons]; exact List.sublist_append_left _ _)
  have hvy : WV (flat 0 y) := hv.sub (by rw [flats_cons, flats_append, flats_one]; exact (List.sublist_append_right _ _).trans (List.sublist_append_right _ _))
  obtain ⟨BX, hBX⟩ : ∃ B, B = blk 0 x := ⟨_, rfl⟩
  obtain ⟨BY, hBY⟩ : ∃ B, B = blk 0 y := ⟨_, rfl⟩
  have ex : vl 0 x = .iface 156 (.pointer (some ⟨BX, 0, none⟩)) := by rw [hBX]; rfl
  have ey : vl 0 y = .iface 156 (.pointer (some ⟨BY, 0, none⟩)) := by rw [hBY]; rfl
  obtain ⟨s, hs⟩ : ∃ s, s = first 0 y := ⟨_, rfl⟩
  obtain ⟨k, hk⟩ : ∃ k, k = ahd E s := ⟨_, rfl⟩
  have hkl := ahd_le E s
  rw [← hk, ← hn] at hkl
  have HFI : Hid (∀ W, Below w.heap.size w W → Calls Tryz.prog 225 #[.pointer (some ⟨BY, 0, none⟩)] W fun r w' => r = .returned (.int .i64 s) ∧ W = w') := Lib.hid fun W hW => by rw [hBY, hs]; exact first_any 0 y hwy W (hry.rep.below hW)
  have HAH : Hid (∀ W, Below w.heap.size w W → Calls Tryz.prog 111 #[.slice C n c, .int .i64 s] W fun r w' => r = .returned (.int .i64 (k : Nat)) ∧ Below W.heap.size W w') := Lib.hid fun W hW => by rw [hk]; exact ahead_any E hE C n c hn (by omega) s W (hx.exs.below hW)
  have hE1 : WV (E.take k) := hE.sub (List.take_sublist k E)
  have hE2 : WV (E.drop k) := hE.sub (List.drop_sublist k E)
  have hx1 : ExsP P w C (E.take k) := by
    rcases hx with h | ⟨b, o, h1, h2, h3, h4⟩
    · exact .inl (by rw [h]; simp)
    · exact .inr ⟨b, o, h1, h2, h3, fun i e he => by
        rw [List.getElem?_take] at he
        split at he
        · exact h4 i e he
        · cases he⟩
  have HO1 : Hid (∀ V, Below w.heap.size w V → Calls Tryz.prog 85 #[.agg #[.int .i64 a, .int .i64 b, .slice C k c], .iface 156 (.pointer (some ⟨BX, 0, none⟩))] V fun r w' => OfEnd P 0 x a b (E.take k) V r w' ∧ Below V.heap.size V w') := Lib.hid fun V hV => by
    rw [← ex]
    refine (ho P a b (E.take k) x V C k c hab h0 hb9 hE1 (by rw [List.length_take]; omega) (by rw [List.length_take]; omega) (by omega) (hx1.keep hV.size (fun b _ hlt => hV.block b hlt)) hg hwx hvx (hrx.keep hV.size (fun b _ hlt => hV.block b hlt))).mono fun r w' x => ⟨x, ?_⟩
    obtain ⟨_, _, _, _, _, _, _, _, _, _, h7⟩ := x
    exact h7
  have HO2g : Hid (∀ C2, ExsP P w C2 (E.drop k) → GoodA C2 (c - k) → ∀ V, Below w.heap.size w V → Calls Tryz.prog 85 #[.agg #[.int .i64 a, .int .i64 b, .slice C2 (n - k) (c - k)], .iface 156 (.pointer (some ⟨BY, 0, none⟩))] V fun r w' => OfEnd P 0 y a b (E.drop k) V r w' ∧ Below V.heap.size V w') := Lib.hid fun C2 hC2 hg2 V hV => by
    rw [← ey]
    refine (ho P a b (E.drop k) y V C2 (n - k) (c - k) hab h0 hb9 hE2 (by rw [List.length_drop]; omega) (by rw [List.length_drop]; omega) (by omega) (hC2.keep hV.size (fun b _ hlt => hV.block b hlt)) hg2 hwy hvy (hry.keep hV.size (fun b _ hlt => hV.block b hlt))).mono fun r w' x => ⟨x, ?_⟩
    obtain ⟨_, _, _, _, _, _, _, _, _, _, h7⟩ := x
    exact h7
  have HEE : Hid (E.take k ++ E.drop k = E) := Lib.hid (List.take_append_drop k E)
  obtain ⟨E1, hEE1⟩ : ∃ l, l = E.take k := ⟨_, rfl⟩
  obtain ⟨E2, hEE2⟩ : ∃ l, l = E.drop k := ⟨_, rfl⟩
  have hlow : c = k → E2 = [] := fun h => by rw [hEE2]; exact List.drop_eq_nil_of_le (by omega)
  have hx2 : ∀ b o, C = some ⟨b, o, none⟩ → ExsP P w (some ⟨b, o + k * 4, none⟩) E2 := fun b o hC => by
    rcases hx with h | ⟨b', o', h1, h2, h3, h4⟩
    · exact .inl (by rw [hEE2, h]; simp)
    · rw [h1] at hC; cases hC
      exact .inr ⟨_, _, rfl, h2, h3, fun i e he => by
        rw [hEE2, List.getElem?_drop] at he
        have := h4 (k + i) e he
        rwa [Nat.add_mul, ← Nat.add_assoc] at this⟩
  have HLOW := Lib.hid hlow
  have HX2 := Lib.hid hx2
  have hgn : C = none → k = 0 ∧ n = 0 ∧ c = 0 := fun h => by
    rcases hg with ⟨_, h1⟩ | ⟨_, _, h1⟩
    · omega
    · rw [h] at h1; cases h1
  have HGN := Lib.hid hgn
  have HKL := Lib.hid hkl
  rw [← hEE1] at HO1 HEE
  rw [← hEE2] at HO2g HEE
  rw [ex] at hkx
  rw [ey] at hky
  obtain ⟨W, hW⟩ : ∃ W, W = w.alloc (.cells #[.int .i64 a, .int .i64 b, .slice C n c] 146) := ⟨_, rfl⟩
  have hb0 : Below w.heap.size w W := by rw [hW]; exact (Below.refl _ _).alloc (Nat.le_refl _) _
  have HI : Hid (Cg w w.heap.size a b (.slice C n c) W) := Lib.hid ⟨by rw [hW]; exact Blk.new w _ _, hb0⟩
  have HW := Lib.hid hW
  have HKX := Lib.hid hkx
  have HKY := Lib.hid hky
  have HKB := Lib.hid hkb
  have HRX := Lib.hid hrx
  have HRY := Lib.hid hry
  have HRG := Lib.hid hR
  have hky' : (w.alloc (.cells #[.int .i64 a, .int .i64 b, .slice C n c] 146)).cell? ⟨kb, ko + m1, none⟩ = some (.iface 156 (.pointer (some ⟨BY, 0, none⟩))) := by rw [← hW]; exact (hb0.cell (p := ⟨kb, ko + m1, none⟩) hkb).trans hky
  have w1_ : IntKind.i64.wrap ((m : Int) - 1) = (m1 : Int) := by rw [IntWalk.i64_in _ (by omega)]; omega
  have y1_ : (0 : Int) ≤ (m1 : Int) := by omega
  have y2_ : (m1 : Int) < (m : Int) := by omega
  have y3_ : ((m : Int) == 1) = false := by simp; omega
  have y4_ : (0 : Int) < (m : Int) := by omega
  have y5_ : 0 < m := by omega
  have k1_ : (0 : Int) ≤ (k : Int) := by omega
  have k2_ : (k : Int) ≤ (c : Int) := by omega
  have k3_ : (k : Int) ≤ (n : Int) := by omega
  have k4_ : (n : Int) ≤ (c : Int) := by omega
  have HSF : Hid (∀ w', Cg w w.heap.size a b (.slice C n c) w' → w'.cell? ⟨w.heap.size, 0, none⟩ = some (.int .i64 a) ∧ w'.cell? ⟨w.heap.size, 1, none⟩ = some (.int .i64 b) ∧ w'.cell? ⟨w.heap.size, 2, none⟩ = some (.slice C n c) ∧ Cg w w.heap.size a b (.slice C n c) w') := Lib.hid fun w' x => ⟨x.chg.cell 0, x.chg.cell 1, x.chg.cell 2, x⟩
  have HX := Lib.hid hx
  have HGG := Lib.hid hg
  clear hkx hky hkb hW hb0 hab h0 hb9 hE hE5 hn hc hx hg ht hv hA ex ey hBX hBY hrx hry hwx hwy hvx hvy hm hm1 hmm hyin hs hk hkl hE1 hE2 hx1 hEE1 hEE2 hlow hx2 hgn hR hm8
  go_enter Tryz.func114, Tryz.ntmps114
  go_wp2
  rw [← HW.out]
  clear hky'
  have HS0 := Lib.hid (HSF.out _ (HI.out.below (Below.refl _ _).drew))
  go_region_held3 (fun w' => w'.cell? ⟨w.heap.size, 0, none⟩ = some (.int .i64 a) ∧ w'.cell? ⟨w.heap.size, 1, none⟩ = some (.int .i64 b) ∧ w'.cell? ⟨w.heap.size, 2, none⟩ = some (.slice C n c) ∧ Cg w w.heap.size a b (.slice C n c) w') (first | with_reducible exact HS0.out | with_reducible assumption) (first | (go_at_call 225; (with_reducible refine (HFI.out _ HS0.out.2.2.2.bel).mono ?_); rintro r w2 ⟨rfl, hw2⟩; subst hw2) | (go_at_call 111; (with_reducible refine (HAH.out _ HS0.out.2.2.2.bel).mono ?_); rintro r w3 ⟨rfl, hb3⟩; have hS3 := HSF.out _ (HS0.out.2.2.2.below hb3); clear hb3))
  have HC3 : Hid (Cg w w.heap.size a b (.slice C n c) w3) := Lib.hid hS3.2.2.2
  clear hS3 HS0
  rcases HGG.out with ⟨rfl, hc0⟩ | ⟨cb, co, rfl⟩
  · obtain ⟨rfl, rfl, rfl⟩ := HGN.out rfl
    have HO2 := Lib.hid (HO2g.out none (.inl (HLOW.out rfl)) (.inl ⟨rfl, rfl⟩))
    clear hc0
    have HS4 := Lib.hid (HSF.out _ (HC3.out.below (Below.refl _ _).drew))
    have HZ4 := Lib.hid (HSF.out _ (HC3.out.below ((below_box w3 (.cells #[.int .i64 a, .int .i64 b, .slice none 0 0] 146)).drew)))
    go_wp2
    go_region_held3 (fun w' => w'.cell? ⟨w.heap.size, 0, none⟩ = some (.int .i64 a) ∧ w'.cell? ⟨w.heap.size, 1, none⟩ = some (.int .i64 b) ∧ w'.cell? ⟨w.heap.size, 2, none⟩ = some (.slice none 0 0) ∧ Cg w w.heap.size a b (.slice none 0 0) w') (first | with_reducible exact HS4.out | with_reducible assumption | with_reducible exact HZ4.out | exact HSF.out _ ((HS4.out.2.2.2).below (below_box _ _))) (fail)
    obtain ⟨V5, hV5⟩ : ∃ V, V = (w3.alloc (.cells #[.int .i64 a, .int .i64 b, .slice none 0 0] 146)).drew := ⟨_, rfl⟩
    have HV5 := Lib.hid hV5
    have HC5 : Hid (Cg w w.heap.size a b (.slice none 0 0) V5) := Lib.hid (by rw [hV5]; exact HZ4.out.2.2.2)
    have HL5 : Hid (Blk V5 w3.heap.size 146 #[.int .i64 a, .int .i64 b, .slice none 0 0]) := Lib.hid (by rw [hV5]; exact Blk.new w3 _ _)
    rw [← hV5]
    clear hV5 HS4 HZ4
    have HS5 := Lib.hid (HSF.out _ (HC5.out.below (Below.refl _ _).drew))
    have HZ5 := Lib.hid (HSF.out _ (HC5.out.below ((below_box V5 (.cells #[.int .i64 a, .int .i64 b, .slice none 0 0] 146)).drew)))
    go_wp2
    go_region_held3 (fun w' => w'.cell? ⟨w.heap.size, 0, none⟩ = some (.int .i64 a) ∧ w'.cell? ⟨w.heap.size, 1, none⟩ = some (.int .i64 b) ∧ w'.cell? ⟨w.heap.size, 2, none⟩ = some (.slice none 0 0) ∧ Cg w w.heap.size a b (.slice none 0 0) w') (first | with_reducible exact HS5.out | with_reducible assumption | with_reducible exact HZ5.out | exact HSF.out _ ((HS5.out.2.2.2).below (below_box _ _))) (fail)
    obtain ⟨V6, hV6⟩ : ∃ V, V = (V5.alloc (.cells #[.int .i64 a, .int .i64 b, .slice none 0 0] 146)).drew := ⟨_, rfl⟩
    have hb56 : Below V5.heap.size V5 V6 := by rw [hV6]; exact (below_box V5 _).drew
    have HC6 : Hid (Cg2 w w3.heap.size (.slice none 0 0) V5.heap.size (.slice none 0 0) a b V6) := Lib.hid ⟨HL5.out.below hb56 HL5.out.lt, by rw [hV6]; exact Blk.new V5 _ _, bkept HC5.out.bel hb56⟩
    rw [← hV6]
    clear hV6 hb56 HS5 HZ5
    have HSG : Hid (∀ w', Cg2 w w3.heap.size (.slice none 0 0) V5.heap.size (.slice none 0 0) a b w' → w'.cell? ⟨w3.heap.size, 0, none⟩ = some (.int .i64 a) ∧ w'.cell? ⟨w3.heap.size, 1, none⟩ = some (.int .i64 b) ∧ w'.cell? ⟨w3.heap.size, 2, none⟩ = some (.slice none 0 0) ∧ w'.cell? ⟨V5.heap.size, 0, none⟩ = some (.int .i64 a) ∧ w'.cell? ⟨V5.heap.size, 1, none⟩ = some (.int .i64 b) ∧ w'.cell? ⟨V5.heap.size, 2, none⟩ = some (.slice none 0 0) ∧ w'.cell? ⟨kb, ko, none⟩ = some (.iface 156 (.pointer (some ⟨BX, 0, none⟩))) ∧ Cg2 w w3.heap.size (.slice none 0 0) V5.heap.size (.slice none 0 0) a b w') := Lib.hid fun w' x => ⟨x.c7.cell 0, x.c7.cell 1, x.c7.cell 2, x.c8.cell 0, x.c8.cell 1, x.c8.cell 2, (x.bel.cell (p := ⟨kb, ko, none⟩) HKB.out).trans HKX.out, x⟩
    have HS6 := Lib.hid (HSG.out _ (HC6.out.below (Below.refl _ _).drew))
    go_wp2
    go_region_held3 (fun w' => w'.cell? ⟨w3.heap.size, 0, none⟩ = some (.int .i64 a) ∧ w'.cell? ⟨w3.heap.size, 1, none⟩ = some (.int .i64 b) ∧ w'.cell? ⟨w3.heap.size, 2, none⟩ = some (.slice none 0 0) ∧ w'.cell? ⟨V5.heap.size, 0, none⟩ = some (.int .i64 a) ∧ w'.cell? ⟨V5.heap.size, 1, none⟩ = some (.int .i64 b) ∧ w'.cell? ⟨V5.heap.size, 2, none⟩ = some (.slice none 0 0) ∧ w'.cell? ⟨kb, ko, none⟩ = some (.iface 156 (.pointer (some ⟨BX, 0, none⟩))) ∧ Cg2 w w3.heap.size (.slice none 0 0) V5.heap.size (.slice none 0 0) a b w') (first | with_reducible exact HS6.out | with_reducible assumption | exact HSG.out _ (Cg2.below (by with_reducible assumption) (below_box _ _))) (first | (go_at_call 85; (with_reducible refine (HO1.out _ HS6.out.2.2.2.2.2.2.2.bel).mono ?_); rintro r w5 ⟨⟨A5, n5, c5, R5, rfl, hrest⟩, hb5⟩; have HO5 : Hid (OfEnd P 0 x a b E1 V6.drew (.returned (.slice A5 n5 c5)) w5) := Lib.hid ⟨A5, n5, c5, R5, rfl, hrest⟩; have hC5 := HS6.out.2.2.2.2.2.2.2.below hb5; have hS5 := HSG.out _ hC5; clear hrest hb5) | (go_at_call 85; (with_reducible refine (HO2.out _ HS6.out.2.2.2.2.2.2.2.bel).mono ?_); rintro r w6 ⟨⟨A6, n6, c6, R6, rfl, hrest⟩, hb6⟩; have HO6 : Hid (OfEnd P 0 y a b E2 V6.drew (.returned (.slice A6 n6 c6)) w6) := Lib.hid ⟨A6, n6, c6, R6, rfl, hrest⟩; have hC6 := HS6.out.2.2.2.2.2.2.2.below hb6; have hS6 := HSG.out _ hC6; clear hrest hb6) | (go_at_call 85; (with_reducible refine (HO2.out _ hC5.bel).mono ?_); rintro r w6 ⟨⟨A6, n6, c6, R6, rfl, hrest⟩, hb6⟩; have HO6 : Hid (OfEnd P 0 y a b E2 w5 (.returned (.slice A6 n6 c6)) w6) := Lib.hid ⟨A6, n6, c6, R6, rfl, hrest⟩; have hC6 := hC5.below hb6; have hS6 := HSG.out _ hC6; clear hrest hb6) | (go_at_call 85; (with_reducible refine (HO1.out _ hC6.bel).mono ?_); rintro r w5 ⟨⟨A5, n5, c5, R5, rfl, hrest⟩, hb5⟩; have HO5 : Hid (OfEnd P 0 x a b E1 w6 (.returned (.slice A5 n5 c5)) w5) := Lib.hid ⟨A5, n5, c5, R5, rfl, hrest⟩; have hC5 := hC6.below hb5; have hS5 := HSG.out _ hC5; clear hrest hb5) | (go_at_call 113; refine (ac_left HS6.out.2.2.2.2.2.2.2.bel HRY.out HRG.out HO5.out HO6.out (below_box _ _) (by simp) (by exact World.cell?_alloc_new _ _ _ _) (by exact World.cell?_alloc_new _ _ _ _)).mono ?_; rintro r w7 ⟨⟨A7, n7, c7, R7, rfl, hrest⟩, hb7⟩; have HRE := Lib.hid hrest; have hS7 := HSG.out _ ((hC6.below (below_box _ _)).below hb7); clear hrest hb7) | (go_at_call 113; refine (ac_right HS6.out.2.2.2.2.2.2.2.bel HRX.out HRG.out HO5.out HO6.out (below_box _ _) (by simp) (by exact World.cell?_alloc_new _ _ _ _) (by exact World.cell?_alloc_new _ _ _ _)).mono ?_; rintro r w7 ⟨⟨A7, n7, c7, R7, rfl, hrest⟩, hb7⟩; have HRE := Lib.hid hrest; have hS7 := HSG.out _ ((hC5.below (below_box _ _)).below hb7); clear hrest hb7))
    all_goals
      go_wp2
      go_ret
      rw [HEE.out] at HRE
      exact ⟨A7, n7, c7, R7, rfl, HRE.out⟩
  · by_cases hcc : c = k
    · have HO2 := Lib.hid (HO2g.out (some ⟨cb, co, none⟩) (.inl (HLOW.out hcc)) (.inr ⟨_, _, rfl⟩))
      subst hcc
      rw [Nat.sub_self] at HO2
      have HS4 := Lib.hid (HSF.out _ (HC3.out.below (Below.refl _ _).drew))
      have HZ4 := Lib.hid (HSF.out _ (HC3.out.below ((below_box w3 (.cells #[.int .i64 a, .int .i64 b, .slice (some ⟨cb, co, none⟩) c c] 146)).drew)))
      go_wp2
      go_region_held3 (fun w' => w'.cell? ⟨w.heap.size, 0, none⟩ = some (.int .i64 a) ∧ w'.cell? ⟨w.heap.size, 1, none⟩ = some (.int .i64 b) ∧ w'.cell? ⟨w.heap.size, 2, none⟩ = some (.slice (some ⟨cb, co, none⟩) n c) ∧ Cg w w.heap.size a b (.slice (some ⟨cb, co, none⟩) n c) w') (first | with_reducible exact HS4.out | with_reducible assumption | with_reducible exact HZ4.out | exact HSF.out _ ((HS4.out.2.2.2).below (below_box _ _))) (fail)
      obtain ⟨V5, hV5⟩ : ∃ V, V = (w3.alloc (.cells #[.int .i64 a, .int .i64 b, .slice (some ⟨cb, co, none⟩) c c] 146)).drew := ⟨_, rfl⟩
      have HV5 := Lib.hid hV5
      have HC5 : Hid (Cg w w.heap.size a b (.slice (some ⟨cb, co, none⟩) n c) V5) := Lib.hid (by rw [hV5]; exact HZ4.out.2.2.2)
      have HL5 : Hid (Blk V5 w3.heap.size 146 #[.int .i64 a, .int .i64 b, .slice (some ⟨cb, co, none⟩) c c]) := Lib.hid (by rw [hV5]; exact Blk.new w3 _ _)
      rw [← hV5]
      clear hV5 HS4 HZ4
      have HS5 := Lib.hid (HSF.out _ (HC5.out.below (Below.refl _ _).drew))
      have HZ5 := Lib.hid (HSF.out _ (HC5.out.below ((below_box V5 (.cells #[.int .i64 a, .int .i64 b, .slice (some ⟨cb, co, none⟩) (n - c) 0] 146)).drew)))
      go_wp2
      go_region_held3 (fun w' => w'.cell? ⟨w.heap.size, 0, none⟩ = some (.int .i64 a) ∧ w'.cell? ⟨w.heap.size, 1, none⟩ = some (.int .i64 b) ∧ w'.cell? ⟨w.heap.size, 2, none⟩ = some (.slice (some ⟨cb, co, none⟩) n c) ∧ Cg w w.heap.size a b (.slice (some ⟨cb, co, none⟩) n c) w') (first | with_reducible exact HS5.out | with_reducible assumption | with_reducible exact HZ5.out | exact HSF.out _ ((HS5.out.2.2.2).below (below_box _ _))) (fail)
      obtain ⟨V6, hV6⟩ : ∃ V, V = (V5.alloc (.cells #[.int .i64 a, .int .i64 b, .slice (some ⟨cb, co, none⟩) (n - c) 0] 146)).drew := ⟨_, rfl⟩
      have hb56 : Below V5.heap.size V5 V6 := by rw [hV6]; exact (below_box V5 _).drew
      have HC6 : Hid (Cg2 w w3.heap.size (.slice (some ⟨cb, co, none⟩) c c) V5.heap.size (.slice (some ⟨cb, co, none⟩) (n - c) 0) a b V6) := Lib.hid ⟨HL5.out.below hb56 HL5.out.lt, by rw [hV6]; exact Blk.new V5 _ _, bkept HC5.out.bel hb56⟩
      rw [← hV6]
      clear hV6 hb56 HS5 HZ5
      have HSG : Hid (∀ w', Cg2 w w3.heap.size (.slice (some ⟨cb, co, none⟩) c c) V5.heap.size (.slice (some ⟨cb, co, none⟩) (n - c) 0) a b w' → w'.cell? ⟨w3.heap.size, 0, none⟩ = some (.int .i64 a) ∧ w'.cell? ⟨w3.heap.size, 1, none⟩ = some (.int .i64 b) ∧ w'.cell? ⟨w3.heap.size, 2, none⟩ = some (.slice (some ⟨cb, co, none⟩) c c) ∧ w'.cell? ⟨V5.heap.size, 0, none⟩ = some (.int .i64 a) ∧ w'.cell? ⟨V5.heap.size, 1, none⟩ = some (.int .i64 b) ∧ w'.cell? ⟨V5.heap.size, 2, none⟩ = some (.slice (some ⟨cb, co, none⟩) (n - c) 0) ∧ w'.cell? ⟨kb, ko, none⟩ = some (.iface 156 (.pointer (some ⟨BX, 0, none⟩))) ∧ Cg2 w w3.heap.size (.slice (some ⟨cb, co, none⟩) c c) V5.heap.size (.slice (some ⟨cb, co, none⟩) (n - c) 0) a b w') := Lib.hid fun w' x => ⟨x.c7.cell 0, x.c7.cell 1, x.c7.cell 2, x.c8.cell 0, x.c8.cell 1, x.c8.cell 2, (x.bel.cell (p := ⟨kb, ko, none⟩) HKB.out).trans HKX.out, x⟩
      have HS6 := Lib.hid (HSG.out _ (HC6.out.below (Below.refl _ _).drew))
      go_wp2
      go_region_held3 (fun w' => w'.cell? ⟨w3.heap.size, 0, none⟩ = some (.int .i64 a) ∧ w'.cell? ⟨w3.heap.size, 1, none⟩ = some (.int .i64 b) ∧ w'.cell? ⟨w3.heap.size, 2, none⟩ = some (.slice (some ⟨cb, co, none⟩) c c) ∧ w'.cell? ⟨V5.heap.size, 0, none⟩ = some (.int .i64 a) ∧ w'.cell? ⟨V5.heap.size, 1, none⟩ = some (.int .i64 b) ∧ w'.cell? ⟨V5.heap.size, 2, none⟩ = some (.slice (some ⟨cb, co, none⟩) (n - c) 0) ∧ w'.cell? ⟨kb, ko, none⟩ = some (.iface 156 (.pointer (some ⟨BX, 0, none⟩))) ∧ Cg2 w w3.heap.size (.slice (some ⟨cb, co, none⟩) c c) V5.heap.size (.slice (some ⟨cb, co, none⟩) (n - c) 0) a b w') (first | with_reducible exact HS6.out | with_reducible assumption | exact HSG.out _ (Cg2.below (by with_reducible assumption) (below_box _ _))) (first | (go_at_call 85; (with_reducible refine (HO1.out _ HS6.out.2.2.2.2.2.2.2.bel).mono ?_); rintro r w5 ⟨⟨A5, n5, c5, R5, rfl, hrest⟩, hb5⟩; have HO5 : Hid (OfEnd P 0 x a b E1 V6.drew (.returned (.slice A5 n5 c5)) w5) := Lib.hid ⟨A5, n5, c5, R5, rfl, hrest⟩; have hC5 := HS6.out.2.2.2.2.2.2.2.below hb5; have hS5 := HSG.out _ hC5; clear hrest hb5) | (go_at_call 85; (with_reducible refine (HO2.out _ HS6.out.2.2.2.2.2.2.2.bel).mono ?_); rintro r w6 ⟨⟨A6, n6, c6, R6, rfl, hrest⟩, hb6⟩; have HO6 : Hid (OfEnd P 0 y a b E2 V6.drew (.returned (.slice A6 n6 c6)) w6) := Lib.hid ⟨A6, n6, c6, R6, rfl, hrest⟩; have hC6 := HS6.out.2.2.2.2.2.2.2.below hb6; have hS6 := HSG.out _ hC6; clear hrest hb6) | (go_at_call 85; (with_reducible refine (HO2.out _ hC5.bel).mono ?_); rintro r w6 ⟨⟨A6, n6, c6, R6, rfl, hrest⟩, hb6⟩; have HO6 : Hid (OfEnd P 0 y a b E2 w5 (.returned (.slice A6 n6 c6)) w6) := Lib.hid ⟨A6, n6, c6, R6, rfl, hrest⟩; have hC6 := hC5.below hb6; have hS6 := HSG.out _ hC6; clear hrest hb6) | (go_at_call 85; (with_reducible refine (HO1.out _ hC6.bel).mono ?_); rintro r w5 ⟨⟨A5, n5, c5, R5, rfl, hrest⟩, hb5⟩; have HO5 : Hid (OfEnd P 0 x a b E1 w6 (.returned (.slice A5 n5 c5)) w5) := Lib.hid ⟨A5, n5, c5, R5, rfl, hrest⟩; have hC5 := hC6.below hb5; have hS5 := HSG.out _ hC5; clear hrest hb5) | (go_at_call 113; refine (ac_left HS6.out.2.2.2.2.2.2.2.bel HRY.out HRG.out HO5.out HO6.out (below_box _ _) (by simp) (by exact World.cell?_alloc_new _ _ _ _) (by exact World.cell?_alloc_new _ _ _ _)).mono ?_; rintro r w7 ⟨⟨A7, n7, c7, R7, rfl, hrest⟩, hb7⟩; have HRE := Lib.hid hrest; have hS7 := HSG.out _ ((hC6.below (below_box _ _)).below hb7); clear hrest hb7) | (go_at_call 113; refine (ac_right HS6.out.2.2.2.2.2.2.2.bel HRX.out HRG.out HO5.out HO6.out (below_box _ _) (by simp) (by exact World.cell?_alloc_new _ _ _ _) (by exact World.cell?_alloc_new _ _ _ _)).mono ?_; rintro r w7 ⟨⟨A7, n7, c7, R7, rfl, hrest⟩, hb7⟩; have HRE := Lib.hid hrest; have hS7 := HSG.out _ ((hC5.below (below_box _ _)).below hb7); clear hrest hb7))
      all_goals
        go_wp2
        go_ret
        rw [HEE.out] at HRE
        exact ⟨A7, n7, c7, R7, rfl, HRE.out⟩
    · have HO2 := Lib.hid (HO2g.out (some ⟨cb, co + k * 4, none⟩) (HX2.out _ _ rfl) (.inr ⟨_, _, rfl⟩))
      have HS4 := Lib.hid (HSF.out _ (HC3.out.below (Below.refl _ _).drew))
      have HZ4 := Lib.hid (HSF.out _ (HC3.out.below ((below_box w3 (.cells #[.int .i64 a, .int .i64 b, .slice (some ⟨cb, co, none⟩) k c] 146)).drew)))
      go_wp2
      go_region_held3 (fun w' => w'.cell? ⟨w.heap.size, 0, none⟩ = some (.int .i64 a) ∧ w'.cell? ⟨w.heap.size, 1, none⟩ = some (.int .i64 b) ∧ w'.cell? ⟨w.heap.size, 2, none⟩ = some (.slice (some ⟨cb, co, none⟩) n c) ∧ Cg w w.heap.size a b (.slice (some ⟨cb, co, none⟩) n c) w') (first | with_reducible exact HS4.out | with_reducible assumption | with_reducible exact HZ4.out | exact HSF.out _ ((HS4.out.2.2.2).below (below_box _ _))) (fail)
      obtain ⟨V5, hV5⟩ : ∃ V, V = (w3.alloc (.cells #[.int .i64 a, .int .i64 b, .slice (some ⟨cb, co, none⟩) k c] 146)).drew := ⟨_, rfl⟩
      have HV5 := Lib.hid hV5
      have HC5 : Hid (Cg w w.heap.size a b (.slice (some ⟨cb, co, none⟩) n c) V5) := Lib.hid (by rw [hV5]; exact HZ4.out.2.2.2)
      have HL5 : Hid (Blk V5 w3.heap.size 146 #[.int .i64 a, .int .i64 b, .slice (some ⟨cb, co, none⟩) k c]) := Lib.hid (by rw [hV5]; exact Blk.new w3 _ _)
      rw [← hV5]
      clear hV5 HS4 HZ4
      have HS5 := Lib.hid (HSF.out _ (HC5.out.below (Below.refl _ _).drew))
      have HZ5 := Lib.hid (HSF.out _ (HC5.out.below ((below_box V5 (.cells #[.int .i64 a, .int .i64 b, .slice (some ⟨cb, co + k * 4, none⟩) (n - k) (c - k)] 146)).drew)))
      go_wp2
      go_region_held3 (fun w' => w'.cell? ⟨w.heap.size, 0, none⟩ = some (.int .i64 a) ∧ w'.cell? ⟨w.heap.size, 1, none⟩ = some (.int .i64 b) ∧ w'.cell? ⟨w.heap.size, 2, none⟩ = some (.slice (some ⟨cb, co, none⟩) n c) ∧ Cg w w.heap.size a b (.slice (some ⟨cb, co, none⟩) n c) w') (first | with_reducible exact HS5.out | with_reducible assumption | with_reducible exact HZ5.out | exact HSF.out _ ((HS5.out.2.2.2).below (below_box _ _))) (fail)
      obtain ⟨V6, hV6⟩ : ∃ V, V = (V5.alloc (.cells #[.int .i64 a, .int .i64 b, .slice (some ⟨cb, co + k * 4, none⟩) (n - k) (c - k)] 146)).drew := ⟨_, rfl⟩
      have hb56 : Below V5.heap.size V5 V6 := by rw [hV6]; exact (below_box V5 _).drew
      have HC6 : Hid (Cg2 w w3.heap.size (.slice (some ⟨cb, co, none⟩) k c) V5.heap.size (.slice (some ⟨cb, co + k * 4, none⟩) (n - k) (c - k)) a b V6) := Lib.hid ⟨HL5.out.below hb56 HL5.out.lt, by rw [hV6]; exact Blk.new V5 _ _, bkept HC5.out.bel hb56⟩
      rw [← hV6]
      clear hV6 hb56 HS5 HZ5
      have HSG : Hid (∀ w', Cg2 w w3.heap.size (.slice (some ⟨cb, co, none⟩) k c) V5.heap.size (.slice (some ⟨cb, co + k * 4, none⟩) (n - k) (c - k)) a b w' → w'.cell? ⟨w3.heap.size, 0, none⟩ = some (.int .i64 a) ∧ w'.cell? ⟨w3.heap.size, 1, none⟩ = some (.int .i64 b) ∧ w'.cell? ⟨w3.heap.size, 2, none⟩ = some (.slice (some ⟨cb, co, none⟩) k c) ∧ w'.cell? ⟨V5.heap.size, 0, none⟩ = some (.int .i64 a) ∧ w'.cell? ⟨V5.heap.size, 1, none⟩ = some (.int .i64 b) ∧ w'.cell? ⟨V5.heap.size, 2, none⟩ = some (.slice (some ⟨cb, co + k * 4, none⟩) (n - k) (c - k)) ∧ w'.cell? ⟨kb, ko, none⟩ = some (.iface 156 (.pointer (some ⟨BX, 0, none⟩))) ∧ Cg2 w w3.heap.size (.slice (some ⟨cb, co, none⟩) k c) V5.heap.size (.slice (some ⟨cb, co + k * 4, none⟩) (n - k) (c - k)) a b w') := Lib.hid fun w' x => ⟨x.c7.cell 0, x.c7.cell 1, x.c7.cell 2, x.c8.cell 0, x.c8.cell 1, x.c8.cell 2, (x.bel.cell (p := ⟨kb, ko, none⟩) HKB.out).trans HKX.out, x⟩
      have HS6 := Lib.hid (HSG.out _ (HC6.out.below (Below.refl _ _).drew))
      go_wp2
      go_region_held3 (fun w' => w'.cell? ⟨w3.heap.size, 0, none⟩ = some (.int .i64 a) ∧ w'.cell? ⟨w3.heap.size, 1, none⟩ = some (.int .i64 b) ∧ w'.cell? ⟨w3.heap.size, 2, none⟩ = some (.slice (some ⟨cb, co, none⟩) k c) ∧ w'.cell? ⟨V5.heap.size, 0, none⟩ = some (.int .i64 a) ∧ w'.cell? ⟨V5.heap.size, 1, none⟩ = some (.int .i64 b) ∧ w'.cell? ⟨V5.heap.size, 2, none⟩ = some (.slice (some ⟨cb, co + k * 4, none⟩) (n - k) (c - k)) ∧ w'.cell? ⟨kb, ko, none⟩ = some (.iface 156 (.pointer (some ⟨BX, 0, none⟩))) ∧ Cg2 w w3.heap.size (.slice (some ⟨cb, co, none⟩) k c) V5.heap.size (.slice (some ⟨cb, co + k * 4, none⟩) (n - k) (c - k)) a b w') (first | with_reducible exact HS6.out | with_reducible assumption | exact HSG.out _ (Cg2.below (by with_reducible assumption) (below_box _ _))) (first | (go_at_call 85; (with_reducible refine (HO1.out _ HS6.out.2.2.2.2.2.2.2.bel).mono ?_); rintro r w5 ⟨⟨A5, n5, c5, R5, rfl, hrest⟩, hb5⟩; have HO5 : Hid (OfEnd P 0 x a b E1 V6.drew (.returned (.slice A5 n5 c5)) w5) := Lib.hid ⟨A5, n5, c5, R5, rfl, hrest⟩; have hC5 := HS6.out.2.2.2.2.2.2.2.below hb5; have hS5 := HSG.out _ hC5; clear hrest hb5) | (go_at_call 85; (with_reducible refine (HO2.out _ HS6.out.2.2.2.2.2.2.2.bel).mono ?_); rintro r w6 ⟨⟨A6, n6, c6, R6, rfl, hrest⟩, hb6⟩; have HO6 : Hid (OfEnd P 0 y a b E2 V6.drew (.returned (.slice A6 n6 c6)) w6) := Lib.hid ⟨A6, n6, c6, R6, rfl, hrest⟩; have hC6 := HS6.out.2.2.2.2.2.2.2.below hb6; have hS6 := HSG.out _ hC6; clear hrest hb6) | (go_at_call 85; (with_reducible refine (HO2.out _ hC5.bel).mono ?_); rintro r w6 ⟨⟨A6, n6, c6, R6, rfl, hrest⟩, hb6⟩; have HO6 : Hid (OfEnd P 0 y a b E2 w5 (.returned (.slice A6 n6 c6)) w6) := Lib.hid ⟨A6, n6, c6, R6, rfl, hrest⟩; have hC6 := hC5.below hb6; have hS6 := HSG.out _ hC6; clear hrest hb6) | (go_at_call 85; (with_reducible refine (HO1.out _ hC6.bel).mono ?_); rintro r w5 ⟨⟨A5, n5, c5, R5, rfl, hrest⟩, hb5⟩; have HO5 : Hid (OfEnd P 0 x a b E1 w6 (.returned (.slice A5 n5 c5)) w5) := Lib.hid ⟨A5, n5, c5, R5, rfl, hrest⟩; have hC5 := hC6.below hb5; have hS5 := HSG.out _ hC5; clear hrest hb5) | (go_at_call 113; refine (ac_left HS6.out.2.2.2.2.2.2.2.bel HRY.out HRG.out HO5.out HO6.out (below_box _ _) (by simp) (by exact World.cell?_alloc_new _ _ _ _) (by exact World.cell?_alloc_new _ _ _ _)).mono ?_; rintro r w7 ⟨⟨A7, n7, c7, R7, rfl, hrest⟩, hb7⟩; have HRE := Lib.hid hrest; have hS7 := HSG.out _ ((hC6.below (below_box _ _)).below hb7); clear hrest hb7) | (go_at_call 113; refine (ac_right HS6.out.2.2.2.2.2.2.2.bel HRX.out HRG.out HO5.out HO6.out (below_box _ _) (by simp) (by exact World.cell?_alloc_new _ _ _ _) (by exact World.cell?_alloc_new _ _ _ _)).mono ?_; rintro r w7 ⟨⟨A7, n7, c7, R7, rfl, hrest⟩, hb7⟩; have HRE := Lib.hid hrest; have hS7 := HSG.out _ ((hC5.below (below_box _ _)).below hb7); clear hrest hb7))
      all_goals
        go_wp2
        go_ret
        rw [HEE.out] at HRE
        exact ⟨A7, n7, c7, R7, rfl, HRE.out⟩
set_option maxRecDepth 100000 in
set_option maxHeartbeats 8000000 in
theorem across1_two {h : Nat} (ho : OfOk (h + 1)) (P : Nat → Prop) (a b : Int) (E : List Ext) (x y : Tr (h + 1)) (ms : List (Tr (h + 1))) (w : World) (C : Option Addr) (n c : Nat) (A : Option Addr) (m d : Nat) (hab : a ≤ b) (h0 : 0 ≤ a) (hb9 : b ≤ 16777216) (hE : WV E) (hE5 : E.length ≤ 50) (hn : n = E.length) (hc : n ≤ c) (hx : ExsP P w C E) (hg : GoodA C c) (ht : ∀ t ∈ x :: (ms ++ [y]), Weak (h + 1) t) (hv : WV (flats (h + 1) (x :: (ms ++ [y])))) (hm : m = (x :: (ms ++ [y])).length) (hm8 : m ≤ 8) (hA : NdsP P (h + 1) w A (x :: (ms ++ [y]))) (hR : (∀ e ∈ flat (h + 1) x, e.from_ ≤ b) ∧ (∀ e ∈ flats (h + 1) ms, a ≤ e.from_ ∧ e.from_ ≤ b) ∧ (∀ e ∈ flat (h + 1) y, a ≤ e.from_)) :
    Calls Tryz.prog 114 #[.agg #[.int .i64 a, .int .i64 b, .slice C n c], .slice A m d] w (AcEnd P (h + 1) (x :: (ms ++ [y])) a b E w) := by
  obtain ⟨kb, ko, rfl, hkb, hkx⟩ := kid_at hA (i := 0) (t := x) rfl
  rw [Nat.add_zero] at hkx
  obtain ⟨m1, hm1⟩ : ∃ k, k = ms.length + 1 := ⟨_, rfl⟩
  obtain ⟨_, _, heq, _, hky⟩ := kid_at hA (i := m1) (t := y) (by rw [hm1, List.getElem?_cons_succ, List.getElem?_append_right (Nat.le_refl _), Nat.sub_self]; rfl)
  cases heq
  have hmm : m = m1 + 1 := by rw [hm]; simp; omega
  have hyin : y ∈ x :: (ms ++ [y]) := by simp
  have hrx := hA.reps x List.mem_cons_self
  have hry := hA.reps y hyin
  have hwx := ht x List.mem_cons_self
  have hwy := ht y hyin
  have hvx : WV (flat (h + 1) x) := hv.sub (by rw [flats_cons]; exact List.sublist_append_left _ _)
  have hvy : WV (flat (h + 1) y) := hv.sub (by rw [flats_cons, flats_append, flats_one]; exact (List.sublist_append_right _ _).trans (List.sublist_append_right _ _))
  obtain ⟨BX, hBX⟩ : ∃ B, B = blk (h + 1) x := ⟨_, rfl⟩
  obtain ⟨BY, hBY⟩ : ∃ B, B = blk (h + 1) y := ⟨_, rfl⟩
  have ex : vl (h + 1) x = .iface 161 (.pointer (some ⟨BX, 0, none⟩)) := by rw [hBX]; rfl
  have ey : vl (h + 1) y = .iface 161 (.pointer (some ⟨BY, 0, none⟩)) := by rw [hBY]; rfl
  obtain ⟨s, hs⟩ : ∃ s, s = first (h + 1) y := ⟨_, rfl⟩
  obtain ⟨k, hk⟩ : ∃ k, k = ahd E s := ⟨_, rfl⟩
  have hkl := ahd_le E s
  rw [← hk, ← hn] at hkl
  have HFI : Hid (∀ W, Below w.heap.size w W → Calls Tryz.prog 234 #[.pointer (some ⟨BY, 0, none⟩)] W fun r w' => r = .returned (.int .i64 s) ∧ W = w') := Lib.hid fun W hW => by rw [hBY, hs]; exact first_any (h + 1) y hwy W (hry.rep.below hW)
  have HAH : Hid (∀ W, Below w.heap.size w W → Calls Tryz.prog 111 #[.slice C n c, .int .i64 s] W fun r w' => r = .returned (.int .i64 (k : Nat)) ∧ Below W.heap.size W w') := Lib.hid fun W hW => by rw [hk]; exact ahead_any E hE C n c hn (by omega) s W (hx.exs.below hW)
  have hE1 : WV (E.take k) := hE.sub (List.take_sublist k E)
  have hE2 : WV (E.drop k) := hE.sub (List.drop_sublist k E)
  have hx1 : ExsP P w C (E.take k) := by
    rcases hx with h | ⟨b, o, h1, h2, h3, h4⟩
    · exact .inl (by rw [h]; simp)
    · exact .inr ⟨b, o, h1, h2, h3, fun i e he => by
        rw [List.getElem?_take] at he
        split at he
        · exact h4 i e he
        · cases he⟩
  have HO1 : Hid (∀ V, Below w.heap.size w V → Calls Tryz.prog 85 #[.agg #[.int .i64 a, .int .i64 b, .slice C k c], .iface 161 (.pointer (some ⟨BX, 0, none⟩))] V fun r w' => OfEnd P (h + 1) x a b (E.take k) V r w' ∧ Below V.heap.size V w') := Lib.hid fun V hV => by
    rw [← ex]
    refine (ho P a b (E.take k) x V C k c hab h0 hb9 hE1 (by rw [List.length_take]; omega) (by rw [List.length_take]; omega) (by omega) (hx1.keep hV.size (fun b _ hlt => hV.block b hlt)) hg hwx hvx (hrx.keep hV.size (fun b _ hlt => hV.block b hlt))).mono fun r w' x => ⟨x, ?_⟩
    obtain ⟨_, _, _, _, _, _, _, _, _, _, h7⟩ := x
    exact h7
  have HO2g : Hid (∀ C2, ExsP P w C2 (E.drop k) → GoodA C2 (c - k) → ∀ V, Below w.heap.size w V → Calls Tryz.prog 85 #[.agg #[.int .i64 a, .int .i64 b, .slice C2 (n - k) (c - k)], .iface 161 (.pointer (some ⟨BY, 0, none⟩))] V fun r w' => OfEnd P (h + 1) y a b (E.drop k) V r w' ∧ Below V.heap.size V w') := Lib.hid fun C2 hC2 hg2 V hV => by
    rw [← ey]
    refine (ho P a b (E.drop k) y V C2 (n - k) (c - k) hab h0 hb9 hE2 (by rw [List.length_drop]; omega) (by rw [List.length_drop]; omega) (by omega) (hC2.keep hV.size (fun b _ hlt => hV.block b hlt)) hg2 hwy hvy (hry.keep hV.size (fun b _ hlt => hV.block b hlt))).mono fun r w' x => ⟨x, ?_⟩
    obtain ⟨_, _, _, _, _, _, _, _, _, _, h7⟩ := x
    exact h7
  have HEE : Hid (E.take k ++ E.drop k = E) := Lib.hid (List.take_append_drop k E)
  obtain ⟨E1, hEE1⟩ : ∃ l, l = E.take k := ⟨_, rfl⟩
  obtain ⟨E2, hEE2⟩ : ∃ l, l = E.drop k := ⟨_, rfl⟩
  have hlow : c = k → E2 = [] := fun h => by rw [hEE2]; exact List.drop_eq_nil_of_le (by omega)
  have hx2 : ∀ b o, C = some ⟨b, o, none⟩ → ExsP P w (some ⟨b, o + k * 4, none⟩) E2 := fun b o hC => by
    rcases hx with h | ⟨b', o', h1, h2, h3, h4⟩
    · exact .inl (by rw [hEE2, h]; simp)
    · rw [h1] at hC; cases hC
      exact .inr ⟨_, _, rfl, h2, h3, fun i e he => by
        rw [hEE2, List.getElem?_drop] at he
        have := h4 (k + i) e he
        rwa [Nat.add_mul, ← Nat.add_assoc] at this⟩
  have HLOW := Lib.hid hlow
  have HX2 := Lib.hid hx2
  have hgn : C = none → k = 0 ∧ n = 0 ∧ c = 0 := fun h => by
    rcases hg with ⟨_, h1⟩ | ⟨_, _, h1⟩
    · omega
    · rw [h] at h1; cases h1
  have HGN := Lib.hid hgn
  have HKL := Lib.hid hkl
  rw [← hEE1] at HO1 HEE
  rw [← hEE2] at HO2g HEE
  rw [ex] at hkx
  rw [ey] at hky
  obtain ⟨W, hW⟩ : ∃ W, W = w.alloc (.cells #[.int .i64 a, .int .i64 b, .slice C n c] 146) := ⟨_, rfl⟩
  have hb0 : Below w.heap.size w W := by rw [hW]; exact (Below.refl _ _).alloc (Nat.le_refl _) _
  have HI : Hid (Cg w w.heap.size a b (.slice C n c) W) := Lib.hid ⟨by rw [hW]; exact Blk.new w _ _, hb0⟩
  have HW := Lib.hid hW
  have HKX := Lib.hid hkx
  have HKY := Lib.hid hky
  have HKB := Lib.hid hkb
  have HRX := Lib.hid hrx
  have HRY := Lib.hid hry
  have HRG := Lib.hid hR
  have hky' : (w.alloc (.cells #[.int .i64 a, .int .i64 b, .slice C n c] 146)).cell? ⟨kb, ko + m1, none⟩ = some (.iface 161 (.pointer (some ⟨BY, 0, none⟩))) := by rw [← hW]; exact (hb0.cell (p := ⟨kb, ko + m1, none⟩) hkb).trans hky
  have w1_ : IntKind.i64.wrap ((m : Int) - 1) = (m1 : Int) := by rw [IntWalk.i64_in _ (by omega)]; omega
  have y1_ : (0 : Int) ≤ (m1 : Int) := by omega
  have y2_ : (m1 : Int) < (m : Int) := by omega
  have y3_ : ((m : Int) == 1) = false := by simp; omega
  have y4_ : (0 : Int) < (m : Int) := by omega
  have y5_ : 0 < m := by omega
  have k1_ : (0 : Int) ≤ (k : Int) := by omega
  have k2_ : (k : Int) ≤ (c : Int) := by omega
  have k3_ : (k : Int) ≤ (n : Int) := by omega
  have k4_ : (n : Int) ≤ (c : Int) := by omega
  have HSF : Hid (∀ w', Cg w w.heap.size a b (.slice C n c) w' → w'.cell? ⟨w.heap.size, 0, none⟩ = some (.int .i64 a) ∧ w'.cell? ⟨w.heap.size, 1, none⟩ = some (.int .i64 b) ∧ w'.cell? ⟨w.heap.size, 2, none⟩ = some (.slice C n c) ∧ Cg w w.heap.size a b (.slice C n c) w') := Lib.hid fun w' x => ⟨x.chg.cell 0, x.chg.cell 1, x.chg.cell 2, x⟩
  have HX := Lib.hid hx
  have HGG := Lib.hid hg
  clear hkx hky hkb hW hb0 hab h0 hb9 hE hE5 hn hc hx hg ht hv hA ex ey hBX hBY hrx hry hwx hwy hvx hvy hm hm1 hmm hyin hs hk hkl hE1 hE2 hx1 hEE1 hEE2 hlow hx2 hgn hR hm8
  go_enter Tryz.func114, Tryz.ntmps114
  go_wp2
  rw [← HW.out]
  clear hky'
  have HS0 := Lib.hid (HSF.out _ (HI.out.below (Below.refl _ _).drew))
  go_region_held3 (fun w' => w'.cell? ⟨w.heap.size, 0, none⟩ = some (.int .i64 a) ∧ w'.cell? ⟨w.heap.size, 1, none⟩ = some (.int .i64 b) ∧ w'.cell? ⟨w.heap.size, 2, none⟩ = some (.slice C n c) ∧ Cg w w.heap.size a b (.slice C n c) w') (first | with_reducible exact HS0.out | with_reducible assumption) (first | (go_at_call 234; (with_reducible refine (HFI.out _ HS0.out.2.2.2.bel).mono ?_); rintro r w2 ⟨rfl, hw2⟩; subst hw2) | (go_at_call 111; (with_reducible refine (HAH.out _ HS0.out.2.2.2.bel).mono ?_); rintro r w3 ⟨rfl, hb3⟩; have hS3 := HSF.out _ (HS0.out.2.2.2.below hb3); clear hb3))
  have HC3 : Hid (Cg w w.heap.size a b (.slice C n c) w3) := Lib.hid hS3.2.2.2
  clear hS3 HS0
  rcases HGG.out with ⟨rfl, hc0⟩ | ⟨cb, co, rfl⟩
  · obtain ⟨rfl, rfl, rfl⟩ := HGN.out rfl
    have HO2 := Lib.hid (HO2g.out none (.inl (HLOW.out rfl)) (.inl ⟨rfl, rfl⟩))
    clear hc0
    have HS4 := Lib.hid (HSF.out _ (HC3.out.below (Below.refl _ _).drew))
    have HZ4 := Lib.hid (HSF.out _ (HC3.out.below ((below_box w3 (.cells #[.int .i64 a, .int .i64 b, .slice none 0 0] 146)).drew)))
    go_wp2
    go_region_held3 (fun w' => w'.cell? ⟨w.heap.size, 0, none⟩ = some (.int .i64 a) ∧ w'.cell? ⟨w.heap.size, 1, none⟩ = some (.int .i64 b) ∧ w'.cell? ⟨w.heap.size, 2, none⟩ = some (.slice none 0 0) ∧ Cg w w.heap.size a b (.slice none 0 0) w') (first | with_reducible exact HS4.out | with_reducible assumption | with_reducible exact HZ4.out | exact HSF.out _ ((HS4.out.2.2.2).below (below_box _ _))) (fail)
    obtain ⟨V5, hV5⟩ : ∃ V, V = (w3.alloc (.cells #[.int .i64 a, .int .i64 b, .slice none 0 0] 146)).drew := ⟨_, rfl⟩
    have HV5 := Lib.hid hV5
    have HC5 : Hid (Cg w w.heap.size a b (.slice none 0 0) V5) := Lib.hid (by rw [hV5]; exact HZ4.out.2.2.2)
    have HL5 : Hid (Blk V5 w3.heap.size 146 #[.int .i64 a, .int .i64 b, .slice none 0 0]) := Lib.hid (by rw [hV5]; exact Blk.new w3 _ _)
    rw [← hV5]
    clear hV5 HS4 HZ4
    have HS5 := Lib.hid (HSF.out _ (HC5.out.below (Below.refl _ _).drew))
    have HZ5 := Lib.hid (HSF.out _ (HC5.out.below ((below_box V5 (.cells #[.int .i64 a, .int .i64 b, .slice none 0 0] 146)).drew)))
    go_wp2
    go_region_held3 (fun w' => w'.cell? ⟨w.heap.size, 0, none⟩ = some (.int .i64 a) ∧ w'.cell? ⟨w.heap.size, 1, none⟩ = some (.int .i64 b) ∧ w'.cell? ⟨w.heap.size, 2, none⟩ = some (.slice none 0 0) ∧ Cg w w.heap.size a b (.slice none 0 0) w') (first | with_reducible exact HS5.out | with_reducible assumption | with_reducible exact HZ5.out | exact HSF.out _ ((HS5.out.2.2.2).below (below_box _ _))) (fail)
    obtain ⟨V6, hV6⟩ : ∃ V, V = (V5.alloc (.cells #[.int .i64 a, .int .i64 b, .slice none 0 0] 146)).drew := ⟨_, rfl⟩
    have hb56 : Below V5.heap.size V5 V6 := by rw [hV6]; exact (below_box V5 _).drew
    have HC6 : Hid (Cg2 w w3.heap.size (.slice none 0 0) V5.heap.size (.slice none 0 0) a b V6) := Lib.hid ⟨HL5.out.below hb56 HL5.out.lt, by rw [hV6]; exact Blk.new V5 _ _, bkept HC5.out.bel hb56⟩
    rw [← hV6]
    clear hV6 hb56 HS5 HZ5
    have HSG : Hid (∀ w', Cg2 w w3.heap.size (.slice none 0 0) V5.heap.size (.slice none 0 0) a b w' → w'.cell? ⟨w3.heap.size, 0, none⟩ = some (.int .i64 a) ∧ w'.cell? ⟨w3.heap.size, 1, none⟩ = some (.int .i64 b) ∧ w'.cell? ⟨w3.heap.size, 2, none⟩ = some (.slice none 0 0) ∧ w'.cell? ⟨V5.heap.size, 0, none⟩ = some (.int .i64 a) ∧ w'.cell? ⟨V5.heap.size, 1, none⟩ = some (.int .i64 b) ∧ w'.cell? ⟨V5.heap.size, 2, none⟩ = some (.slice none 0 0) ∧ w'.cell? ⟨kb, ko, none⟩ = some (.iface 161 (.pointer (some ⟨BX, 0, none⟩))) ∧ Cg2 w w3.heap.size (.slice none 0 0) V5.heap.size (.slice none 0 0) a b w') := Lib.hid fun w' x => ⟨x.c7.cell 0, x.c7.cell 1, x.c7.cell 2, x.c8.cell 0, x.c8.cell 1, x.c8.cell 2, (x.bel.cell (p := ⟨kb, ko, none⟩) HKB.out).trans HKX.out, x⟩
    have HS6 := Lib.hid (HSG.out _ (HC6.out.below (Below.refl _ _).drew))
    go_wp2
    go_region_held3 (fun w' => w'.cell? ⟨w3.heap.size, 0, none⟩ = some (.int .i64 a) ∧ w'.cell? ⟨w3.heap.size, 1, none⟩ = some (.int .i64 b) ∧ w'.cell? ⟨w3.heap.size, 2, none⟩ = some (.slice none 0 0) ∧ w'.cell? ⟨V5.heap.size, 0, none⟩ = some (.int .i64 a) ∧ w'.cell? ⟨V5.heap.size, 1, none⟩ = some (.int .i64 b) ∧ w'.cell? ⟨V5.heap.size, 2, none⟩ = some (.slice none 0 0) ∧ w'.cell? ⟨kb, ko, none⟩ = some (.iface 161 (.pointer (some ⟨BX, 0, none⟩))) ∧ Cg2 w w3.heap.size (.slice none 0 0) V5.heap.size (.slice none 0 0) a b w') (first | with_reducible exact HS6.out | with_reducible assumption | exact HSG.out _ (Cg2.below (by with_reducible assumption) (below_box _ _))) (first | (go_at_call 85; (with_reducible refine (HO1.out _ HS6.out.2.2.2.2.2.2.2.bel).mono ?_); rintro r w5 ⟨⟨A5, n5, c5, R5, rfl, hrest⟩, hb5⟩; have HO5 : Hid (OfEnd P (h + 1) x a b E1 V6.drew (.returned (.slice A5 n5 c5)) w5) := Lib.hid ⟨A5, n5, c5, R5, rfl, hrest⟩; have hC5 := HS6.out.2.2.2.2.2.2.2.below hb5; have hS5 := HSG.out _ hC5; clear hrest hb5) | (go_at_call 85; (with_reducible refine (HO2.out _ HS6.out.2.2.2.2.2.2.2.bel).mono ?_); rintro r w6 ⟨⟨A6, n6, c6, R6, rfl, hrest⟩, hb6⟩; have HO6 : Hid (OfEnd P (h + 1) y a b E2 V6.drew (.returned (.slice A6 n6 c6)) w6) := Lib.hid ⟨A6, n6, c6, R6, rfl, hrest⟩; have hC6 := HS6.out.2.2.2.2.2.2.2.below hb6; have hS6 := HSG.out _ hC6; clear hrest hb6) | (go_at_call 85; (with_reducible refine (HO2.out _ hC5.bel).mono ?_); rintro r w6 ⟨⟨A6, n6, c6, R6, rfl, hrest⟩, hb6⟩; have HO6 : Hid (OfEnd P (h + 1) y a b E2 w5 (.returned (.slice A6 n6 c6)) w6) := Lib.hid ⟨A6, n6, c6, R6, rfl, hrest⟩; have hC6 := hC5.below hb6; have hS6 := HSG.out _ hC6; clear hrest hb6) | (go_at_call 85; (with_reducible refine (HO1.out _ hC6.bel).mono ?_); rintro r w5 ⟨⟨A5, n5, c5, R5, rfl, hrest⟩, hb5⟩; have HO5 : Hid (OfEnd P (h + 1) x a b E1 w6 (.returned (.slice A5 n5 c5)) w5) := Lib.hid ⟨A5, n5, c5, R5, rfl, hrest⟩; have hC5 := hC6.below hb5; have hS5 := HSG.out _ hC5; clear hrest hb5) | (go_at_call 113; refine (ac_left HS6.out.2.2.2.2.2.2.2.bel HRY.out HRG.out HO5.out HO6.out (below_box _ _) (by simp) (by exact World.cell?_alloc_new _ _ _ _) (by exact World.cell?_alloc_new _ _ _ _)).mono ?_; rintro r w7 ⟨⟨A7, n7, c7, R7, rfl, hrest⟩, hb7⟩; have HRE := Lib.hid hrest; have hS7 := HSG.out _ ((hC6.below (below_box _ _)).below hb7); clear hrest hb7) | (go_at_call 113; refine (ac_right HS6.out.2.2.2.2.2.2.2.bel HRX.out HRG.out HO5.out HO6.out (below_box _ _) (by simp) (by exact World.cell?_alloc_new _ _ _ _) (by exact World.cell?_alloc_new _ _ _ _)).mono ?_; rintro r w7 ⟨⟨A7, n7, c7, R7, rfl, hrest⟩, hb7⟩; have HRE := Lib.hid hrest; have hS7 := HSG.out _ ((hC5.below (below_box _ _)).below hb7); clear hrest hb7))
    all_goals
      go_wp2
      go_ret
      rw [HEE.out] at HRE
      exact ⟨A7, n7, c7, R7, rfl, HRE.out⟩
  · by_cases hcc : c = k
    · have HO2 := Lib.hid (HO2g.out (some ⟨cb, co, none⟩) (.inl (HLOW.out hcc)) (.inr ⟨_, _, rfl⟩))
      subst hcc
      rw [Nat.sub_self] at HO2
      have HS4 := Lib.hid (HSF.out _ (HC3.out.below (Below.refl _ _).drew))
      have HZ4 := Lib.hid (HSF.out _ (HC3.out.below ((below_box w3 (.cells #[.int .i64 a, .int .i64 b, .slice (some ⟨cb, co, none⟩) c c] 146)).drew)))
      go_wp2
      go_region_held3 (fun w' => w'.cell? ⟨w.heap.size, 0, none⟩ = some (.int .i64 a) ∧ w'.cell? ⟨w.heap.size, 1, none⟩ = some (.int .i64 b) ∧ w'.cell? ⟨w.heap.size, 2, none⟩ = some (.slice (some ⟨cb, co, none⟩) n c) ∧ Cg w w.heap.size a b (.slice (some ⟨cb, co, none⟩) n c) w') (first | with_reducible exact HS4.out | with_reducible assumption | with_reducible exact HZ4.out | exact HSF.out _ ((HS4.out.2.2.2).below (below_box _ _))) (fail)
      obtain ⟨V5, hV5⟩ : ∃ V, V = (w3.alloc (.cells #[.int .i64 a, .int .i64 b, .slice (some ⟨cb, co, none⟩) c c] 146)).drew := ⟨_, rfl⟩
      have HV5 := Lib.hid hV5
      have HC5 : Hid (Cg w w.heap.size a b (.slice (some ⟨cb, co, none⟩) n c) V5) := Lib.hid (by rw [hV5]; exact HZ4.out.2.2.2)
      have HL5 : Hid (Blk V5 w3.heap.size 146 #[.int .i64 a, .int .i64 b, .slice (some ⟨cb, co, none⟩) c c]) := Lib.hid (by rw [hV5]; exact Blk.new w3 _ _)
      rw [← hV5]
      clear hV5 HS4 HZ4
      have HS5 := Lib.hid (HSF.out _ (HC5.out.below (Below.refl _ _).drew))
      have HZ5 := Lib.hid (HSF.out _ (HC5.out.below ((below_box V5 (.cells #[.int .i64 a, .int .i64 b, .slice (some ⟨cb, co, none⟩) (n - c) 0] 146)).drew)))
      go_wp2
      go_region_held3 (fun w' => w'.cell? ⟨w.heap.size, 0, none⟩ = some (.int .i64 a) ∧ w'.cell? ⟨w.heap.size, 1, none⟩ = some (.int .i64 b) ∧ w'.cell? ⟨w.heap.size, 2, none⟩ = some (.slice (some ⟨cb, co, none⟩) n c) ∧ Cg w w.heap.size a b (.slice (some ⟨cb, co, none⟩) n c) w') (first | with_reducible exact HS5.out | with_reducible assumption | with_reducible exact HZ5.out | exact HSF.out _ ((HS5.out.2.2.2).below (below_box _ _))) (fail)
      obtain ⟨V6, hV6⟩ : ∃ V, V = (V5.alloc (.cells #[.int .i64 a, .int .i64 b, .slice (some ⟨cb, co, none⟩) (n - c) 0] 146)).drew := ⟨_, rfl⟩
      have hb56 : Below V5.heap.size V5 V6 := by rw [hV6]; exact (below_box V5 _).drew
      have HC6 : Hid (Cg2 w w3.heap.size (.slice (some ⟨cb, co, none⟩) c c) V5.heap.size (.slice (some ⟨cb, co, none⟩) (n - c) 0) a b V6) := Lib.hid ⟨HL5.out.below hb56 HL5.out.lt, by rw [hV6]; exact Blk.new V5 _ _, bkept HC5.out.bel hb56⟩
      rw [← hV6]
      clear hV6 hb56 HS5 HZ5
      have HSG : Hid (∀ w', Cg2 w w3.heap.size (.slice (some ⟨cb, co, none⟩) c c) V5.heap.size (.slice (some ⟨cb, co, none⟩) (n - c) 0) a b w' → w'.cell? ⟨w3.heap.size, 0, none⟩ = some (.int .i64 a) ∧ w'.cell? ⟨w3.heap.size, 1, none⟩ = some (.int .i64 b) ∧ w'.cell? ⟨w3.heap.size, 2, none⟩ = some (.slice (some ⟨cb, co, none⟩) c c) ∧ w'.cell? ⟨V5.heap.size, 0, none⟩ = some (.int .i64 a) ∧ w'.cell? ⟨V5.heap.size, 1, none⟩ = some (.int .i64 b) ∧ w'.cell? ⟨V5.heap.size, 2, none⟩ = some (.slice (some ⟨cb, co, none⟩) (n - c) 0) ∧ w'.cell? ⟨kb, ko, none⟩ = some (.iface 161 (.pointer (some ⟨BX, 0, none⟩))) ∧ Cg2 w w3.heap.size (.slice (some ⟨cb, co, none⟩) c c) V5.heap.size (.slice (some ⟨cb, co, none⟩) (n - c) 0) a b w') := Lib.hid fun w' x => ⟨x.c7.cell 0, x.c7.cell 1, x.c7.cell 2, x.c8.cell 0, x.c8.cell 1, x.c8.cell 2, (x.bel.cell (p := ⟨kb, ko, none⟩) HKB.out).trans HKX.out, x⟩
      have HS6 := Lib.hid (HSG.out _ (HC6.out.below (Below.refl _ _).drew))
      go_wp2
      go_region_held3 (fun w' => w'.cell? ⟨w3.heap.size, 0, none⟩ = some (.int .i64 a) ∧ w'.cell? ⟨w3.heap.size, 1, none⟩ = some (.int .i64 b) ∧ w'.cell? ⟨w3.heap.size, 2, none⟩ = some (.slice (some ⟨cb, co, none⟩) c c) ∧ w'.cell? ⟨V5.heap.size, 0, none⟩ = some (.int .i64 a) ∧ w'.cell? ⟨V5.heap.size, 1, none⟩ = some (.int .i64 b) ∧ w'.cell? ⟨V5.heap.size, 2, none⟩ = some (.slice (some ⟨cb, co, none⟩) (n - c) 0) ∧ w'.cell? ⟨kb, ko, none⟩ = some (.iface 161 (.pointer (some ⟨BX, 0, none⟩))) ∧ Cg2 w w3.heap.size (.slice (some ⟨cb, co, none⟩) c c) V5.heap.size (.slice (some ⟨cb, co, none⟩) (n - c) 0) a b w') (first | with_reducible exact HS6.out | with_reducible assumption | exact HSG.out _ (Cg2.below (by with_reducible assumption) (below_box _ _))) (first | (go_at_call 85; (with_reducible refine (HO1.out _ HS6.out.2.2.2.2.2.2.2.bel).mono ?_); rintro r w5 ⟨⟨A5, n5, c5, R5, rfl, hrest⟩, hb5⟩; have HO5 : Hid (OfEnd P (h + 1) x a b E1 V6.drew (.returned (.slice A5 n5 c5)) w5) := Lib.hid ⟨A5, n5, c5, R5, rfl, hrest⟩; have hC5 := HS6.out.2.2.2.2.2.2.2.below hb5; have hS5 := HSG.out _ hC5; clear hrest hb5) | (go_at_call 85; (with_reducible refine (HO2.out _ HS6.out.2.2.2.2.2.2.2.bel).mono ?_); rintro r w6 ⟨⟨A6, n6, c6, R6, rfl, hrest⟩, hb6⟩; have HO6 : Hid (OfEnd P (h + 1) y a b E2 V6.drew (.returned (.slice A6 n6 c6)) w6) := Lib.hid ⟨A6, n6, c6, R6, rfl, hrest⟩; have hC6 := HS6.out.2.2.2.2.2.2.2.below hb6; have hS6 := HSG.out _ hC6; clear hrest hb6) | (go_at_call 85; (with_reducible refine (HO2.out _ hC5.bel).mono ?_); rintro r w6 ⟨⟨A6, n6, c6, R6, rfl, hrest⟩, hb6⟩; have HO6 : Hid (OfEnd P (h + 1) y a b E2 w5 (.returned (.slice A6 n6 c6)) w6) := Lib.hid ⟨A6, n6, c6, R6, rfl, hrest⟩; have hC6 := hC5.below hb6; have hS6 := HSG.out _ hC6; clear hrest hb6) | (go_at_call 85; (with_reducible refine (HO1.out _ hC6.bel).mono ?_); rintro r w5 ⟨⟨A5, n5, c5, R5, rfl, hrest⟩, hb5⟩; have HO5 : Hid (OfEnd P (h + 1) x a b E1 w6 (.returned (.slice A5 n5 c5)) w5) := Lib.hid ⟨A5, n5, c5, R5, rfl, hrest⟩; have hC5 := hC6.below hb5; have hS5 := HSG.out _ hC5; clear hrest hb5) | (go_at_call 113; refine (ac_left HS6.out.2.2.2.2.2.2.2.bel HRY.out HRG.out HO5.out HO6.out (below_box _ _) (by simp) (by exact World.cell?_alloc_new _ _ _ _) (by exact World.cell?_alloc_new _ _ _ _)).mono ?_; rintro r w7 ⟨⟨A7, n7, c7, R7, rfl, hrest⟩, hb7⟩; have HRE := Lib.hid hrest; have hS7 := HSG.out _ ((hC6.below (below_box _ _)).below hb7); clear hrest hb7) | (go_at_call 113; refine (ac_right HS6.out.2.2.2.2.2.2.2.bel HRX.out HRG.out HO5.out HO6.out (below_box _ _) (by simp) (by exact World.cell?_alloc_new _ _ _ _) (by exact World.cell?_alloc_new _ _ _ _)).mono ?_; rintro r w7 ⟨⟨A7, n7, c7, R7, rfl, hrest⟩, hb7⟩; have HRE := Lib.hid hrest; have hS7 := HSG.out _ ((hC5.below (below_box _ _)).below hb7); clear hrest hb7))
      all_goals
        go_wp2
        go_ret
        rw [HEE.out] at HRE
        exact ⟨A7, n7, c7, R7, rfl, HRE.out⟩
    · have HO2 := Lib.hid (HO2g.out (some ⟨cb, co + k * 4, none⟩) (HX2.out _ _ rfl) (.inr ⟨_, _, rfl⟩))
      have HS4 := Lib.hid (HSF.out _ (HC3.out.below (Below.refl _ _).drew))
      have HZ4 := Lib.hid (HSF.out _ (HC3.out.below ((below_box w3 (.cells #[.int .i64 a, .int .i64 b, .slice (some ⟨cb, co, none⟩) k c] 146)).drew)))
      go_wp2
      go_region_held3 (fun w' => w'.cell? ⟨w.heap.size, 0, none⟩ = some (.int .i64 a) ∧ w'.cell? ⟨w.heap.size, 1, none⟩ = some (.int .i64 b) ∧ w'.cell? ⟨w.heap.size, 2, none⟩ = some (.slice (some ⟨cb, co, none⟩) n c) ∧ Cg w w.heap.size a b (.slice (some ⟨cb, co, none⟩) n c) w') (first | with_reducible exact HS4.out | with_reducible assumption | with_reducible exact HZ4.out | exact HSF.out _ ((HS4.out.2.2.2).below (below_box _ _))) (fail)
      obtain ⟨V5, hV5⟩ : ∃ V, V = (w3.alloc (.cells #[.int .i64 a, .int .i64 b, .slice (some ⟨cb, co, none⟩) k c] 146)).drew := ⟨_, rfl⟩
      have HV5 := Lib.hid hV5
      have HC5 : Hid (Cg w w.heap.size a b (.slice (some ⟨cb, co, none⟩) n c) V5) := Lib.hid (by rw [hV5]; exact HZ4.out.2.2.2)
      have HL5 : Hid (Blk V5 w3.heap.size 146 #[.int .i64 a, .int .i64 b, .slice (some ⟨cb, co, none⟩) k c]) := Lib.hid (by rw [hV5]; exact Blk.new w3 _ _)
      rw [← hV5]
      clear hV5 HS4 HZ4
      have HS5 := Lib.hid (HSF.out _ (HC5.out.below (Below.refl _ _).drew))
      have HZ5 := Lib.hid (HSF.out _ (HC5.out.below ((below_box V5 (.cells #[.int .i64 a, .int .i64 b, .slice (some ⟨cb, co + k * 4, none⟩) (n - k) (c - k)] 146)).drew)))
      go_wp2
      go_region_held3 (fun w' => w'.cell? ⟨w.heap.size, 0, none⟩ = some (.int .i64 a) ∧ w'.cell? ⟨w.heap.size, 1, none⟩ = some (.int .i64 b) ∧ w'.cell? ⟨w.heap.size, 2, none⟩ = some (.slice (some ⟨cb, co, none⟩) n c) ∧ Cg w w.heap.size a b (.slice (some ⟨cb, co, none⟩) n c) w') (first | with_reducible exact HS5.out | with_reducible assumption | with_reducible exact HZ5.out | exact HSF.out _ ((HS5.out.2.2.2).below (below_box _ _))) (fail)
      obtain ⟨V6, hV6⟩ : ∃ V, V = (V5.alloc (.cells #[.int .i64 a, .int .i64 b, .slice (some ⟨cb, co + k * 4, none⟩) (n - k) (c - k)] 146)).drew := ⟨_, rfl⟩
      have hb56 : Below V5.heap.size V5 V6 := by rw [hV6]; exact (below_box V5 _).drew
      have HC6 : Hid (Cg2 w w3.heap.size (.slice (some ⟨cb, co, none⟩) k c) V5.heap.size (.slice (some ⟨cb, co + k * 4, none⟩) (n - k) (c - k)) a b V6) := Lib.hid ⟨HL5.out.below hb56 HL5.out.lt, by rw [hV6]; exact Blk.new V5 _ _, bkept HC5.out.bel hb56⟩
      rw [← hV6]
      clear hV6 hb56 HS5 HZ5
      have HSG : Hid (∀ w', Cg2 w w3.heap.size (.slice (some ⟨cb, co, none⟩) k c) V5.heap.size (.slice (some ⟨cb, co + k * 4, none⟩) (n - k) (c - k)) a b w' → w'.cell? ⟨w3.heap.size, 0, none⟩ = some (.int .i64 a) ∧ w'.cell? ⟨w3.heap.size, 1, none⟩ = some (.int .i64 b) ∧ w'.cell? ⟨w3.heap.size, 2, none⟩ = some (.slice (some ⟨cb, co, none⟩) k c) ∧ w'.cell? ⟨V5.heap.size, 0, none⟩ = some (.int .i64 a) ∧ w'.cell? ⟨V5.heap.size, 1, none⟩ = some (.int .i64 b) ∧ w'.cell? ⟨V5.heap.size, 2, none⟩ = some (.slice (some ⟨cb, co + k * 4, none⟩) (n - k) (c - k)) ∧ w'.cell? ⟨kb, ko, none⟩ = some (.iface 161 (.pointer (some ⟨BX, 0, none⟩))) ∧ Cg2 w w3.heap.size (.slice (some ⟨cb, co, none⟩) k c) V5.heap.size (.slice (some ⟨cb, co + k * 4, none⟩) (n - k) (c - k)) a b w') := Lib.hid fun w' x => ⟨x.c7.cell 0, x.c7.cell 1, x.c7.cell 2, x.c8.cell 0, x.c8.cell 1, x.c8.cell 2, (x.bel.cell (p := ⟨kb, ko, none⟩) HKB.out).trans HKX.out, x⟩
      have HS6 := Lib.hid (HSG.out _ (HC6.out.below (Below.refl _ _).drew))
      go_wp2
      go_region_held3 (fun w' => w'.cell? ⟨w3.heap.size, 0, none⟩ = some (.int .i64 a) ∧ w'.cell? ⟨w3.heap.size, 1, none⟩ = some (.int .i64 b) ∧ w'.cell? ⟨w3.heap.size, 2, none⟩ = some (.slice (some ⟨cb, co, none⟩) k c) ∧ w'.cell? ⟨V5.heap.size, 0, none⟩ = some (.int .i64 a) ∧ w'.cell? ⟨V5.heap.size, 1, none⟩ = some (.int .i64 b) ∧ w'.cell? ⟨V5.heap.size, 2, none⟩ = some (.slice (some ⟨cb, co + k * 4, none⟩) (n - k) (c - k)) ∧ w'.cell? ⟨kb, ko, none⟩ = some (.iface 161 (.pointer (some ⟨BX, 0, none⟩))) ∧ Cg2 w w3.heap.size (.slice (some ⟨cb, co, none⟩) k c) V5.heap.size (.slice (some ⟨cb, co + k * 4, none⟩) (n - k) (c - k)) a b w') (first | with_reducible exact HS6.out | with_reducible assumption | exact HSG.out _ (Cg2.below (by with_reducible assumption) (below_box _ _))) (first | (go_at_call 85; (with_reducible refine (HO1.out _ HS6.out.2.2.2.2.2.2.2.bel).mono ?_); rintro r w5 ⟨⟨A5, n5, c5, R5, rfl, hrest⟩, hb5⟩; have HO5 : Hid (OfEnd P (h + 1) x a b E1 V6.drew (.returned (.slice A5 n5 c5)) w5) := Lib.hid ⟨A5, n5, c5, R5, rfl, hrest⟩; have hC5 := HS6.out.2.2.2.2.2.2.2.below hb5; have hS5 := HSG.out _ hC5; clear hrest hb5) | (go_at_call 85; (with_reducible refine (HO2.out _ HS6.out.2.2.2.2.2.2.2.bel).mono ?_); rintro r w6 ⟨⟨A6, n6, c6, R6, rfl, hrest⟩, hb6⟩; have HO6 : Hid (OfEnd P (h + 1) y a b E2 V6.drew (.returned (.slice A6 n6 c6)) w6) := Lib.hid ⟨A6, n6, c6, R6, rfl, hrest⟩; have hC6 := HS6.out.2.2.2.2.2.2.2.below hb6; have hS6 := HSG.out _ hC6; clear hrest hb6) | (go_at_call 85; (with_reducible refine (HO2.out _ hC5.bel).mono ?_); rintro r w6 ⟨⟨A6, n6, c6, R6, rfl, hrest⟩, hb6⟩; have HO6 : Hid (OfEnd P (h + 1) y a b E2 w5 (.returned (.slice A6 n6 c6)) w6) := Lib.hid ⟨A6, n6, c6, R6, rfl, hrest⟩; have hC6 := hC5.below hb6; have hS6 := HSG.out _ hC6; clear hrest hb6) | (go_at_call 85; (with_reducible refine (HO1.out _ hC6.bel).mono ?_); rintro r w5 ⟨⟨A5, n5, c5, R5, rfl, hrest⟩, hb5⟩; have HO5 : Hid (OfEnd P (h + 1) x a b E1 w6 (.returned (.slice A5 n5 c5)) w5) := Lib.hid ⟨A5, n5, c5, R5, rfl, hrest⟩; have hC5 := hC6.below hb5; have hS5 := HSG.out _ hC5; clear hrest hb5) | (go_at_call 113; refine (ac_left HS6.out.2.2.2.2.2.2.2.bel HRY.out HRG.out HO5.out HO6.out (below_box _ _) (by simp) (by exact World.cell?_alloc_new _ _ _ _) (by exact World.cell?_alloc_new _ _ _ _)).mono ?_; rintro r w7 ⟨⟨A7, n7, c7, R7, rfl, hrest⟩, hb7⟩; have HRE := Lib.hid hrest; have hS7 := HSG.out _ ((hC6.below (below_box _ _)).below hb7); clear hrest hb7) | (go_at_call 113; refine (ac_right HS6.out.2.2.2.2.2.2.2.bel HRX.out HRG.out HO5.out HO6.out (below_box _ _) (by simp) (by exact World.cell?_alloc_new _ _ _ _) (by exact World.cell?_alloc_new _ _ _ _)).mono ?_; rintro r w7 ⟨⟨A7, n7, c7, R7, rfl, hrest⟩, hb7⟩; have HRE := Lib.hid hrest; have hS7 := HSG.out _ ((hC5.below (below_box _ _)).below hb7); clear hrest hb7))
      all_goals
        go_wp2
        go_ret
        rw [HEE.out] at HRE
        exact ⟨A7, n7, c7, R7, rfl, HRE.out⟩
theorem across_ok : ∀ h, OfOk h → AcOk h := by
  intro h ho P a b E l w C n c A m d hab h0 hb9 hE hE5 hn hc hx hg ht hv hm hm1 hm8 hmd hA hR
  match l, hm, ht, hv, hA, hR with
  | [], hm, _, _, _, _ => simp at hm; omega
  | [t], hm, ht, hv, hA, hR =>
    obtain rfl : m = 1 := by simpa using hm
    cases h with
    | zero => exact across0_one ho P a b E t w C n c A d hab h0 hb9 hE hE5 hn hc hx hg (ht t List.mem_cons_self) hv hA
    | succ h => exact across1_one ho P a b E t w C n c A d hab h0 hb9 hE hE5 hn hc hx hg (ht t List.mem_cons_self) hv hA
  | x :: z :: r, hm, ht, hv, hA, hR =>
    rcases List.eq_nil_or_concat (z :: r) with e | ⟨ms, y, e⟩
    · cases e
    · rw [List.concat_eq_append] at e
      rw [e] at hm ht hv hA hR ⊢
      cases h with
      | zero => exact across0_two ho P a b E x y ms w C n c A m d hab h0 hb9 hE hE5 hn hc hx hg ht hv hm hm8 hA (hR x ms y rfl)
      | succ h => exact across1_two ho P a b E x y ms w C n c A m d hab h0 hb9 hE hE5 hn hc hx hg ht hv hm hm8 hA (hR x ms y rfl)
end TR
end Go.Proofs.YtdjlflinepefbabGreat
