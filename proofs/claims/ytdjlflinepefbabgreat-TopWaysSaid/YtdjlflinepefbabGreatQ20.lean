/- tree's change.of: of no node, and of a leaf. No condition but those that each theorem names. -/
import Derived.Test.YtdjlflinepefbabGreatQ15
import Derived.Test.YtdjlflinepefbabGreatQ19

namespace Go.Proofs.YtdjlflinepefbabGreat
open Go.RowKit
namespace TR
open MM EX LF
set_option linter.unusedVariables false
set_option linter.unusedSimpArgs false

/-- How of ends: nodes of the node's height, made of its blocks and new ones. -/
def OfEnd (P : Nat → Prop) (h : Nat) (t : Tr h) (a b : Int) (E : List Ext) (w : World) (r : Ending) (w' : World) : Prop :=
  ∃ A n c R, r = .returned (.slice A n c) ∧ n = R.length ∧ n ≤ c ∧ NdsP (fun b => P b ∨ w.heap.size ≤ b) h w' A R ∧ Came h t a b E R ∧ Mk w.heap.size h [t] R ∧ Below w.heap.size w w'
def OfOk (h : Nat) : Prop := ∀ (P : Nat → Prop) (a b : Int) (E : List Ext) (t : Tr h) (w : World) (C : Option Addr) (n c : Nat), a ≤ b → 0 ≤ a → b ≤ 16777216 → WV E → E.length ≤ 50 → n = E.length → n ≤ c → ExsP P w C E → GoodA C c → Weak h t → WV (flat h t) → RepP P h w t →
  Calls Tryz.prog 85 #[.agg #[.int .i64 a, .int .i64 b, .slice C n c], vl h t] w (OfEnd P h t a b E w)
/-- How of ends where there is no node. -/
def NilEnd (P : Nat → Prop) (E : List Ext) (w : World) (r : Ending) (w' : World) : Prop :=
  ∃ A n c R, r = .returned (.slice A n c) ∧ n = R.length ∧ n ≤ c ∧ NdsP (fun b => P b ∨ w.heap.size ≤ b) 0 w' A R ∧ Res 0 R ∧ flats 0 R = E ∧ R.length ≤ 14 ∧ Mk w.heap.size 0 [] R ∧ Below w.heap.size w w'
theorem nil_far {P : Nat → Prop} {E : List Ext} {w w1 : World} (hE : E.length ≤ 50) (hb : Below w.heap.size w w1) {r : Ending} {w' : World} (x : NEnd (fun b => P b ∧ b < w.heap.size) 0 lf E w1 r w') : NilEnd P E w r w' := by
  obtain ⟨A, n, c, R, h1, h2, h3, h4, h5, h6⟩ := x
  have hsz := hb.size
  have hz : ∀ b, ((P b ∧ b < w.heap.size) ∨ w1.heap.size ≤ b) → b < w'.heap.size → P b ∨ w.heap.size ≤ b := fun b hb _ => by
    rcases hb with hb | hb
    · exact .inl hb.1
    · exact .inr (Nat.le_trans hsz hb)
  obtain ⟨r1, r2, r3⟩ := came_none hE h5
  exact ⟨A, n, c, R, h1, h2, h3, h4.mono hz, r1, r2, r3, fr_leaf h5.fr hsz, bkept hb h6⟩
set_option maxHeartbeats 2000000 in
theorem of_nil (P : Nat → Prop) (a b : Int) (E : List Ext) (w : World) (C : Option Addr) (n c : Nat) (hE : E.length ≤ 50) (hn : n = E.length) (hc : n ≤ c) (hx : ExsP P w C E) :
    Calls Tryz.prog 85 #[.agg #[.int .i64 a, .int .i64 b, .slice C n c], .nilIface] w (NilEnd P E w) := by
  obtain ⟨W, hW⟩ : ∃ W, W = w.alloc (.cells #[.int .i64 a, .int .i64 b, .slice C n c] 146) := ⟨_, rfl⟩
  have hb0 : Below w.heap.size w W := by rw [hW]; exact (Below.refl _ _).alloc (Nat.le_refl _) _
  have hx1 : ExsP (fun b => P b ∧ b < w.heap.size) W C E := (hx.mono (fun b hb hlt => ⟨hb, hlt⟩)).keep hb0.size (fun b _ hlt => hb0.block b hlt)
  have HC := Lib.hid ((leaves_any (fun b => P b ∧ b < w.heap.size) E C n c hn (by omega) hc W hx1).mono fun r w' x => nil_far hE hb0 x)
  have HW := Lib.hid hW
  clear hW hx hx1 hb0 hn hE
  go_enter Tryz.func85, Tryz.ntmps85
  go_wp2_with fail
  rw [← HW.out]
  refine HC.out.mono ?_
  rintro r w1 ⟨A, n', c', R, rfl, hrest⟩
  have HRE := Lib.hid hrest
  clear hrest
  go_wp2
  go_ret
  exact ⟨A, n', c', R, rfl, HRE.out⟩

/-- What of reads at a leaf. -/
structure O0 (w : World) (B L : Nat) (s : Value) (a b : Int) (e : Value) (w' : World) : Prop where
  leaf : ∃ p, Blk w' B 160 #[p, s]
  chg : Blk w' L 146 #[.int .i64 a, .int .i64 b, e]
  bel : Below w.heap.size w w'
theorem O0.below {w : World} {B L : Nat} {s : Value} {a b : Int} {e : Value} {w1 w2 : World} (h : O0 w B L s a b e w1) (hb : Below w1.heap.size w1 w2) : O0 w B L s a b e w2 := by
  obtain ⟨p, hp⟩ := h.leaf
  exact ⟨⟨p, hp.below hb hp.lt⟩, h.chg.below hb h.chg.lt, bkept h.bel hb⟩
theorem o0_s {w : World} {B L : Nat} {s : Value} {a b : Int} {e : Value} {w' : World} (h : O0 w B L s a b e w') : w'.cell? ⟨B, 1, none⟩ = some s ∧ w'.cell? ⟨L, 0, none⟩ = some (.int .i64 a) ∧ w'.cell? ⟨L, 1, none⟩ = some (.int .i64 b) ∧ w'.cell? ⟨L, 2, none⟩ = some e ∧ O0 w B L s a b e w' := by
  obtain ⟨p, hp⟩ := h.leaf
  exact ⟨hp.cell 1, h.chg.cell 0, h.chg.cell 1, h.chg.cell 2, h⟩
theorem o0_of {w : World} {B L : Nat} {s : Value} {a b : Int} {e : Value} {w' : World} (h : w'.cell? ⟨B, 1, none⟩ = some s ∧ w'.cell? ⟨L, 0, none⟩ = some (.int .i64 a) ∧ w'.cell? ⟨L, 1, none⟩ = some (.int .i64 b) ∧ w'.cell? ⟨L, 2, none⟩ = some e ∧ O0 w B L s a b e w') : O0 w B L s a b e w' := h.2.2.2.2
/-- The calls behind the parts of a leaf. -/
theorem of0_calls {P : Nat → Prop} {t : Tr 0} {a b : Int} {E : List Ext} {w W : World} (ht : Weak 0 t) (hv : WV (flat 0 t)) (hE : E.length ≤ 50) {A1 A2 A3 : Option Addr} {N1 N2 N3 c1 c2 c3 : Nat} (h1 : N1 = ahd (flat 0 t) a) (h2 : N2 = E.length) (h3 : N3 = (flat 0 t).length - ahd (flat 0 t) (b + 1))
    (hx1 : Exs w A1 ((flat 0 t).take (ahd (flat 0 t) a))) (hx2 : Exs w A2 E) (hx3 : Exs w A3 ((flat 0 t).drop (ahd (flat 0 t) (b + 1)))) {p : Nat} (hp : p < W.heap.size) (hbl : Below w.heap.size w W) (g0 : W.cell? ⟨p, 0, none⟩ = some (.slice A1 N1 c1)) (g1 : W.cell? ⟨p, 1, none⟩ = some (.slice A2 N2 c2)) (g2 : W.cell? ⟨p, 2, none⟩ = some (.slice A3 N3 c3)) :
    Calls Tryz.prog 110 #[.slice (some ⟨p, 0, none⟩) 3 3] W fun r w1 => ∃ A m c, r = .returned (.slice A m c) ∧ Below W.heap.size W w1 ∧ Hid (Calls Tryz.prog 109 #[.slice A m c] w1 fun r w' => OfEnd P 0 t a b E w r w' ∧ Below w1.heap.size w1 w') := by
  have h8 : (flat 0 t).length ≤ 8 := ht.2
  have k1 := ahd_le (flat 0 t) a
  have k2 := ahd_le (flat 0 t) (b + 1)
  have hl1 : N1 = ((flat 0 t).take (ahd (flat 0 t) a)).length := by rw [List.length_take]; omega
  have hl3 : N3 = ((flat 0 t).drop (ahd (flat 0 t) (b + 1))).length := by rw [List.length_drop]; omega
  obtain ⟨l1, e1⟩ : ∃ l, l = (flat 0 t).take (ahd (flat 0 t) a) := ⟨_, rfl⟩
  obtain ⟨l3, e3⟩ : ∃ l, l = (flat 0 t).drop (ahd (flat 0 t) (b + 1)) := ⟨_, rfl⟩
  rw [← e1] at hx1 hl1
  rw [← e3] at hx3 hl3
  have hvv : Vals W (some ⟨p, 0, none⟩) ([(⟨A1, N1, c1, exCells l1⟩ : It), ⟨A2, N2, c2, exCells E⟩, ⟨A3, N3, c3, exCells l3⟩].map It.val) := .inr ⟨p, 0, rfl, hp, fun i v hi => by
    match i, hi with
    | 0, hi => rw [show v = .slice A1 N1 c1 by simpa [It.val] using hi.symm]; exact g0
    | 1, hi => rw [show v = .slice A2 N2 c2 by simpa [It.val] using hi.symm]; exact g1
    | 2, hi => rw [show v = .slice A3 N3 c3 by simpa [It.val] using hi.symm]; exact g2
    | i + 3, hi => simp at hi⟩
  have hc := concatE_any [(⟨A1, N1, c1, exCells l1⟩ : It), ⟨A2, N2, c2, exCells E⟩, ⟨A3, N3, c3, exCells l3⟩] (some ⟨p, 0, none⟩) 3 3 rfl (by omega) W hvv (fun x hx => by
    rcases List.mem_cons.1 hx with rfl | hx
    · exact It.ok_exs hl1 (hx1.below hbl)
    · rcases List.mem_cons.1 hx with rfl | hx
      · exact It.ok_exs h2 (hx2.below hbl)
      · rw [List.mem_singleton.1 hx]; exact It.ok_exs hl3 (hx3.below hbl)) (by simp [tot]; omega)
  refine hc.mono ?_
  rintro r w1 ⟨A, m, c, rfl, hm, hown, hb1⟩
  have hcat : cat [(⟨A1, N1, c1, exCells l1⟩ : It), ⟨A2, N2, c2, exCells E⟩, ⟨A3, N3, c3, exCells l3⟩] = exCells (l1 ++ E ++ l3) := by simp [cat, exCells]
  have hml : m = (l1 ++ E ++ l3).length := by rw [hm]; simp [tot]; omega
  have hbw : Below w.heap.size w w1 := ⟨hb1.os.trans hbl.os, hb1.tape.trans hbl.tape, hb1.output.trans hbl.output, Nat.le_trans hbl.size hb1.size, fun k hk => (hb1.block k (by have := hbl.size; omega)).trans (hbl.block k hk)⟩
  refine ⟨A, m, c, rfl, hb1, Lib.hid ?_⟩
  have hex := (own_exsP hml (by rw [← hm, hcat] at hown; exact hown)).mono (Q := fun b => P b ∨ w.heap.size ≤ b) (fun b hb _ => .inr (Nat.le_trans hbl.size hb))
  refine (leaves_any (fun b => P b ∨ w.heap.size ≤ b) _ A m c hml (by rw [hml]; simp only [List.length_append]; omega) (own_cap hown) w1 hex).mono ?_
  rintro r w2 ⟨A4, n4, c4, R, q1, q2, q3, q4, q5, q6⟩
  have hz := hbw.size
  have s1 := (ahd_split hv a).1
  have s3 := (ahd_split hv (b + 1)).2
  refine ⟨⟨A4, n4, c4, R, q1, q2, q3, q4.mono (fun b hb _ => ?_), ?_, fr_leaf q5.fr hz, bkept hbw q6⟩, q6⟩
  · rcases hb with hb | hb
    · exact hb
    · exact .inr (Nat.le_trans hz hb)
  · rw [e1, e3, s1, s3] at q5
    exact came_leaf ht hE q5
set_option maxRecDepth 100000 in
set_option maxHeartbeats 8000000 in
theorem of0_ok : OfOk 0 := by
  intro P a b E t w C n c hab h0 hb9 hE hE5 hn hc hx _ ht hv hr
  have hr0 := hr.rep
  obtain ⟨A1, c1, hc1, hP1, hB1, hX1⟩ := hr
  have h8 : 1 ≤ (flat 0 t).length ∧ (flat 0 t).length ≤ 8 := ht
  obtain ⟨kb, ko, rfl, hkb, hkc⟩ : ∃ b off, A1 = some ⟨b, off, none⟩ ∧ b < w.heap.size ∧ ∀ (i : Nat) (e : Ext), (flat 0 t)[i]? = some e → Cells4 w b (off + i * 4) e := by
    rcases hX1.exs with h0 | h0
    · have : (flat 0 t) = [] := h0
      rw [this] at h8; simp at h8
    · exact h0
  obtain ⟨N1, hN1⟩ : ∃ n, n = (lf t).xs.length := ⟨_, rfl⟩
  obtain ⟨BB, hBB⟩ : ∃ n, n = (lf t).blk := ⟨_, rfl⟩
  have e1 : vl 0 t = .iface 156 (.pointer (some ⟨BB, 0, none⟩)) := by rw [hBB]; rfl
  rw [e1]
  rw [← hN1, ← hBB] at hB1
  rw [← hN1] at hc1
  have hNf : N1 = (flat 0 t).length := hN1
  obtain ⟨k1, hk1⟩ : ∃ k, k = ahd (flat 0 t) a := ⟨_, rfl⟩
  obtain ⟨k2, hk2⟩ : ∃ k, k = ahd (flat 0 t) (b + 1) := ⟨_, rfl⟩
  have hk1l := ahd_le (flat 0 t) a
  have hk2l := ahd_le (flat 0 t) (b + 1)
  rw [← hk1] at hk1l
  rw [← hk2] at hk2l
  have HA1 : Hid (∀ W, Below w.heap.size w W → Calls Tryz.prog 111 #[.slice (some ⟨kb, ko, none⟩) N1 c1, .int .i64 a] W fun r w' => r = .returned (.int .i64 (k1 : Nat)) ∧ Below W.heap.size W w') := Lib.hid fun W h => by rw [hk1]; exact ahead_any _ hv _ _ _ hN1 (by omega) _ W (hX1.exs.below h)
  have HA2 : Hid (∀ W, Below w.heap.size w W → Calls Tryz.prog 111 #[.slice (some ⟨kb, ko, none⟩) N1 c1, .int .i64 (b + 1)] W fun r w' => r = .returned (.int .i64 (k2 : Nat)) ∧ Below W.heap.size W w') := Lib.hid fun W h => by rw [hk2]; exact ahead_any _ hv _ _ _ hN1 (by omega) _ W (hX1.exs.below h)
  have hx1 : Exs w (some ⟨kb, ko, none⟩) ((flat 0 t).take k1) := .inr ⟨kb, ko, rfl, hkb, fun i e he => by
    rw [List.getElem?_take] at he
    split at he
    · exact hkc i e he
    · cases he⟩
  have hx3 : Exs w (some ⟨kb, ko + k2 * 4, none⟩) ((flat 0 t).drop k2) := .inr ⟨kb, _, rfl, hkb, fun i e he => by
    rw [List.getElem?_drop] at he
    have := hkc (k2 + i) e he
    rwa [Nat.add_mul, ← Nat.add_assoc] at this⟩
  have HCL : Hid (∀ (W : World) (p N3 c3 : Nat) (A3 : Option Addr), N3 = N1 - k2 → Exs w A3 ((flat 0 t).drop k2) → p < W.heap.size → Below w.heap.size w W → W.cell? ⟨p, 0, none⟩ = some (.slice (some ⟨kb, ko, none⟩) k1 c1) → W.cell? ⟨p, 1, none⟩ = some (.slice C n c) → W.cell? ⟨p, 2, none⟩ = some (.slice A3 N3 c3) → Calls Tryz.prog 110 #[.slice (some ⟨p, 0, none⟩) 3 3] W fun r w1 => ∃ A m c, r = .returned (.slice A m c) ∧ Below W.heap.size W w1 ∧ Hid (Calls Tryz.prog 109 #[.slice A m c] w1 fun r w' => OfEnd P 0 t a b E w r w' ∧ Below w1.heap.size w1 w')) := Lib.hid fun W p N3 c3 A3 q1 q2 q3 q4 g0 g1 g2 =>
    of0_calls ht hv hE5 (N1 := k1) (N2 := n) (N3 := N3) hk1 hn (by rw [q1, hNf, hk2]) (by rw [← hk1]; exact hx1) hx.exs (by rw [← hk2]; exact q2) q3 q4 g0 g1 g2
  have HX3a : Hid (c1 = k2 → Exs w (some ⟨kb, ko, none⟩) ((flat 0 t).drop k2)) := Lib.hid fun h => .inl (List.drop_eq_nil_of_le (by omega))
  have HX3b := Lib.hid hx3
  obtain ⟨W, hW⟩ : ∃ W, W = w.alloc (.cells #[.int .i64 a, .int .i64 b, .slice C n c] 146) := ⟨_, rfl⟩
  have HI : Hid (O0 w BB w.heap.size (.slice (some ⟨kb, ko, none⟩) N1 c1) a b (.slice C n c) W.drew) := Lib.hid ⟨⟨_, by rw [hW]; exact hB1.alloc _⟩, by rw [hW]; exact Blk.new w _ _, by rw [hW]; exact ((Below.refl _ _).alloc (Nat.le_refl _) _).drew⟩
  have HSX := Lib.hid (o0_s HI.out)
  have HW := Lib.hid hW
  have t0 : (0 : Int) ≤ (k1 : Int) := by omega
  have t1 : (k1 : Int) ≤ (c1 : Int) := by omega
  have t2 : (0 : Int) ≤ (k2 : Int) := by omega
  have t3 : (k2 : Int) ≤ (N1 : Int) := by omega
  have t4 : (N1 : Int) ≤ (c1 : Int) := by omega
  have tb0 : IntKind.i64.wrap (b + 1) = b + 1 := IntWalk.i64_in _ (by omega)
  obtain ⟨b1, hb1⟩ : ∃ x, x = b + 1 := ⟨_, rfl⟩
  have tb : IntKind.i64.wrap (b + 1) = b1 := by rw [tb0, hb1]
  rw [← hb1] at HA2
  have HBB1 := Lib.hid hb1
  have a1 := as_bb
  have HN := Lib.hid hNf
  have HKL := Lib.hid hk2l
  have HC1 := Lib.hid hc1
  clear hr0 hc1 hP1 hB1 hX1 hkb hkc hN1 hBB hNf hk1 hk2 hk1l hk2l hx1 hx3 hW hab h0 hb9 hE hE5 hn hc hx ht hv e1 h8 tb0 hb1
  by_cases hcc : c1 = k2
  · have HX3 := Lib.hid (HX3a.out hcc)
    subst hcc
    go_enter Tryz.func85, Tryz.ntmps85
    go_wp2
    rw [← HW.out]
    go_region_held3 (fun w' => w'.cell? ⟨BB, 1, none⟩ = some (.slice (some ⟨kb, ko, none⟩) N1 c1) ∧ w'.cell? ⟨w.heap.size, 0, none⟩ = some (.int .i64 a) ∧ w'.cell? ⟨w.heap.size, 1, none⟩ = some (.int .i64 b) ∧ w'.cell? ⟨w.heap.size, 2, none⟩ = some (.slice C n c) ∧ O0 w BB w.heap.size (.slice (some ⟨kb, ko, none⟩) N1 c1) a b (.slice C n c) w') (first | with_reducible exact HSX.out | with_reducible assumption | exact o0_s ((o0_of (by assumption)).below (below_box _ _))) (first | (go_at_call 111; (with_reducible refine (HA1.out _ (o0_of (by assumption)).bel).mono ?_); rintro r w2 ⟨rfl, hb2⟩; have hS2 := o0_s ((o0_of (by assumption)).below hb2)) | (go_at_call 111; (with_reducible refine (HA2.out _ (o0_of (by assumption)).bel).mono ?_); rintro r w3 ⟨rfl, hb3⟩; have hS3 := o0_s ((o0_of (by assumption)).below hb3)) | (go_at_call 110; refine (HCL.out _ _ _ _ _ rfl HX3.out (by simp) (o0_of (by assumption)).bel (by exact World.cell?_alloc_new _ _ _ _) (by exact World.cell?_alloc_new _ _ _ _) (by exact World.cell?_alloc_new _ _ _ _)).mono ?_; rintro r w4 ⟨A4, m4, c4, rfl, hb4, HLV⟩; have hS4 := o0_s ((o0_of (by assumption)).below hb4)) | (go_at_call 109; refine HLV.out.mono ?_; rintro r w5 ⟨⟨A5, n5, c5, R5, rfl, hrest⟩, hb5⟩; have HRE := Lib.hid hrest; have hS5 := o0_s ((o0_of (by assumption)).below hb5); clear hrest hb5))
    all_goals
      go_wp2
      go_ret
      exact ⟨A5, n5, c5, R5, rfl, HRE.out⟩
  · have HX3 := HX3b
    go_enter Tryz.func85, Tryz.ntmps85
    go_wp2
    rw [← HW.out]
    go_region_held3 (fun w' => w'.cell? ⟨BB, 1, none⟩ = some (.slice (some ⟨kb, ko, none⟩) N1 c1) ∧ w'.cell? ⟨w.heap.size, 0, none⟩ = some (.int .i64 a) ∧ w'.cell? ⟨w.heap.size, 1, none⟩ = some (.int .i64 b) ∧ w'.cell? ⟨w.heap.size, 2, none⟩ = some (.slice C n c) ∧ O0 w BB w.heap.size (.slice (some ⟨kb, ko, none⟩) N1 c1) a b (.slice C n c) w') (first | with_reducible exact HSX.out | with_reducible assumption | exact o0_s ((o0_of (by assumption)).below (below_box _ _))) (first | (go_at_call 111; (with_reducible refine (HA1.out _ (o0_of (by assumption)).bel).mono ?_); rintro r w2 ⟨rfl, hb2⟩; have hS2 := o0_s ((o0_of (by assumption)).below hb2)) | (go_at_call 111; (with_reducible refine (HA2.out _ (o0_of (by assumption)).bel).mono ?_); rintro r w3 ⟨rfl, hb3⟩; have hS3 := o0_s ((o0_of (by assumption)).below hb3)) | (go_at_call 110; refine (HCL.out _ _ _ _ _ rfl HX3.out (by simp) (o0_of (by assumption)).bel (by exact World.cell?_alloc_new _ _ _ _) (by exact World.cell?_alloc_new _ _ _ _) (by exact World.cell?_alloc_new _ _ _ _)).mono ?_; rintro r w4 ⟨A4, m4, c4, rfl, hb4, HLV⟩; have hS4 := o0_s ((o0_of (by assumption)).below hb4)) | (go_at_call 109; refine HLV.out.mono ?_; rintro r w5 ⟨⟨A5, n5, c5, R5, rfl, hrest⟩, hb5⟩; have HRE := Lib.hid hrest; have hS5 := o0_s ((o0_of (by assumption)).below hb5); clear hrest hb5))
    all_goals
      go_wp2
      go_ret
      exact ⟨A5, n5, c5, R5, rfl, HRE.out⟩
end TR
end Go.Proofs.YtdjlflinepefbabGreat
