/- 2 texts laid together: each says at its head what it proves. No condition but those that each theorem names. -/
import Derived.Test.YtdjlflinepefbabGreatQ18

/- tree.joined and tree.mended, at every height. No condition but those that each theorem names. -/
namespace Go.Proofs.YtdjlflinepefbabGreat
open Go.RowKit
namespace TR
open MM EX LF
set_option linter.unusedVariables false
set_option linter.unusedSimpArgs false

theorem mended_any : ∀ (h : Nat), JoinedOk h → ∀ (P : Nat → Prop) (base g n cap : Nat) (l : List (Tr h)) (w : World), n = l.length → n ≤ 100 → (∀ b, P b → b ≠ g) → g < w.heap.size →
    w.ownsRow base 80 1 (.slice (some ⟨g, 0, none⟩) n cap) n (l.map (vl h)) → (∀ k ∈ l, RepP P h w k) → (∀ k ∈ l, Weak h k) →
    Calls Tryz.prog 112 #[.slice (some ⟨g, 0, none⟩) n cap] w (MendEnd P base g cap h l w)
  | 0, hj => mended0_any hj
  | _ + 1, hj => mended1_any hj
/-- What is behind tree.joined of two leaves. -/
theorem join_leaves {P : Nat → Prop} {a b : Tr 0} {w w1 w2 : World} (ha : Weak 0 a) (hb : Weak 0 b) (hra : RepP P 0 w a) (hrb : RepP P 0 w b) (hb1 : Below w.heap.size w w1) {r : Ending}
    (hn : NEnd (fun b => P b ∨ w.heap.size ≤ b) 0 lf ((lf a).xs ++ (lf b).xs) w1 r w2) : JoinEnd P 0 a b w r w2 := by
  obtain ⟨A, n, c, R, rfl, hnR, hnc, hnd, hcu, hbl⟩ := hn
  have h1 : 1 ≤ (lf a).xs.length ∧ (lf a).xs.length ≤ 8 := ha
  have h2 : 1 ≤ (lf b).xs.length ∧ (lf b).xs.length ≤ 8 := hb
  have hsz := hb1.size
  obtain ⟨hres, hfl⟩ := leaves_res hcu
  have hcnt : R.length ≤ 2 := by rw [hcu.len]; exact cnt_small (by simp; omega)
  have hne : R ≠ [] := hcu.some (by intro e; rw [List.append_eq_nil_iff] at e; rw [e.1] at h1; simp at h1)
  have hpos := List.length_pos_iff.2 hne
  rcases hnd.vals with h0 | ⟨b0, o0, rfl, hlt, hP0, h3⟩
  · rw [List.map_eq_nil_iff] at h0; exact absurd h0 hne
  · refine ⟨b0, o0, c, R, n, rfl, hnR, by omega, by omega, hnc, ⟨hnd.vals.mono ?_, fun k hk => (hnd.reps k hk).mono ?_⟩, hres, ?_, fr_leaf hcu.fr hsz, ?_⟩
    · intro b hb _
      rcases hb with hb | hb
      · exact hb
      · exact .inr (by omega)
    · intro b hb _
      rcases hb with hb | hb
      · exact hb
      · exact .inr (by omega)
    · rw [hfl, flats_cons, flats_one]; rfl
    · exact ⟨hbl.os.trans hb1.os, hbl.tape.trans hb1.tape, hbl.output.trans hb1.output, Nat.le_trans hsz hbl.size, fun k hk => (hbl.block k (by omega)).trans (hb1.block k hk)⟩
theorem exCells_inv : ∀ (l : List Ext) (j : Nat) (u : Value), (exCells l)[j]? = some u → ∃ i e, l[i]? = some e ∧ ((j = i * 4 ∧ u = .int .i64 e.from_) ∨ (j = i * 4 + 1 ∧ u = .int .i64 e.n) ∨ (j = i * 4 + 2 ∧ u = .int .i64 e.kind) ∨ (j = i * 4 + 3 ∧ u = .int .i64 e.at_)) := by
  intro l
  induction l with
  | nil => intro j u h; simp [exCells] at h
  | cons a l ih =>
    intro j u h
    have e : exCells (a :: l) = .int .i64 a.from_ :: .int .i64 a.n :: .int .i64 a.kind :: .int .i64 a.at_ :: exCells l := by simp [exCells]
    rw [e] at h
    match j, h with
    | 0, h => exact ⟨0, a, rfl, .inl ⟨rfl, by simpa using h.symm⟩⟩
    | 1, h => exact ⟨0, a, rfl, .inr (.inl ⟨rfl, by simpa using h.symm⟩)⟩
    | 2, h => exact ⟨0, a, rfl, .inr (.inr (.inl ⟨rfl, by simpa using h.symm⟩))⟩
    | 3, h => exact ⟨0, a, rfl, .inr (.inr (.inr ⟨rfl, by simpa using h.symm⟩))⟩
    | j + 4, h =>
      obtain ⟨i, x, hx, hc⟩ := ih j u (by simpa using h)
      refine ⟨i + 1, x, hx, ?_⟩
      rcases hc with ⟨h1, h2⟩ | ⟨h1, h2⟩ | ⟨h1, h2⟩ | ⟨h1, h2⟩
      · exact .inl ⟨by omega, h2⟩
      · exact .inr (.inl ⟨by omega, h2⟩)
      · exact .inr (.inr (.inl ⟨by omega, h2⟩))
      · exact .inr (.inr (.inr ⟨by omega, h2⟩))
theorem It.ok_exs {w : World} {a : Option Addr} {n c : Nat} {l : List Ext} (hn : n = l.length) (h : Exs w a l) : It.ok 4 w ⟨a, n, c, exCells l⟩ := by
  refine ⟨by rw [hn]; exact exCells_len l, fun u hu => ?_, ?_⟩
  · obtain ⟨j, hj, rfl⟩ := List.mem_iff_getElem.1 hu
    obtain ⟨i, e, _, hc⟩ := exCells_inv l j _ (List.getElem?_eq_getElem hj)
    rcases hc with ⟨_, hc⟩ | ⟨_, hc⟩ | ⟨_, hc⟩ | ⟨_, hc⟩ <;> rw [hc] <;> rfl
  · rcases h with h | ⟨b, off, h1, h2, h3⟩
    · exact .inl (by show n = 0; rw [hn, h]; rfl)
    · refine .inr ⟨b, off, h1, h2, fun j u hu => ?_⟩
      obtain ⟨i, e, he, hc⟩ := exCells_inv l j u hu
      obtain ⟨q0, q1, q2, q3⟩ := h3 i e he
      rcases hc with ⟨rfl, rfl⟩ | ⟨rfl, rfl⟩ | ⟨rfl, rfl⟩ | ⟨rfl, rfl⟩
      · exact q0
      · exact q1
      · exact q2
      · exact q3
theorem own_exsP {w : World} {base : Nat} {e : TypeId} {A : Option Addr} {n c : Nat} {l : List Ext} (hn : n = l.length) (h : w.ownsRow base e 4 (.slice A n c) n (exCells l)) : ExsP (fun b => base ≤ b) w A l := by
  subst hn
  obtain ⟨A', c', hv, hx⟩ := own_exs h
  obtain ⟨rfl, _, _⟩ := Value.slice.inj hv
  rcases hx with hx | ⟨b, off, rfl, h1, h3⟩
  · exact .inl hx
  · refine .inr ⟨b, off, rfl, h1, ?_, h3⟩
    rcases h.2 with ⟨hv, h0⟩ | ⟨g, cap, cur, hv, hg, hh, r⟩
    · cases hv
    · cases hv; exact hg
/-- The calls of tree.joined at two leaves. -/
theorem joined0_calls {P : Nat → Prop} {a b : Tr 0} {w W : World} (ha : Weak 0 a) (hb : Weak 0 b) (hra : RepP P 0 w a) (hrb : RepP P 0 w b) {A1 A2 : Option Addr} {N1 N2 c1 c2 : Nat} (h1 : N1 = (lf a).xs.length) (h2 : N2 = (lf b).xs.length)
    (hx1 : ExsP P w A1 (lf a).xs) (hx2 : ExsP P w A2 (lf b).xs) {p : Nat} (hp : p < W.heap.size) (hbl : Below w.heap.size w W) (g0 : W.cell? ⟨p, 0, none⟩ = some (.slice A1 N1 c1)) (g1 : W.cell? ⟨p, 1, none⟩ = some (.slice A2 N2 c2)) :
    Calls Tryz.prog 110 #[.slice (some ⟨p, 0, none⟩) 2 2] W fun r w1 => ∃ A m c, r = .returned (.slice A m c) ∧ Hid (Calls Tryz.prog 109 #[.slice A m c] w1 (JoinEnd P 0 a b w)) := by
  have h3 : 1 ≤ (lf a).xs.length ∧ (lf a).xs.length ≤ 8 := ha
  have h4 : 1 ≤ (lf b).xs.length ∧ (lf b).xs.length ≤ 8 := hb
  have hv : Vals W (some ⟨p, 0, none⟩) ([(⟨A1, N1, c1, exCells (lf a).xs⟩ : It), ⟨A2, N2, c2, exCells (lf b).xs⟩].map It.val) := .inr ⟨p, 0, rfl, hp, fun i v hi => by
    match i, hi with
    | 0, hi => rw [show v = .slice A1 N1 c1 by simpa [It.val] using hi.symm]; exact g0
    | 1, hi => rw [show v = .slice A2 N2 c2 by simpa [It.val] using hi.symm]; exact g1
    | i + 2, hi => simp at hi⟩
  have hc := concatE_any [(⟨A1, N1, c1, exCells (lf a).xs⟩ : It), ⟨A2, N2, c2, exCells (lf b).xs⟩] (some ⟨p, 0, none⟩) 2 2 rfl (by omega) W hv (fun x hx => by
    rcases List.mem_cons.1 hx with rfl | hx
    · exact It.ok_exs h1 (hx1.exs.below hbl)
    · rw [List.mem_singleton.1 hx]; exact It.ok_exs h2 (hx2.exs.below hbl)) (by simp [tot]; omega)
  refine hc.mono ?_
  rintro r w1 ⟨A, m, c, rfl, hm, hown, hb1⟩
  refine ⟨A, m, c, rfl, Lib.hid ?_⟩
  have hcat : cat [(⟨A1, N1, c1, exCells (lf a).xs⟩ : It), ⟨A2, N2, c2, exCells (lf b).xs⟩] = exCells ((lf a).xs ++ (lf b).xs) := by simp [cat, exCells]
  have hml : m = ((lf a).xs ++ (lf b).xs).length := by rw [hm]; simp [tot]; omega
  have hbw : Below w.heap.size w w1 := ⟨hb1.os.trans hbl.os, hb1.tape.trans hbl.tape, hb1.output.trans hbl.output, Nat.le_trans hbl.size hb1.size, fun k hk => (hb1.block k (by have := hbl.size; omega)).trans (hbl.block k hk)⟩
  have hex := (own_exsP hml (by rw [← hm, hcat] at hown; exact hown)).mono (Q := fun b => P b ∨ w.heap.size ≤ b) (fun b hb _ => .inr (Nat.le_trans hbl.size hb))
  exact (leaves_any (fun b => P b ∨ w.heap.size ≤ b) _ A m c hml (by rw [hml]; simp; omega) (own_cap hown) w1 hex).mono fun r w2 hn => join_leaves ha hb hra hrb hbw hn
set_option maxRecDepth 100000 in
set_option maxHeartbeats 4000000 in
theorem joined0 : JoinedOk 0 := by
  intro P a b w ha hb hra hrb
  have hra0 := hra
  have hrb0 := hrb
  obtain ⟨A1, c1, hc1, hP1, hB1, hX1⟩ := hra
  obtain ⟨A2, c2, hc2, hP2, hB2, hX2⟩ := hrb
  obtain ⟨p0, p1⟩ := cells2t hB1
  obtain ⟨q0, q1⟩ := cells2t hB2
  obtain ⟨N1, hN1⟩ : ∃ n, n = (lf a).xs.length := ⟨_, rfl⟩
  obtain ⟨N2, hN2⟩ : ∃ n, n = (lf b).xs.length := ⟨_, rfl⟩
  obtain ⟨B1, hb1⟩ : ∃ n, n = (lf a).blk := ⟨_, rfl⟩
  obtain ⟨B2, hb2⟩ : ∃ n, n = (lf b).blk := ⟨_, rfl⟩
  have e1 : vl 0 a = .iface 156 (.pointer (some ⟨B1, 0, none⟩)) := by rw [hb1]; rfl
  have e2 : vl 0 b = .iface 156 (.pointer (some ⟨B2, 0, none⟩)) := by rw [hb2]; rfl
  rw [e1, e2]
  rw [← hN1, ← hb1] at p1
  rw [← hN2, ← hb2] at q1
  have a1 := as_bb
  have a2 := as_force
  have HCL : Hid (∀ W, w.heap.size < W.heap.size → Below w.heap.size w W → W.cell? ⟨w.heap.size, 0, none⟩ = some (.slice A1 N1 c1) → W.cell? ⟨w.heap.size, 1, none⟩ = some (.slice A2 N2 c2) → _) := Lib.hid fun W h1 h2 h3 h4 => joined0_calls ha hb hra0 hrb0 hN1 hN2 hX1 hX2 h1 h2 h3 h4
  clear hra0 hrb0
  clear p0 q0 hc1 hc2 hP1 hP2 hB1 hB2 hX1 hX2 ha hb e1 e2
  have HN1 := Lib.hid hN1
  have HN2 := Lib.hid hN2
  have HB1 := Lib.hid hb1
  have HB2 := Lib.hid hb2
  clear hN1 hN2 hb1 hb2
  go_enter Tryz.func165, Tryz.ntmps165
  go_wp2_with fail
  first | (go_region_with (first | (go_at_call 110; refine (HCL.out _ (by simp) (((Below.refl _ _).alloc (Nat.le_refl _) _).drew) (by simp [go_sem]) (by simp [go_sem])).mono ?_; rintro r w1 ⟨A, m, c, rfl, HLV⟩) | (go_at_call 109; refine HLV.out.mono ?_; rintro r w2 ⟨vb, vo, cc, J, mJ, rfl, hrest⟩))) | fail
  all_goals
    have HRE := Lib.hid hrest
    clear hrest
    (try go_simp)
    go_wp2
    go_ret
    have hm9 := HRE.out.1
    subst hm9
    exact ⟨vb, vo, cc, J, J.length, rfl, HRE.out⟩
end TR
end Go.Proofs.YtdjlflinepefbabGreat

/- tree.joined of two inner nodes, if it does what it says one height below; so at every height. No condition but those that each theorem names. -/
namespace Go.Proofs.YtdjlflinepefbabGreat
open Go.RowKit
namespace TR
open MM EX LF
set_option linter.unusedVariables false
set_option linter.unusedSimpArgs false

theorem own_head {w : World} {base : Nat} {e : TypeId} {size : Nat} {A : Option Addr} {k c n : Nat} {xs : List Value} (h : w.ownsRow base e size (.slice A k c) n xs) (hn : 0 < n) : ∃ g, A = some ⟨g, 0, none⟩ ∧ base ≤ g ∧ g < w.heap.size := by
  rcases h.2 with ⟨_, h0⟩ | ⟨g, cap, cur, hv, hg, hh, r⟩
  · omega
  · cases hv; exact ⟨g, rfl, hg, (Array.getElem?_eq_some_iff.1 hh).1⟩
theorem It.ok_nds {h : Nat} {w : World} {a : Option Addr} {n c : Nat} {l : List (Tr h)} (hn : n = l.length) (hv : Vals w a (l.map (vl h))) : It.ok 1 w ⟨a, n, c, l.map (vl h)⟩ := by
  refine ⟨by simp [hn], fun u hu => ?_, ?_⟩
  · obtain ⟨t, _, rfl⟩ := List.mem_map.1 hu; rfl
  · rcases hv with h0 | ⟨b, off, h1, h2, h3⟩
    · rw [List.map_eq_nil_iff] at h0
      exact .inl (by show n = 0; rw [hn, h0]; rfl)
    · exact .inr ⟨b, off, h1, h2, h3⟩
theorem joined1_calls {h : Nat} (hj : JoinedOk h) {P : Nat → Prop} {a b : Tr (h + 1)} {w W : World} (ha : Weak (h + 1) a) (hb : Weak (h + 1) b) {A1 A2 : Option Addr} {N1 N2 c1 c2 : Nat} (h1 : N1 = (nd a).xs.length) (h2 : N2 = (nd b).xs.length)
    (hx1 : NdsP P h w A1 (nd a).xs) (hx2 : NdsP P h w A2 (nd b).xs) {p : Nat} (hp : p < W.heap.size) (hbl : Below w.heap.size w W) (g0 : W.cell? ⟨p, 0, none⟩ = some (.slice A1 N1 c1)) (g1 : W.cell? ⟨p, 1, none⟩ = some (.slice A2 N2 c2)) :
    Calls Tryz.prog 113 #[.slice (some ⟨p, 0, none⟩) 2 2] W fun r w1 => ∃ A m c, r = .returned (.slice A m c) ∧ Hid (Calls Tryz.prog 112 #[.slice A m c] w1 fun r w2 => ∃ A m c, r = .returned (.slice A m c) ∧ Hid (Calls Tryz.prog 107 #[.slice A m c] w2 (JoinEnd P (h + 1) a b w))) := by
  have h3 : 1 ≤ (nd a).xs.length ∧ (nd a).xs.length ≤ 8 := ha.size_pos
  have h4 : 1 ≤ (nd b).xs.length ∧ (nd b).xs.length ≤ 8 := hb.size_pos
  have hv : Vals W (some ⟨p, 0, none⟩) ([(⟨A1, N1, c1, (nd a).xs.map (vl h)⟩ : It), ⟨A2, N2, c2, (nd b).xs.map (vl h)⟩].map It.val) := .inr ⟨p, 0, rfl, hp, fun i v hi => by
    match i, hi with
    | 0, hi => rw [show v = .slice A1 N1 c1 by simpa [It.val] using hi.symm]; exact g0
    | 1, hi => rw [show v = .slice A2 N2 c2 by simpa [It.val] using hi.symm]; exact g1
    | i + 2, hi => simp at hi⟩
  have hc := concatN_any [(⟨A1, N1, c1, (nd a).xs.map (vl h)⟩ : It), ⟨A2, N2, c2, (nd b).xs.map (vl h)⟩] (some ⟨p, 0, none⟩) 2 2 rfl (by omega) W hv (fun x hx => by
    rcases List.mem_cons.1 hx with rfl | hx
    · exact It.ok_nds h1 (hx1.nds.vals.below hbl)
    · rw [List.mem_singleton.1 hx]; exact It.ok_nds h2 (hx2.nds.vals.below hbl)) (by simp [tot]; omega)
  refine hc.mono ?_
  rintro r w1 ⟨A, m, c, rfl, hm, hown, hb1⟩
  refine ⟨A, m, c, rfl, Lib.hid ?_⟩
  obtain ⟨l, hl⟩ : ∃ l, l = (nd a).xs ++ (nd b).xs := ⟨_, rfl⟩
  have hcat : cat [(⟨A1, N1, c1, (nd a).xs.map (vl h)⟩ : It), ⟨A2, N2, c2, (nd b).xs.map (vl h)⟩] = l.map (vl h) := by rw [hl]; simp [cat]
  have hml : m = l.length := by rw [hm, hl]; simp [tot]; omega
  have hl2 : 2 ≤ l.length ∧ l.length ≤ 16 := by rw [hl, List.length_append]; omega
  have hsz := hbl.size
  have hsz1 := hb1.size
  have hbw : Below w.heap.size w w1 := ⟨hb1.os.trans hbl.os, hb1.tape.trans hbl.tape, hb1.output.trans hbl.output, Nat.le_trans hbl.size hb1.size, fun k hk => (hb1.block k (by omega)).trans (hbl.block k hk)⟩
  rw [← hm, hcat] at hown
  obtain ⟨g, rfl, hg1, hg2⟩ := own_head hown (by omega)
  have hwk : ∀ k ∈ l, Weak h k := fun k hk => by
    rw [hl] at hk
    rcases List.mem_append.1 hk with hk | hk
    · exact ha.kid k hk
    · exact hb.kid k hk
  have hrp : ∀ k ∈ l, RepP (fun b => P b ∧ b < w.heap.size) h w1 k := fun k hk => by
    have h0 : RepP P h w k := by
      rw [hl] at hk
      rcases List.mem_append.1 hk with hk | hk
      · exact hx1.reps k hk
      · exact hx2.reps k hk
    exact (h0.mono (fun b hb hlt => ⟨hb, hlt⟩)).keep hbw.size (fun b _ hlt => hbw.block b hlt)
  refine (mended_any h hj (fun b => P b ∧ b < w.heap.size) W.heap.size g m c l w1 hml (by omega) (fun b hb => by omega) hg2 hown hrp hwk).mono ?_
  rintro r w2 ⟨R, m2, rfl, hm2, hown2, hrep2, hres, hfl, hlen, hmk, hbut⟩
  refine ⟨_, m2, c, rfl, Lib.hid ?_⟩
  have hsz2 := hbut.size
  have hnd : NdsP (fun b => P b ∨ w.heap.size ≤ b) h w2 (some ⟨g, 0, none⟩) R := by
    refine ⟨?_, fun k hk => (hrep2 k hk).mono (fun b hb _ => by rcases hb with hb | hb; exact .inl hb.1; exact .inr (by omega))⟩
    have := own_valsP (l := R.map (vl h)) (by rw [List.length_map, ← hm2]; exact hown2)
    exact this.mono (fun b hb _ => .inr (by omega))
  refine (inners_any (fun b => P b ∨ w.heap.size ≤ b) R _ m2 c hm2 (by omega) (own_cap hown2) w2 hnd).mono ?_
  rintro r w3 ⟨A3, n3, c3, R3, rfl, hn3, hc3, hnd3, hcu, hbl3⟩
  have hsz3 := hbl3.size
  obtain ⟨hr3, hf3⟩ := inners_res hcu hres
  have hRne : R ≠ [] := by
    intro e
    have h9 := Weak.flat_len hwk
    rw [← hfl, e] at h9
    simp [flats] at h9
    rw [h9] at hl2; simp at hl2
  have hcnt : R3.length ≤ 2 := by rw [hcu.len]; exact cnt_small (by omega)
  have hpos := List.length_pos_iff.2 (hcu.some hRne)
  have hlist : [a, b].flatMap (fun t => (nd t).xs) = l := by rw [hl]; simp
  have hlt2 : ∀ x ∈ blocksL h R, x < w2.heap.size := fun x hx => by
    obtain ⟨k, hk, hx⟩ := List.mem_flatMap.1 hx
    exact (hrep2 k hk).rep.lt x hx
  rcases hnd3.vals with h0 | ⟨b0, o0, rfl, hlt, hP0, hv3⟩
  · rw [List.map_eq_nil_iff] at h0; exact absurd h0 (hcu.some hRne)
  · have hmono : ∀ b, ((fun b => P b ∨ w.heap.size ≤ b) b ∨ w2.heap.size ≤ b) → b < w3.heap.size → P b ∨ w.heap.size ≤ b := fun b hb _ => by
      rcases hb with hb | hb
      · exact hb
      · exact .inr (by omega)
    refine ⟨b0, o0, c3, R3, n3, rfl, hn3, by omega, by omega, hc3, ⟨hnd3.vals.mono hmono, fun k hk => (hnd3.reps k hk).mono hmono⟩, hr3, ?_, ?_, ?_⟩
    · rw [hf3, hfl, ← hlist, ← flats_up]
    · exact Mk.up (by rw [hlist]; exact hmk.low (by omega)) hcu.fr (by omega) hlt2
    · have hb2 : Below w.heap.size w1 w2 := hbut.below (by omega) (by omega)
      exact ⟨hbl3.os.trans (hb2.os.trans hbw.os), hbl3.tape.trans (hb2.tape.trans hbw.tape), hbl3.output.trans (hb2.output.trans hbw.output), by omega, fun k hk => (hbl3.block k (by omega)).trans ((hb2.block k hk).trans (hbw.block k hk))⟩
set_option maxRecDepth 100000 in
set_option maxHeartbeats 4000000 in
theorem joined1 {h : Nat} (hj : JoinedOk h) : JoinedOk (h + 1) := by
  intro P a b w ha hb hra hrb
  have hra0 := hra
  have hrb0 := hrb
  obtain ⟨A1, c1, hc1, hP1, hB1, hX1, hK1⟩ := hra
  obtain ⟨A2, c2, hc2, hP2, hB2, hX2, hK2⟩ := hrb
  obtain ⟨N1, hN1⟩ : ∃ n, n = (nd a).xs.length := ⟨_, rfl⟩
  obtain ⟨N2, hN2⟩ : ∃ n, n = (nd b).xs.length := ⟨_, rfl⟩
  have hr1 := ibelow_any _ _ _ _ _ w hB1
  have hr2 := ibelow_any _ _ _ _ _ w hB2
  obtain ⟨B1, hb1⟩ : ∃ n, n = (nd a).blk := ⟨_, rfl⟩
  obtain ⟨B2, hb2⟩ : ∃ n, n = (nd b).blk := ⟨_, rfl⟩
  have e1 : vl (h + 1) a = .iface 161 (.pointer (some ⟨B1, 0, none⟩)) := by rw [hb1]; rfl
  have e2 : vl (h + 1) b = .iface 161 (.pointer (some ⟨B2, 0, none⟩)) := by rw [hb2]; rfl
  rw [e1, e2]
  rw [← hN1, ← hb1] at hr1
  rw [← hN2, ← hb2] at hr2
  have HR1 := Lib.hid hr1
  have HR2 := Lib.hid hr2
  have a1 := as_ib
  have HCL : Hid (∀ W, w.heap.size < W.heap.size → Below w.heap.size w W → W.cell? ⟨w.heap.size, 0, none⟩ = some (.slice A1 N1 c1) → W.cell? ⟨w.heap.size, 1, none⟩ = some (.slice A2 N2 c2) → _) := Lib.hid fun W h1 h2 h3 h4 => joined1_calls hj ha hb hN1 hN2 ⟨hX1, hK1⟩ ⟨hX2, hK2⟩ h1 h2 h3 h4
  clear hra0 hrb0 hc1 hc2 hP1 hP2 hB1 hB2 hX1 hX2 ha hb e1 e2 hr1 hr2 hK1 hK2 hj hN1 hN2 hb1 hb2
  go_enter Tryz.func165, Tryz.ntmps165
  go_wp2_with fail
  refine HR1.out.mono ?_
  rintro r w1 ⟨rfl, rfl⟩
  go_wp2_with fail
  refine HR2.out.mono ?_
  rintro r w1 ⟨rfl, rfl⟩
  go_wp2_with fail
  refine (HCL.out _ (by simp) ((Below.refl _ _).alloc (Nat.le_refl _) _) (by simp [go_sem]) (by simp [go_sem])).mono ?_
  rintro r w1 ⟨A, m, c, rfl, HM⟩
  go_wp2_with fail
  refine HM.out.mono ?_
  rintro r w2 ⟨A, m, c, rfl, HI⟩
  go_wp2_with fail
  refine HI.out.mono ?_
  rintro r w2 ⟨vb, vo, cc, J, mJ, rfl, hrest⟩
  have HRE := Lib.hid hrest
  clear hrest
  go_wp2
  go_ret
  exact ⟨vb, vo, cc, J, mJ, rfl, HRE.out⟩
theorem joined_ok : ∀ h, JoinedOk h
  | 0 => joined0
  | h + 1 => joined1 (joined_ok h)
end TR
end Go.Proofs.YtdjlflinepefbabGreat
