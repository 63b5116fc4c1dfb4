/- tree's change.of of an inner node, if it does what it says one height below; so at every height. No condition but those that each theorem names. -/
import Derived.Test.YtdjlflinepefbabGreatQ21

namespace Go.Proofs.YtdjlflinepefbabGreat
open Go.RowKit
namespace TR
open MM EX LF
set_option linter.unusedVariables false
set_option linter.unusedSimpArgs false

theorem mended_nil (A : Option Addr) (c : Nat) (w : World) : Calls Tryz.prog 112 #[.slice A 0 c] w fun r w' => r = .returned (.slice A 0 c) ∧ w = w' := by
  go_enter Tryz.func112, Tryz.ntmps112
  go_wp2
  go_loopw [0, 3] (fun s i wr => s = .slice A 0 c ∧ i = .int .i64 0 ∧ w = wr) (fun _ _ _ => 0)
  case atStart => exact ⟨rfl, rfl, rfl⟩
  case round =>
    obtain ⟨rfl, rfl, rfl⟩ := hrel
    go_wp2
    go_ret
    exact ⟨rfl, rfl⟩
/-- What of reads at an inner node. -/
structure OI (w : World) (B L : Nat) (s : Value) (a b : Int) (e : Value) (w' : World) : Prop where
  node : ∃ p, Blk w' B 163 #[p, s]
  chg : Blk w' L 146 #[.int .i64 a, .int .i64 b, e]
  bel : Below w.heap.size w w'
theorem OI.below {w : World} {B L : Nat} {s : Value} {a b : Int} {e : Value} {w1 w2 : World} (h : OI w B L s a b e w1) (hb : Below w1.heap.size w1 w2) : OI w B L s a b e w2 := by
  obtain ⟨p, hp⟩ := h.node
  exact ⟨⟨p, hp.below hb hp.lt⟩, h.chg.below hb h.chg.lt, bkept h.bel hb⟩
theorem oi_s {w : World} {B L : Nat} {s : Value} {a b : Int} {e : Value} {w' : World} (h : OI w B L s a b e w') : w'.cell? ⟨B, 1, none⟩ = some s ∧ w'.cell? ⟨L, 0, none⟩ = some (.int .i64 a) ∧ w'.cell? ⟨L, 1, none⟩ = some (.int .i64 b) ∧ w'.cell? ⟨L, 2, none⟩ = some e ∧ OI w B L s a b e w' := by
  obtain ⟨p, hp⟩ := h.node
  exact ⟨hp.cell 1, h.chg.cell 0, h.chg.cell 1, h.chg.cell 2, h⟩
theorem vals_take {w : World} {A : Option Addr} {l : List Value} (h : Vals w A l) (k : Nat) : Vals w A (l.take k) := by
  rcases h with h | ⟨b, o, h1, h2, h3⟩
  · exact .inl (by rw [h]; simp)
  · exact .inr ⟨b, o, h1, h2, fun i v hi => by
      rw [List.getElem?_take] at hi
      split at hi
      · exact h3 i v hi
      · cases hi⟩
theorem vals_drop {w : World} {b o : Nat} {l : List Value} (h : Vals w (some ⟨b, o, none⟩) l) (k : Nat) : Vals w (some ⟨b, o + k, none⟩) (l.drop k) := by
  rcases h with h | ⟨b', o', h1, h2, h3⟩
  · exact .inl (by rw [h]; simp)
  · cases h1
    exact .inr ⟨_, _, rfl, h2, fun i v hi => by
      rw [List.getElem?_drop] at hi
      have := h3 (k + i) v hi
      rwa [← Nat.add_assoc] at this⟩
/-- What is behind the parts: put together, mended, parted anew. -/
theorem of1_calls {P : Nat → Prop} {h : Nat} {t : Tr (h + 1)} {a b : Int} {E : List Ext} {w V W : World} (hab : a ≤ b) (ht : Weak (h + 1) t) (hv : WV (flat (h + 1) t)) {i j : Nat} (hi : i = und (keys h (nd t).xs) a (nd t).xs.length) (hj : j = und (keys h (nd t).xs) b (nd t).xs.length) (hrep : ∀ k ∈ (nd t).xs, RepP P h w k)
    (hwV : Below w.heap.size w V) (hVW : Below V.heap.size V W) {A1 A2 A3 : Option Addr} {N1 N2 N3 c1 c2 c3 : Nat} {M : List (Tr h)} (h1 : N1 = i) (h2 : N2 = M.length) (h3 : N3 = (nd t).xs.length - (j + 1)) (v1 : Vals w A1 (((nd t).xs.take i).map (vl h))) (q2 : NdsP (fun b => P b ∨ w.heap.size ≤ b) h V A2 M) (v3 : Vals w A3 (((nd t).xs.drop (j + 1)).map (vl h)))
    (cM : CameL h (((nd t).xs.take (j + 1)).drop i) a b E M) (mk : Mk w.heap.size h (((nd t).xs.take (j + 1)).drop i) M) {p : Nat} (hp : p < W.heap.size) (g0 : W.cell? ⟨p, 0, none⟩ = some (.slice A1 N1 c1)) (g1 : W.cell? ⟨p, 1, none⟩ = some (.slice A2 N2 c2)) (g2 : W.cell? ⟨p, 2, none⟩ = some (.slice A3 N3 c3)) :
    Calls Tryz.prog 113 #[.slice (some ⟨p, 0, none⟩) 3 3] W fun r w1 => ∃ A m c, r = .returned (.slice A m c) ∧ Below W.heap.size W w1 ∧ Hid (Calls Tryz.prog 112 #[.slice A m c] w1 fun r w2 => ∃ A m c, r = .returned (.slice A m c) ∧ Below W.heap.size W w2 ∧ Hid (Calls Tryz.prog 107 #[.slice A m c] w2 fun r w3 => OfEnd P (h + 1) t a b E w r w3 ∧ Below W.heap.size W w3)) := by
  have h8 : 1 ≤ (nd t).xs.length ∧ (nd t).xs.length ≤ 8 := ht.size_pos
  have hjl : j ≤ (nd t).xs.length - 1 := by rw [hj]; exact und_le _ _ _
  have hij : i ≤ j := by rw [hi, hj]; exact und_mono _ hab _
  have hM28 := cM.2.2.2
  have hwW := bkept hwV hVW
  obtain ⟨l1, e1⟩ : ∃ l, l = (nd t).xs.take i := ⟨_, rfl⟩
  obtain ⟨l3, e3⟩ : ∃ l, l = (nd t).xs.drop (j + 1) := ⟨_, rfl⟩
  have n1 : N1 = l1.length := by rw [e1, List.length_take]; omega
  have n3 : N3 = l3.length := by rw [e3, List.length_drop]; omega
  have hl1 : l1.length ≤ 8 := by omega
  have hl3 : l3.length ≤ 8 := by omega
  have hwk : ∀ k ∈ l1 ++ M ++ l3, Weak h k := by rw [e1, e3]; exact kids_weak ht cM
  have hr1 : ∀ k ∈ l1, RepP P h w k := fun k hk => hrep k (by rw [e1] at hk; exact List.mem_of_mem_take hk)
  have hr3 : ∀ k ∈ l3, RepP P h w k := fun k hk => hrep k (by rw [e3] at hk; exact List.mem_of_mem_drop hk)
  rw [← e1] at v1
  rw [← e3] at v3
  have hvv : Vals W (some ⟨p, 0, none⟩) ([(⟨A1, N1, c1, l1.map (vl h)⟩ : It), ⟨A2, N2, c2, M.map (vl h)⟩, ⟨A3, N3, c3, l3.map (vl h)⟩].map It.val) := .inr ⟨p, 0, rfl, hp, fun i v hi => by
    match i, hi with
    | 0, hi => rw [show v = .slice A1 N1 c1 by simpa [It.val] using hi.symm]; exact g0
    | 1, hi => rw [show v = .slice A2 N2 c2 by simpa [It.val] using hi.symm]; exact g1
    | 2, hi => rw [show v = .slice A3 N3 c3 by simpa [It.val] using hi.symm]; exact g2
    | i + 3, hi => simp at hi⟩
  have hc := concatN_any [(⟨A1, N1, c1, l1.map (vl h)⟩ : It), ⟨A2, N2, c2, M.map (vl h)⟩, ⟨A3, N3, c3, l3.map (vl h)⟩] (some ⟨p, 0, none⟩) 3 3 rfl (by omega) W hvv (fun x hx => by
    rcases List.mem_cons.1 hx with rfl | hx
    · exact It.ok_nds n1 (v1.below hwW)
    · rcases List.mem_cons.1 hx with rfl | hx
      · exact It.ok_nds h2 (q2.nds.vals.below hVW)
      · rw [List.mem_singleton.1 hx]; exact It.ok_nds n3 (v3.below hwW)) (by simp [tot]; omega)
  refine hc.mono ?_
  rintro r w1 ⟨A, m, c, rfl, hm, hown, hb1⟩
  refine ⟨A, m, c, rfl, hb1, Lib.hid ?_⟩
  obtain ⟨l, hl⟩ : ∃ l, l = l1 ++ M ++ l3 := ⟨_, rfl⟩
  have hcat : cat [(⟨A1, N1, c1, l1.map (vl h)⟩ : It), ⟨A2, N2, c2, M.map (vl h)⟩, ⟨A3, N3, c3, l3.map (vl h)⟩] = l.map (vl h) := by rw [hl]; simp [cat]
  have hml : m = l.length := by rw [hm, hl]; simp [tot]; omega
  have hm100 : m ≤ 100 := by rw [hml, hl]; simp only [List.length_append]; omega
  rw [← hl] at hwk
  have hsz := hwW.size
  have hsz1 := hb1.size
  have hw1 : Below w.heap.size w w1 := bkept hwW hb1
  have hV1 : Below V.heap.size V w1 := bkept hVW hb1
  have hrp : ∀ k ∈ l, RepP (fun b => (P b ∨ w.heap.size ≤ b) ∧ b < W.heap.size) h w1 k := fun k hk => by
    rw [hl] at hk
    simp only [List.mem_append] at hk
    rcases hk with (hk | hk) | hk
    · exact ((hr1 k hk).mono (Q := fun b => (P b ∨ w.heap.size ≤ b) ∧ b < W.heap.size) (fun b hb hlt => ⟨.inl hb, by omega⟩)).keep hw1.size (fun b hb hlt => hw1.block b hlt)
    · exact ((q2.reps k hk).mono (Q := fun b => (P b ∨ w.heap.size ≤ b) ∧ b < W.heap.size) (fun b hb hlt => ⟨hb, Nat.lt_of_lt_of_le hlt hVW.size⟩)).keep hV1.size (fun b hb hlt => hV1.block b hlt)
    · exact ((hr3 k hk).mono (Q := fun b => (P b ∨ w.heap.size ≤ b) ∧ b < W.heap.size) (fun b hb hlt => ⟨.inl hb, by omega⟩)).keep hw1.size (fun b hb hlt => hw1.block b hlt)
  have hmk1 : Mk w.heap.size h (nd t).xs l := by
    have e : (nd t).xs = (nd t).xs.take i ++ ((nd t).xs.take (j + 1)).drop i ++ (nd t).xs.drop (j + 1) := by
      conv => lhs; rw [← List.take_append_drop (j + 1) (nd t).xs]
      congr 1
      conv => lhs; rw [← List.take_append_drop i ((nd t).xs.take (j + 1))]
      rw [List.take_take, Nat.min_eq_left (by omega)]
    conv => arg 3; rw [e]
    rw [hl, e1, e3]
    exact mk.mid
  have hend : ∀ (K : List (Tr h)) (A : Option Addr) (m c : Nat) (w2 : World), m = K.length → m ≤ c → m ≤ 100 → NdsP (fun b => P b ∨ w.heap.size ≤ b) h w2 A K → Res h K → flats h K = flats h l → K.length ≤ l.length → Mk w.heap.size h (nd t).xs K → Below W.heap.size W w2 →
      Calls Tryz.prog 107 #[.slice A m c] w2 fun r w3 => OfEnd P (h + 1) t a b E w r w3 ∧ Below W.heap.size W w3 := fun K A m c w2 k1 k2 k3 k4 k5 k6 k7 k8 k9 => by
    refine (inners_any (fun b => P b ∨ w.heap.size ≤ b) K A m c k1 (by omega) k2 w2 k4).mono ?_
    rintro r w3 ⟨A3, n3, c3, R3, rfl, hn3, hc3, hnd3, hcu, hbl3⟩
    have hz2 : w.heap.size ≤ w2.heap.size := Nat.le_trans hsz k9.size
    have hb3 := bkept k9 hbl3
    refine ⟨⟨A3, n3, c3, R3, rfl, hn3, hc3, hnd3.mono (fun b hb _ => hb.elim id (fun h => .inr (Nat.le_trans hz2 h))), came_inner hab ht hv hi hj cM k5 (by rw [k6, hl, e1, e3]) (by rw [hl, e1, e3] at k7; exact k7) hcu, Mk.up (old := [t]) (by simpa using k8) hcu.fr hz2 (fun b hb => k4.nds.lt b hb), bkept hwW hb3⟩, hb3⟩
  rw [← hm, hcat] at hown
  rcases Nat.eq_zero_or_pos m with h0 | hpos
  · subst h0
    have hle : l = [] := List.eq_nil_of_length_eq_zero hml.symm
    refine (mended_nil A c w1).mono ?_
    rintro r w2 ⟨rfl, rfl⟩
    refine ⟨A, 0, c, rfl, hb1, Lib.hid ?_⟩
    exact hend [] A 0 c w1 rfl (Nat.zero_le _) (Nat.zero_le _) ⟨.inl rfl, fun _ h => (List.not_mem_nil h).elim⟩ (.inl fun _ h => (List.not_mem_nil h).elim) (by rw [hle]) (Nat.zero_le _) (by rw [hle] at hmk1; exact hmk1) hb1
  · obtain ⟨g, rfl, hg1, hg2⟩ := own_head hown hpos
    refine (mended_any h (joined_ok h) (fun b => (P b ∨ w.heap.size ≤ b) ∧ b < W.heap.size) W.heap.size g m c l w1 hml hm100 (fun b hb => by omega) hg2 hown hrp hwk).mono ?_
    rintro r w2 ⟨R, m2, rfl, hm2, hown2, hrep2, hres, hfl, hlen, hmk, hbut⟩
    have hb2 : Below W.heap.size W w2 := by
      have h9 : Below W.heap.size w1 w2 := hbut.below hg1 hsz1
      exact ⟨h9.os.trans hb1.os, h9.tape.trans hb1.tape, h9.output.trans hb1.output, Nat.le_trans hsz1 hbut.size, fun k hk => (h9.block k hk).trans (hb1.block k hk)⟩
    refine ⟨_, m2, c, rfl, hb2, Lib.hid ?_⟩
    refine hend R _ m2 c w2 hm2 (own_cap hown2) (by omega) ⟨?_, fun k hk => (hrep2 k hk).mono (fun b hb _ => hb.elim (·.1) (fun h => .inr (by omega)))⟩ hres hfl (by omega) (hmk1.trans hmk (by omega) (fun b hb => ?_)) hb2
    · have := own_valsP (l := R.map (vl h)) (by rw [List.length_map, ← hm2]; exact hown2)
      exact this.mono (fun b hb _ => .inr (by omega))
    · obtain ⟨k, hk, hb⟩ := List.mem_flatMap.1 hb
      exact (hrp k hk).rep.lt b hb
set_option maxRecDepth 100000 in
set_option maxHeartbeats 8000000 in
theorem of1_ok {h : Nat} (ih : OfOk h) : OfOk (h + 1) := by
  intro P a b E t w C n c hab h0 hb9 hE hE5 hn hc hx hg ht hv hr
  have hac := across_ok h ih
  have hr0 := hr.rep
  have hU := iunder_any h t ht
  have h8 : 1 ≤ (nd t).xs.length ∧ (nd t).xs.length ≤ 8 := ht.size_pos
  obtain ⟨A1, c1, hc1, hP1, hB1, hX1, hK1⟩ := hr
  obtain ⟨kb, ko, rfl, hkb⟩ : ∃ b off, A1 = some ⟨b, off, none⟩ ∧ b < w.heap.size := by
    rcases hX1.vals with h0 | ⟨b, o, h1, h2, _⟩
    · rw [List.map_eq_nil_iff] at h0; rw [h0] at h8; simp at h8
    · exact ⟨b, o, h1, h2⟩
  obtain ⟨i, hi⟩ : ∃ i, i = und (keys h (nd t).xs) a (nd t).xs.length := ⟨_, rfl⟩
  obtain ⟨j, hj⟩ : ∃ j, j = und (keys h (nd t).xs) b (nd t).xs.length := ⟨_, rfl⟩
  have hjl : j ≤ (nd t).xs.length - 1 := by rw [hj]; exact und_le _ _ _
  have hij : i ≤ j := by rw [hi, hj]; exact und_mono _ hab _
  have hvk : WV (flats h (nd t).xs) := hv
  have HU1 : Hid (∀ w1, Below w.heap.size w w1 → Calls Tryz.prog 91 #[.pointer (some ⟨(nd t).blk, 0, none⟩), .int .i64 a] w1 fun r w' => r = .returned (.int .i64 (i : Nat)) ∧ Below w1.heap.size w1 w') := Lib.hid fun w1 h1 => by rw [hi]; exact hU a w1 (hr0.below h1)
  have HU2 : Hid (∀ w1, Below w.heap.size w w1 → Calls Tryz.prog 91 #[.pointer (some ⟨(nd t).blk, 0, none⟩), .int .i64 b] w1 fun r w' => r = .returned (.int .i64 (j : Nat)) ∧ Below w1.heap.size w1 w') := Lib.hid fun w1 h1 => by rw [hj]; exact hU b w1 (hr0.below h1)
  obtain ⟨N1, hN1⟩ : ∃ n, n = (nd t).xs.length := ⟨_, rfl⟩
  obtain ⟨BB, hBB⟩ : ∃ n, n = (nd t).blk := ⟨_, rfl⟩
  have e1 : vl (h + 1) t = .iface 161 (.pointer (some ⟨BB, 0, none⟩)) := by rw [hBB]; rfl
  rw [e1]
  rw [← hN1, ← hBB] at hB1
  rw [← hN1] at hc1
  rw [← hBB] at HU1 HU2
  obtain ⟨j1, hj1⟩ : ∃ x, x = j + 1 := ⟨_, rfl⟩
  have hnd : NdsP P h w (some ⟨kb, ko, none⟩) (nd t).xs := ⟨hX1, hK1⟩
  have hsub : (((nd t).xs.take j1).drop i).Sublist (nd t).xs := (List.drop_sublist _ _).trans (List.take_sublist _ _)
  have hml : j1 - i = (((nd t).xs.take j1).drop i).length := by rw [List.length_drop, List.length_take]; omega
  have hA0 : NdsP P h w (some ⟨kb, ko + i, none⟩) (((nd t).xs.take j1).drop i) := by
    refine ⟨?_, fun k hk => hK1 k (hsub.subset hk)⟩
    rcases hX1 with h0 | ⟨b', o', q1, q2, q3, q4⟩
    · exact .inl (by rw [List.map_eq_nil_iff] at h0; rw [h0]; simp)
    · cases q1
      refine .inr ⟨_, _, rfl, q2, q3, fun x v hxv => ?_⟩
      rw [List.map_drop, List.map_take, List.getElem?_drop, List.getElem?_take] at hxv
      split at hxv
      · have := q4 _ _ hxv
        rwa [← Nat.add_assoc] at this
      · cases hxv
  have hrg : Ranged h (((nd t).xs.take j1).drop i) a b := by
    intro x m y hxy
    have hlt : i < j := by
      have : (x :: (m ++ [y])).length = j1 - i := by rw [← hxy, hml]
      simp at this; omega
    obtain ⟨x', m', y', s1, s2, s3, s4, s5⟩ := split_range (nd t).xs hlt (by omega)
    rw [hj1, s2] at hxy
    injection hxy with u1 u2
    have u3 := List.append_inj' u2 rfl
    obtain ⟨rfl, u4⟩ := u3
    injection u4 with u4 _
    subst u1 u4
    exact kids_range hvk (fun k hk => (ht.kid k hk).flat_pos) (X := (nd t).xs.take i) s1 (by rw [List.length_take]; omega) (by rw [List.length_take]; omega)
  have HAC : Hid (∀ W, Below w.heap.size w W → Calls Tryz.prog 114 #[.agg #[.int .i64 a, .int .i64 b, .slice C n c], .slice (some ⟨kb, ko + i, none⟩) (j1 - i) (c1 - i)] W fun r w' => AcEnd P h (((nd t).xs.take j1).drop i) a b E W r w' ∧ Below W.heap.size W w') := Lib.hid fun W hW => by
    refine (hac P a b E _ W C n c _ (j1 - i) (c1 - i) hab h0 hb9 hE hE5 hn hc (hx.keep hW.size (fun b _ hlt => hW.block b hlt)) hg (fun k hk => ht.kid k (hsub.subset hk)) (hvk.sub (flats_sub hsub)) hml (by omega) (by omega) (by omega) (hA0.keep hW.size (fun b _ hlt => hW.block b hlt)) hrg).mono fun r w' x => ⟨x, ?_⟩
    obtain ⟨_, _, _, _, _, _, _, _, _, _, h7⟩ := x
    exact h7
  have HCL : Hid (∀ (V0 V W : World) (A2 A3 : Option Addr) (N2 N3 c2 c3 p : Nat), Below w.heap.size w V0 → AcEnd P h (((nd t).xs.take j1).drop i) a b E V0 (.returned (.slice A2 N2 c2)) V → Below V.heap.size V W → N3 = N1 - j1 → Vals w A3 (((nd t).xs.drop j1).map (vl h)) → p < W.heap.size → W.cell? ⟨p, 0, none⟩ = some (.slice (some ⟨kb, ko, none⟩) i c1) → W.cell? ⟨p, 1, none⟩ = some (.slice A2 N2 c2) → W.cell? ⟨p, 2, none⟩ = some (.slice A3 N3 c3) →
      Calls Tryz.prog 113 #[.slice (some ⟨p, 0, none⟩) 3 3] W fun r w1 => ∃ A m c, r = .returned (.slice A m c) ∧ Below W.heap.size W w1 ∧ Hid (Calls Tryz.prog 112 #[.slice A m c] w1 fun r w2 => ∃ A m c, r = .returned (.slice A m c) ∧ Below W.heap.size W w2 ∧ Hid (Calls Tryz.prog 107 #[.slice A m c] w2 fun r w3 => OfEnd P (h + 1) t a b E w r w3 ∧ Below W.heap.size W w3))) := Lib.hid fun V0 V W A2 A3 N2 N3 c2 c3 p k0 k1 k2 k3 k4 k5 g0 g1 g2 => by
    obtain ⟨_, _, _, M, ee, x1, x2, x3, x4, x5, x6⟩ := k1
    cases ee
    rw [hj1] at x4 x5 k4
    exact of1_calls hab ht hv hi hj hK1 (bkept k0 x6) k2 rfl x1 (by rw [k3, hN1, hj1]) (by rw [List.map_take]; exact vals_take hX1.vals i) (rep_far k0.size x3) k4 x4 (x5.low k0.size) k5 g0 g1 g2
  have HX3a : Hid (c1 = j1 → Vals w (some ⟨kb, ko, none⟩) (((nd t).xs.drop j1).map (vl h))) := Lib.hid fun hh => .inl (by rw [List.drop_eq_nil_of_le (by omega)]; rfl)
  have HX3b : Hid (Vals w (some ⟨kb, ko + j1, none⟩) (((nd t).xs.drop j1).map (vl h))) := Lib.hid (by rw [List.map_drop]; exact vals_drop hX1.vals j1)
  obtain ⟨W, hW⟩ : ∃ W, W = w.alloc (.cells #[.int .i64 a, .int .i64 b, .slice C n c] 146) := ⟨_, rfl⟩
  have HI : Hid (OI w BB w.heap.size (.slice (some ⟨kb, ko, none⟩) N1 c1) a b (.slice C n c) W.drew) := Lib.hid ⟨⟨_, by rw [hW]; exact hB1.alloc _⟩, by rw [hW]; exact Blk.new w _ _, by rw [hW]; exact ((Below.refl _ _).alloc (Nat.le_refl _) _).drew⟩
  have HW := Lib.hid hW
  have t0 : (0 : Int) ≤ (i : Int) := by omega
  have t1 : (i : Int) ≤ (c1 : Int) := by omega
  have t2 : (0 : Int) ≤ (j1 : Int) := by omega
  have t3 : (j1 : Int) ≤ (N1 : Int) := by omega
  have t4 : (N1 : Int) ≤ (c1 : Int) := by omega
  have t5 : (i : Int) ≤ (j1 : Int) := by omega
  have t6 : (j1 : Int) ≤ (c1 : Int) := by omega
  have t7 : ¬ (c1 = i) := by omega
  have tb : IntKind.i64.wrap ((j : Int) + 1) = (j1 : Int) := by rw [IntWalk.i64_in _ (by omega)]; omega
  have a1 := as_ib
  have a2 := as_ii
  have HJ1 : Hid (i < j1) := Lib.hid (by omega)
  clear hr0 hc1 hP1 hB1 hX1 hK1 hkb hN1 hBB hW hab h0 hb9 hE hE5 hn hc hx hg ht hv e1 h8 hi hj hjl hij hvk hj1 hnd hsub hml hA0 hrg hac hU ih
  go_enter Tryz.func85, Tryz.ntmps85
  go_wp2
  rw [← HW.out]
  have d0 : ∀ x : Wd (OI w BB w.heap.size (.slice (some ⟨kb, ko, none⟩) N1 c1) a b (.slice C n c)), x.w.cell? ⟨w.heap.size, 0, none⟩ = some (.int .i64 a) := fun x => x.ok.chg.cell 0
  have d1 : ∀ x : Wd (OI w BB w.heap.size (.slice (some ⟨kb, ko, none⟩) N1 c1) a b (.slice C n c)), x.w.cell? ⟨w.heap.size, 1, none⟩ = some (.int .i64 b) := fun x => x.ok.chg.cell 1
  have HQ1 := Lib.hid (fun x : Wd (OI w BB w.heap.size (.slice (some ⟨kb, ko, none⟩) N1 c1) a b (.slice C n c)) => HU1.out x.w x.ok.bel)
  have HQ2 := Lib.hid (fun x : Wd (OI w BB w.heap.size (.slice (some ⟨kb, ko, none⟩) N1 c1) a b (.slice C n c)) => HU2.out x.w x.ok.bel)
  have hNE : Nonempty (Wd (OI w BB w.heap.size (.slice (some ⟨kb, ko, none⟩) N1 c1) a b (.slice C n c))) := ⟨⟨_, HI.out⟩⟩
  refine wp_region_inv (OI w BB w.heap.size (.slice (some ⟨kb, ko, none⟩) N1 c1) a b (.slice C n c)) (by kernel_rfl) (by kernel_rfl) HI.out ?_
  repeat (go_big_quiet_step (first | (go_at_call 91; with_reducible refine inv_call _ (fun _ _ => OI.below) (HQ1.out _)) | (go_at_call 91; with_reducible refine inv_call _ (fun _ _ => OI.below) (HQ2.out _))))
  refine wpQuiet_nil ?_
  intro wq hw'
  obtain ⟨⟨w9, h9⟩, hw''⟩ := hw'
  subst hw''
  have H9 := Lib.hid (h9.below (Below.refl _ _).drew)
  have HS9 := Lib.hid (oi_s H9.out)
  clear h9 d0 d1 HQ1 HQ2 hNE HI
  by_cases hcc : c1 = j1
  · have HX3 := Lib.hid (HX3a.out hcc)
    subst hcc
    go_wp2
    go_region_held3 (fun w' => w'.cell? ⟨BB, 1, none⟩ = some (.slice (some ⟨kb, ko, none⟩) N1 c1) ∧ w'.cell? ⟨w.heap.size, 0, none⟩ = some (.int .i64 a) ∧ w'.cell? ⟨w.heap.size, 1, none⟩ = some (.int .i64 b) ∧ w'.cell? ⟨w.heap.size, 2, none⟩ = some (.slice C n c) ∧ OI w BB w.heap.size (.slice (some ⟨kb, ko, none⟩) N1 c1) a b (.slice C n c) w') (first | with_reducible exact HS9.out | with_reducible assumption | exact oi_s (OI.below (by with_reducible assumption) (below_box _ _))) (first | (go_at_call 114; (with_reducible refine (HAC.out _ H9.out.bel).mono ?_); rintro r w5 ⟨⟨A5, n5, c5, R5, rfl, hrest⟩, hb5⟩; have HA5 : Hid (AcEnd P h _ a b E wq.drew (.returned (.slice A5 n5 c5)) w5) := Lib.hid ⟨A5, n5, c5, R5, rfl, hrest⟩; have hC5 := H9.out.below hb5; have hS5 := oi_s hC5; clear hrest hb5) | (go_at_call 113; refine (HCL.out _ _ _ _ _ _ _ _ _ _ H9.out.bel HA5.out (below_box _ _) rfl HX3.out (by simp) (by exact World.cell?_alloc_new _ _ _ _) (by exact World.cell?_alloc_new _ _ _ _) (by exact World.cell?_alloc_new _ _ _ _)).mono ?_; rintro r w6 ⟨A6, m6, c6, rfl, hb6, HM6⟩; have hC6 := (hC5.below (below_box _ _)).below hb6; have hS6 := oi_s hC6; have hB6 := hb6) | (go_at_call 112; refine HM6.out.mono ?_; rintro r w7 ⟨A7, m7, c7, rfl, hb7, HI7⟩; have hC7 := (hC5.below (below_box _ _)).below hb7; have hS7 := oi_s hC7) | (go_at_call 107; refine HI7.out.mono ?_; rintro r w8 ⟨⟨A8, n8, c8, R8, rfl, hrest⟩, hb8⟩; have HRE := Lib.hid hrest; have hC8 := (hC5.below (below_box _ _)).below hb8; have hS8 := oi_s hC8; clear hrest))
    all_goals
      go_wp2
      go_ret
      exact ⟨A8, n8, c8, R8, rfl, HRE.out⟩
  · have HX3 := HX3b
    go_wp2
    go_region_held3 (fun w' => w'.cell? ⟨BB, 1, none⟩ = some (.slice (some ⟨kb, ko, none⟩) N1 c1) ∧ w'.cell? ⟨w.heap.size, 0, none⟩ = some (.int .i64 a) ∧ w'.cell? ⟨w.heap.size, 1, none⟩ = some (.int .i64 b) ∧ w'.cell? ⟨w.heap.size, 2, none⟩ = some (.slice C n c) ∧ OI w BB w.heap.size (.slice (some ⟨kb, ko, none⟩) N1 c1) a b (.slice C n c) w') (first | with_reducible exact HS9.out | with_reducible assumption | exact oi_s (OI.below (by with_reducible assumption) (below_box _ _))) (first | (go_at_call 114; (with_reducible refine (HAC.out _ H9.out.bel).mono ?_); rintro r w5 ⟨⟨A5, n5, c5, R5, rfl, hrest⟩, hb5⟩; have HA5 : Hid (AcEnd P h _ a b E wq.drew (.returned (.slice A5 n5 c5)) w5) := Lib.hid ⟨A5, n5, c5, R5, rfl, hrest⟩; have hC5 := H9.out.below hb5; have hS5 := oi_s hC5; clear hrest hb5) | (go_at_call 113; refine (HCL.out _ _ _ _ _ _ _ _ _ _ H9.out.bel HA5.out (below_box _ _) rfl HX3.out (by simp) (by exact World.cell?_alloc_new _ _ _ _) (by exact World.cell?_alloc_new _ _ _ _) (by exact World.cell?_alloc_new _ _ _ _)).mono ?_; rintro r w6 ⟨A6, m6, c6, rfl, hb6, HM6⟩; have hC6 := (hC5.below (below_box _ _)).below hb6; have hS6 := oi_s hC6; have hB6 := hb6) | (go_at_call 112; refine HM6.out.mono ?_; rintro r w7 ⟨A7, m7, c7, rfl, hb7, HI7⟩; have hC7 := (hC5.below (below_box _ _)).below hb7; have hS7 := oi_s hC7) | (go_at_call 107; refine HI7.out.mono ?_; rintro r w8 ⟨⟨A8, n8, c8, R8, rfl, hrest⟩, hb8⟩; have HRE := Lib.hid hrest; have hC8 := (hC5.below (below_box _ _)).below hb8; have hS8 := oi_s hC8; clear hrest))
    all_goals
      go_wp2
      go_ret
      exact ⟨A8, n8, c8, R8, rfl, HRE.out⟩
theorem of_ok : ∀ h, OfOk h
  | 0 => of0_ok
  | h + 1 => of1_ok (of_ok h)
end TR
end Go.Proofs.YtdjlflinepefbabGreat
