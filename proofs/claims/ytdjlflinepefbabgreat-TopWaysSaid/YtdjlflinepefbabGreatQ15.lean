/- What tree.between answers: the change from a list to another one. No condition but those that each theorem names. -/
import Derived.Test.YtdjlflinepefbabGreatQ13
import Derived.Test.YtdjlflinepefbabGreatQ09
import Derived.Test.YtdjlflinepefbabGreatQ14
import Derived.Deep.CutBlock
import Derived.Deep.LoopGhost
import Derived.Deep.RegionHeld3

namespace Go.Proofs.YtdjlflinepefbabGreat
open Go.RowKit
namespace TR
open MM EX LF
set_option linter.unusedVariables false
set_option linter.unusedSimpArgs false

/-- An address that a slice may have. -/
def GoodA (A : Option Addr) (c : Nat) : Prop := (A = none ∧ c = 0) ∨ ∃ b o, A = some ⟨b, o, none⟩
/-- A slice that reads as a list. -/
def Sl (g : Nat) (w : World) (v : Value) (l : List Ext) : Prop := ∃ A n c, v = .slice A n c ∧ n = l.length ∧ n ≤ c ∧ ExsP (fun b => b < g) w A l ∧ GoodA A c
theorem Sl.below {g : Nat} {w w' : World} {v : Value} {l : List Ext} (h : Sl g w v l) (hb : Below w.heap.size w w') : Sl g w' v l := by
  obtain ⟨A, n, c, h1, h2, h3, h4, hg⟩ := h
  exact ⟨A, n, c, h1, h2, h3, h4.keep hb.size (fun b _ hlt => hb.block b hlt), hg⟩
theorem Sl.cons {g : Nat} {w : World} {v : Value} {e : Ext} {l : List Ext} (h : Sl g w v (e :: l)) : ∃ b off n c, v = .slice (some ⟨b, off, none⟩) n c ∧ n = l.length + 1 ∧ n ≤ c ∧ b < w.heap.size ∧ ∀ (i : Nat) (x : Ext), (e :: l)[i]? = some x → Cells4 w b (off + i * 4) x := by
  obtain ⟨A, n, c, h1, h2, h3, h4, _⟩ := h
  rcases h4 with h4 | ⟨b, off, rfl, h5, _, h6⟩
  · cases h4
  · exact ⟨b, off, n, c, h1, h2, h3, h5, h6⟩
theorem Sl.has {g : Nat} {w : World} {v : Value} {l : List Ext} (h : Sl g w v l) (hne : l ≠ []) : ∃ b off n c, v = .slice (some ⟨b, off, none⟩) n c ∧ n = l.length ∧ n ≤ c ∧ b < w.heap.size ∧ ∀ (i : Nat) (x : Ext), l[i]? = some x → Cells4 w b (off + i * 4) x := by
  obtain ⟨A, n, c, h1, h2, h3, h4, _⟩ := h
  rcases h4 with h4 | ⟨b, off, rfl, h5, _, h6⟩
  · exact absurd h4 hne
  · exact ⟨b, off, n, c, h1, h2, h3, h5, h6⟩
theorem Sl.nil {g : Nat} {w : World} {v : Value} (h : Sl g w v []) : ∃ A c, v = .slice A 0 c := by
  obtain ⟨A, n, c, h1, h2, h3, h4, _⟩ := h
  exact ⟨A, c, by rw [h1, h2]; rfl⟩
theorem Sl.tail {g : Nat} {w : World} {b o n c : Nat} {e : Ext} {l : List Ext} (h : Sl g w (.slice (some ⟨b, o, none⟩) n c) (e :: l)) : Sl g w (.slice (some ⟨b, o + 4, none⟩) (n - 1) (c - 1)) l := by
  obtain ⟨A, n', c', h1, h2, h3, h4, _⟩ := h
  cases h1
  refine ⟨_, _, _, rfl, by rw [h2]; simp, by omega, ?_, .inr ⟨_, _, rfl⟩⟩
  rcases h4 with h4 | ⟨b', off, h7, h5, h8, h6⟩
  · cases h4
  · cases h7
    exact .inr ⟨b, o + 4, rfl, h5, h8, fun i x hx => by have := h6 (i + 1) x (by rw [List.getElem?_cons_succ]; exact hx); rwa [Nat.add_mul, Nat.one_mul, Nat.add_comm (i * 4), ← Nat.add_assoc] at this⟩
theorem Sl.tail1 {g : Nat} {w : World} {b o n c : Nat} {e : Ext} {l : List Ext} (h : Sl g w (.slice (some ⟨b, o, none⟩) n c) (e :: l)) (hc : c ≤ 1) : Sl g w (.slice (some ⟨b, o, none⟩) (n - 1) 0) l := by
  obtain ⟨A, n', c', h1, h2, h3, h4, _⟩ := h
  cases h1
  rw [List.length_cons] at h2
  have h0 : l.length = 0 := by omega
  exact ⟨_, _, _, rfl, by omega, by omega, .inl (List.eq_nil_of_length_eq_zero h0), .inr ⟨_, _, rfl⟩⟩
theorem Sl.init {g : Nat} {w : World} {b o n c : Nat} {e : Ext} {l : List Ext} (h : Sl g w (.slice (some ⟨b, o, none⟩) n c) (l ++ [e])) : Sl g w (.slice (some ⟨b, o, none⟩) (n - 1) c) l := by
  obtain ⟨A, n', c', h1, h2, h3, h4, _⟩ := h
  cases h1
  rw [List.length_append] at h2
  refine ⟨_, _, _, rfl, by simp at h2; omega, by omega, ?_, .inr ⟨_, _, rfl⟩⟩
  rcases h4 with h4 | ⟨b', off, h7, h5, h8, h6⟩
  · simp at h4
  · cases h7
    exact .inr ⟨b, o, rfl, h5, h8, fun i x hx => h6 i x (by rw [List.getElem?_append_left]; exact hx; rcases Nat.lt_or_ge i l.length with h | h; exact h; rw [List.getElem?_eq_none h] at hx; cases hx)⟩
theorem snoc_at {l : List Ext} {e : Ext} : (l ++ [e])[l.length]? = some e := by rw [List.getElem?_append_right (Nat.le_refl _), Nat.sub_self]; rfl
theorem ext_ne {e f : Ext} (h : e ≠ f) : e.from_ ≠ f.from_ ∨ (e.from_ = f.from_ ∧ e.n ≠ f.n) ∨ (e.from_ = f.from_ ∧ e.n = f.n ∧ e.kind ≠ f.kind) ∨ (e.from_ = f.from_ ∧ e.n = f.n ∧ e.kind = f.kind ∧ e.at_ ≠ f.at_) := by
  obtain ⟨a, b, c, d⟩ := e
  obtain ⟨a', b', c', d'⟩ := f
  simp only [ne_eq, Ext.mk.injEq] at h ⊢
  omega
theorem last_at {l : List Ext} (h : l ≠ []) : l[l.length - 1]? = some (l.getLastD Ext.zero) := by
  rcases List.eq_nil_or_concat l with rfl | ⟨i, e, rfl⟩
  · exact absurd rfl h
  · simp
theorem cells3 {w : World} {g : Nat} {t : TypeId} {a0 a1 a2 : Value} (h : Blk w g t #[a0, a1, a2]) :
    (w.cell? ⟨g, 0, none⟩ = some a0 ∧ w.cell? ⟨g, 1, none⟩ = some a1 ∧ w.cell? ⟨g, 2, none⟩ = some a2) ∧ w.frozen? ⟨g, 0, none⟩ = false ∧ w.frozen? ⟨g, 1, none⟩ = false ∧ w.frozen? ⟨g, 2, none⟩ = false := ⟨⟨h.cell 0, h.cell 1, h.cell 2⟩, h.frozen 0, h.frozen 1, h.frozen 2⟩
/-- How between ends. -/
def BtEnd (U V : List Ext) (w : World) (r : Ending) (w' : World) : Prop :=
  Below w.heap.size w w' ∧ ((∃ a b E A n c, r = .returned (.tuple #[.agg #[.int .i64 a, .int .i64 b, .slice A n c], .bool true]) ∧ Chg U V a b E ∧ n = E.length ∧ n ≤ c ∧ Exs w' A E ∧ GoodA A c) ∨ (r = .returned (.tuple #[.agg #[.int .i64 0, .int .i64 0, .slice none 0 0], .bool false]) ∧ U = V))
set_option maxRecDepth 100000 in
set_option maxHeartbeats 8000000 in
theorem between_any (U V : List Ext) (A B : Option Addr) (n m c d : Nat) (hn : n = U.length) (hm : m = V.length) (hc : n ≤ c) (hd : m ≤ d) (hn2 : n ≤ 1000000) (hm2 : m ≤ 1000000) (w : World) (hU : Exs w A U) (hV : Exs w B V) (gU : GoodA A c) (gV : GoodA B d) :
    Calls Tryz.prog 83 #[.slice A n c, .slice B m d] w (BtEnd U V w) := by
  obtain ⟨W, hW⟩ : ∃ W, W = w.alloc (.cells #[.int .i64 0, .int .i64 0, .slice none 0 0] 146) := ⟨_, rfl⟩
  have HW := Lib.hid hW
  have HB0 : Hid (Below w.heap.size w W) := Lib.hid (by rw [hW]; exact (Below.refl _ _).alloc (Nat.le_refl _) _)
  have KR : Hid (Blk W w.heap.size 146 #[.int .i64 0, .int .i64 0, .slice none 0 0]) := Lib.hid (by rw [hW]; exact Blk.new w _ _)
  have HU : Hid (Sl w.heap.size W (.slice A n c) U) := Lib.hid ⟨A, n, c, rfl, hn, hc, ((Exs.all hU).keep HB0.out.size (fun b _ hlt => HB0.out.block b hlt)), gU⟩
  have HV : Hid (Sl w.heap.size W (.slice B m d) V) := Lib.hid ⟨B, m, d, rfl, hm, hd, ((Exs.all hV).keep HB0.out.size (fun b _ hlt => HB0.out.block b hlt)), gV⟩
  have HUN : Hid (U.length ≤ 1000000) := Lib.hid (by omega)
  have HVN : Hid (V.length ≤ 1000000) := Lib.hid (by omega)
  clear hW hn hm hc hd hU hV hn2 hm2
  go_enter Tryz.func83, Tryz.ntmps83
  go_upto_block 0 with fail
  rw [← HW.out]
  go_cut [0, 1] from 6 (fun p q wx => ∃ P U1 V1, Hid (U = P ++ U1) ∧ Hid (V = P ++ V1) ∧ Hid (Sl w.heap.size wx p U1) ∧ Hid (Sl w.heap.size wx q V1) ∧ Below W.heap.size W wx)
  case first =>
    go_wp2_with fail
    go_loopg [0, 1] U.length (fun g p q wx => ∃ P U1 V1, Hid (U = P ++ U1) ∧ Hid (V = P ++ V1) ∧ g = U1.length ∧ Hid (Sl w.heap.size wx p U1) ∧ Hid (Sl w.heap.size wx q V1) ∧ Below W.heap.size W wx)
    case atStart => exact ⟨[], U, V, Lib.hid rfl, Lib.hid rfl, rfl, HU, HV, Below.refl _ _⟩
    case round =>
      obtain ⟨P, U1, V1, HP, HQ, rfl, HS, HT, hbel⟩ := hrel
      have HBL := Lib.hid hbel
      have HD : Hid (∀ k, Below wr.heap.size wr (wr.drewN k)) := Lib.hid fun k => drewN_below (Below.refl _ _) k
      have HDW : Hid (∀ k, Below W.heap.size W (wr.drewN k)) := Lib.hid fun k => drewN_below hbel k
      clear hbel
      cases U1 with
      | nil =>
        obtain ⟨A1, c1, hp⟩ := HS.out.nil
        obtain ⟨B1, m1, d1, hq, _⟩ := HT.out
        subst hp hq
        go_wp2
        go_quiet (fail)
        go_wp2
        go_meet
        exact ⟨P, [], V1, HP, HQ, Lib.hid (HS.out.below (HD.out _)), Lib.hid (HT.out.below (HD.out _)), HDW.out _⟩
      | cons e U2 =>
        obtain ⟨b1, o1, n1, c1, hp, hn1, hc1, hb1, hx1⟩ := HS.out.cons
        subst hp
        obtain ⟨p0, p1, p2, p3⟩ := hx1 0 e rfl
        simp only [Nat.zero_mul, Nat.add_zero] at p0 p1 p2 p3
        have z1 : 0 < n1 := by omega
        have z3 : decide ((0 : Int) < (n1 : Int)) = true := decide_eq_true (by omega)
        have t3 : (1 : Int) ≤ (n1 : Int) := by omega
        have t5 : (n1 : Int) ≤ (c1 : Int) := by omega
        have N1 := Lib.hid hn1
        clear hx1 hn1
        cases V1 with
        | nil =>
          obtain ⟨B1, d1, hq⟩ := HT.out.nil
          subst hq
          go_wp2
          go_quiet (fail)
          go_wp2
          go_meet
          exact ⟨P, e :: U2, [], HP, HQ, Lib.hid (HS.out.below (HD.out _)), Lib.hid (HT.out.below (HD.out _)), HDW.out _⟩
        | cons f V2 =>
          obtain ⟨b2, o2, n2, c2, hq, hn2, hc2, hb2, hx2⟩ := HT.out.cons
          subst hq
          obtain ⟨q0, q1, q2, q3⟩ := hx2 0 f rfl
          simp only [Nat.zero_mul, Nat.add_zero] at q0 q1 q2 q3
          have z2 : 0 < n2 := by omega
          have z4 : decide ((0 : Int) < (n2 : Int)) = true := decide_eq_true (by omega)
          have t4 : (1 : Int) ≤ (n2 : Int) := by omega
          have t6 : (n2 : Int) ≤ (c2 : Int) := by omega
          have N2 := Lib.hid hn2
          clear hx2 hn2
          by_cases hef : e = f
          · subst hef
            go_wp2
            go_quiet (fail)
            go_wp2
            go_quiet (fail)
            go_wp2
            all_goals go_roundg U2.length
            all_goals first
              | (case measure => simp)
              | (case rel => exact ⟨P ++ [e], U2, V2, Lib.hid (by rw [HP.out]; simp), Lib.hid (by rw [HQ.out]; simp), rfl, Lib.hid (by first | exact (HS.out.tail1 (by omega)).below (drewN_below (Below.refl _ _) _) | exact HS.out.tail.below (drewN_below (Below.refl _ _) _)), Lib.hid (by first | exact (HT.out.tail1 (by omega)).below (drewN_below (Below.refl _ _) _) | exact HT.out.tail.below (drewN_below (Below.refl _ _) _)), drewN_below HBL.out _⟩)
          · have hcs := ext_ne hef
            clear hef
            have E1 : Hid (∀ x, Below wr.heap.size wr x → Below W.heap.size W x → ∃ P U1 V1, Hid (U = P ++ U1) ∧ Hid (V = P ++ V1) ∧ Hid (Sl w.heap.size x (.slice (some ⟨b1, o1, none⟩) n1 c1) U1) ∧ Hid (Sl w.heap.size x (.slice (some ⟨b2, o2, none⟩) n2 c2) V1) ∧ Below W.heap.size W x) := Lib.hid fun x hx hy => ⟨P, e :: U2, f :: V2, HP, HQ, Lib.hid (HS.out.below hx), Lib.hid (HT.out.below hx), hy⟩
            clear HS HT HP HQ
            obtain ⟨e0, e1, e2, e3⟩ := e
            obtain ⟨f0, f1, f2, f3⟩ := f
            simp only at p0 p1 p2 p3 q0 q1 q2 q3 hcs
            rcases hcs with h | ⟨rfl, h⟩ | ⟨rfl, rfl, h⟩ | ⟨rfl, rfl, rfl, h⟩
            · have hb : (e0 == f0) = false := beq_eq_false_iff_ne.2 h
              go_wp2
              go_quiet (fail)
              go_wp2
              go_meet
              exact E1.out _ (HD.out _) (HDW.out _)
            · have hb : (e1 == f1) = false := beq_eq_false_iff_ne.2 h
              go_wp2
              go_quiet (fail)
              go_wp2
              go_meet
              exact E1.out _ (HD.out _) (HDW.out _)
            · have hb : (e2 == f2) = false := beq_eq_false_iff_ne.2 h
              go_wp2
              go_quiet (fail)
              go_wp2
              go_meet
              exact E1.out _ (HD.out _) (HDW.out _)
            · have hb : (e3 == f3) = false := beq_eq_false_iff_ne.2 h
              go_wp2
              go_quiet (fail)
              go_wp2
              go_meet
              exact E1.out _ (HD.out _) (HDW.out _)
  case rest =>
    obtain ⟨P, U1, V1, HP, HQ, HS, HT, hbelc⟩ := hcut
    have HBC := Lib.hid hbelc
    clear hbelc
    go_upto_block 2 with fail
    go_cut [0, 1] from 27 (fun p q wx => ∃ S U2 V2, Hid (U1 = U2 ++ S) ∧ Hid (V1 = V2 ++ S) ∧ Hid (Sl w.heap.size wx p U2) ∧ Hid (Sl w.heap.size wx q V2) ∧ Below W.heap.size W wx)
    case first =>
      go_wp2_with fail
      go_loopg [0, 1] U1.length (fun g p q wx => ∃ S U2 V2, Hid (U1 = U2 ++ S) ∧ Hid (V1 = V2 ++ S) ∧ g = U2.length ∧ Hid (Sl w.heap.size wx p U2) ∧ Hid (Sl w.heap.size wx q V2) ∧ Below W.heap.size W wx)
      case atStart => exact ⟨[], U1, V1, Lib.hid (by simp), Lib.hid (by simp), rfl, HS, HT, HBC.out⟩
      case round =>
        clear HS HT
        obtain ⟨S, U2, V2, H1, H2, rfl, HS, HT, hbel⟩ := hrel
        have HBL := Lib.hid hbel
        have HLU : Hid (U2.length ≤ 1000000) := Lib.hid (by have := HUN.out; rw [HP.out, H1.out] at this; simp at this; omega)
        have HLV : Hid (V2.length ≤ 1000000) := Lib.hid (by have := HVN.out; rw [HQ.out, H2.out] at this; simp at this; omega)
        have HD : Hid (∀ k, Below wr.heap.size wr (wr.drewN k)) := Lib.hid fun k => drewN_below (Below.refl _ _) k
        have HDW : Hid (∀ k, Below W.heap.size W (wr.drewN k)) := Lib.hid fun k => drewN_below hbel k
        clear hbel
        rcases List.eq_nil_or_concat U2 with hnil | ⟨U3, e, hU3⟩
        · subst hnil
          obtain ⟨A1, c1, hp⟩ := HS.out.nil
          obtain ⟨B1, m1, d1, hq, _⟩ := HT.out
          subst hp hq
          go_wp2
          go_quiet (fail)
          go_wp2
          go_meet
          exact ⟨S, [], V2, H1, H2, Lib.hid (HS.out.below (HD.out _)), Lib.hid (HT.out.below (HD.out _)), HDW.out _⟩
        · rw [List.concat_eq_append] at hU3
          subst hU3
          obtain ⟨b1, o1, n1, c1, hp, hn1, hc1, hb1, hx1⟩ := HS.out.has (by simp)
          subst hp
          rw [List.length_append, List.length_singleton] at hn1
          obtain ⟨l1, hl1⟩ : ∃ l, l = U3.length := ⟨_, rfl⟩
          obtain ⟨p0, p1, p2, p3⟩ := hx1 U3.length e snoc_at
          rw [← hl1] at p0 p1 p2 p3 hn1
          have y1 : IntKind.i64.wrap ((n1 : Int) - 1) = (l1 : Int) := by have := HLU.out; simp at this; rw [IntWalk.i64_in _ (by omega)]; omega
          have y2 : (0 : Int) ≤ (l1 : Int) := by omega
          have y3 : (l1 : Int) < (n1 : Int) := by omega
          have y4 : (l1 : Int) ≤ (c1 : Int) := by omega
          have z1 : 0 < n1 := by omega
          have z3 : decide ((0 : Int) < (n1 : Int)) = true := decide_eq_true (by omega)
          have N1 := Lib.hid hn1
          have L1 := Lib.hid hl1
          have Y1 : Hid (n1 - 1 = l1) := Lib.hid (by omega)
          clear hx1 hn1 hl1
          rcases List.eq_nil_or_concat V2 with hnil | ⟨V3, f, hV3⟩
          · subst hnil
            obtain ⟨B1, d1, hq⟩ := HT.out.nil
            subst hq
            go_wp2
            go_quiet (fail)
            go_wp2
            go_meet
            exact ⟨S, U3 ++ [e], [], H1, H2, Lib.hid (HS.out.below (HD.out _)), Lib.hid (HT.out.below (HD.out _)), HDW.out _⟩
          · rw [List.concat_eq_append] at hV3
            subst hV3
            obtain ⟨b2, o2, n2, c2, hq, hn2, hc2, hb2, hx2⟩ := HT.out.has (by simp)
            subst hq
            rw [List.length_append, List.length_singleton] at hn2
            obtain ⟨l2, hl2⟩ : ∃ l, l = V3.length := ⟨_, rfl⟩
            obtain ⟨q0, q1, q2, q3⟩ := hx2 V3.length f snoc_at
            rw [← hl2] at q0 q1 q2 q3 hn2
            have x1 : IntKind.i64.wrap ((n2 : Int) - 1) = (l2 : Int) := by have := HLV.out; simp at this; rw [IntWalk.i64_in _ (by omega)]; omega
            have x2 : (0 : Int) ≤ (l2 : Int) := by omega
            have x3 : (l2 : Int) < (n2 : Int) := by omega
            have x4 : (l2 : Int) ≤ (c2 : Int) := by omega
            have z2 : 0 < n2 := by omega
            have z4 : decide ((0 : Int) < (n2 : Int)) = true := decide_eq_true (by omega)
            have N2 := Lib.hid hn2
            have L2 := Lib.hid hl2
            have Y2 : Hid (n2 - 1 = l2) := Lib.hid (by omega)
            clear hx2 hn2 hl2
            by_cases hef : e = f
            · subst hef
              go_wp2
              go_quiet (fail)
              go_wp2
              go_quiet (fail)
              go_wp2
              all_goals go_roundg U3.length
              all_goals first
                | (case measure => simp)
                | (case rel => exact ⟨e :: S, U3, V3, Lib.hid (by rw [H1.out]; simp), Lib.hid (by rw [H2.out]; simp), rfl, Lib.hid (by have := HS.out.init; rw [Y1.out] at this; first | exact this.below (drewN_below (drewN_below (Below.refl _ _) _) _) | exact this.below (drewN_below (Below.refl _ _) _)), Lib.hid (by have := HT.out.init; rw [Y2.out] at this; first | exact this.below (drewN_below (drewN_below (Below.refl _ _) _) _) | exact this.below (drewN_below (Below.refl _ _) _)), by first | exact drewN_below (drewN_below HBL.out _) _ | exact drewN_below HBL.out _⟩)
            · have hcs := ext_ne hef
              clear hef
              have E1 : Hid (∀ x, Below wr.heap.size wr x → Below W.heap.size W x → ∃ S U2 V2, Hid (U1 = U2 ++ S) ∧ Hid (V1 = V2 ++ S) ∧ Hid (Sl w.heap.size x (.slice (some ⟨b1, o1, none⟩) n1 c1) U2) ∧ Hid (Sl w.heap.size x (.slice (some ⟨b2, o2, none⟩) n2 c2) V2) ∧ Below W.heap.size W x) := Lib.hid fun x hx hy => ⟨S, U3 ++ [e], V3 ++ [f], H1, H2, Lib.hid (HS.out.below hx), Lib.hid (HT.out.below hx), hy⟩
              clear HS HT H1 H2 HLU HLV
              obtain ⟨e0, e1, e2, e3⟩ := e
              obtain ⟨f0, f1, f2, f3⟩ := f
              simp only at p0 p1 p2 p3 q0 q1 q2 q3 hcs
              rcases hcs with h | ⟨rfl, h⟩ | ⟨rfl, rfl, h⟩ | ⟨rfl, rfl, rfl, h⟩
              · have hb : (e0 == f0) = false := beq_eq_false_iff_ne.2 h
                go_wp2
                go_quiet (fail)
                go_wp2
                go_meet
                exact E1.out _ (HD.out _) (HDW.out _)
              · have hb : (e1 == f1) = false := beq_eq_false_iff_ne.2 h
                go_wp2
                go_quiet (fail)
                go_wp2
                go_meet
                exact E1.out _ (HD.out _) (HDW.out _)
              · have hb : (e2 == f2) = false := beq_eq_false_iff_ne.2 h
                go_wp2
                go_quiet (fail)
                go_wp2
                go_meet
                exact E1.out _ (HD.out _) (HDW.out _)
              · have hb : (e3 == f3) = false := beq_eq_false_iff_ne.2 h
                go_wp2
                go_quiet (fail)
                go_wp2
                go_meet
                exact E1.out _ (HD.out _) (HDW.out _)
    case rest =>
      clear HS HT
      obtain ⟨S, U2, V2, H1, H2, HS, HT, hbel⟩ := hcut
      have HBL := Lib.hid hbel
      have HLU : Hid (U2.length ≤ 1000000) := Lib.hid (by have := HUN.out; rw [HP.out, H1.out] at this; simp at this; omega)
      have HK := Lib.hid (KR.out.below hbel KR.out.lt)
      have HBW : Hid (Below w.heap.size w wc) := Lib.hid (HB0.out.trans (hbel.mono HB0.out.size))
      obtain ⟨⟨_, _, _⟩, g0, g1, g2⟩ := cells3 HK.out
      have HEQ : Hid (U = P ++ (U2 ++ S) ∧ V = P ++ (V2 ++ S)) := Lib.hid ⟨by rw [HP.out, H1.out], by rw [HQ.out, H2.out]⟩
      clear hbel HP HQ H1 H2 HBC
      obtain ⟨B1, m1, d1, hq, hm1, hd1, hx2, hgd⟩ := HT.out
      have HGD := Lib.hid hgd
      clear hgd
      subst hq
      have HM := Lib.hid hm1
      have HD1 := Lib.hid hd1
      have HX2 := Lib.hid hx2
      clear hm1 hd1 hx2
      by_cases hu : U2 = []
      · subst hu
        obtain ⟨A1, c1, hp⟩ := HS.out.nil
        subst hp
        by_cases hv : V2 = []
        · subst hv
          obtain rfl : m1 = 0 := HM.out
          go_wp2
          exact ret_cell_tmp rfl _ _ _ _ _ _ _ _ rfl rfl rfl (stored3 HK.out _ _ _) Tryz.underlying146 rfl (by kernel_rfl) ⟨stored3_below HBW.out (Nat.le_refl _) _ _ _, .inr ⟨rfl, by rw [HEQ.out.1, HEQ.out.2]⟩⟩
        · obtain ⟨b2, o2, n2, c2, hq, hn2, hc2, hb2, hx⟩ := HT.out.has hv
          cases hq
          obtain ⟨f, V3, rfl⟩ := List.exists_cons_of_ne_nil hv
          obtain ⟨q0, q1, q2, q3⟩ := hx 0 f rfl
          simp only [Nat.zero_mul, Nat.add_zero] at q0 q1 q2 q3
          have z2 : 0 < m1 := by rw [hn2]; simp
          have z4 : decide ((0 : Int) < (m1 : Int)) = true := decide_eq_true (by omega)
          have z5 : (0 : Int) < (m1 : Int) := by omega
          have HCH : Hid (Chg U V f.from_ f.from_ (f :: V3)) := Lib.hid ⟨P, [], S, by rw [HEQ.out.1]; simp, by rw [HEQ.out.2]; simp, .inr ⟨rfl, by simp, rfl, rfl⟩⟩
          clear hx hn2 hb2 q1 q2 q3 hc2
          go_wp2
          go_region
          go_wp2
          exact ret_cell_tmp rfl _ _ _ _ _ _ _ _ rfl rfl rfl (stored3 HK.out _ _ _) Tryz.underlying146 rfl (by kernel_rfl) ⟨(stored3_below HBW.out (Nat.le_refl _) _ _ _).drew, .inl ⟨_, _, _, _, _, _, rfl, HCH.out, HM.out, HD1.out, (HX2.out.keep (w' := ((wc.setCell ⟨w.heap.size, 0, none⟩ _).setCell ⟨w.heap.size, 1, none⟩ _).setCell ⟨w.heap.size, 2, none⟩ _ |>.drew) (stored3_below (Below.refl w.heap.size wc) (Nat.le_refl _) _ _ _).drew.size (fun b hb _ => (stored3_below (Below.refl w.heap.size wc) (Nat.le_refl _) _ _ _).drew.block b hb)).exs, HGD.out⟩⟩
      · obtain ⟨b1, o1, n1, c1, hp, hn1, hc1, hb1, hx⟩ := HS.out.has hu
        subst hp
        obtain ⟨e, U3, hU3⟩ := List.exists_cons_of_ne_nil hu
        obtain ⟨p0, _⟩ := hx 0 e (by rw [hU3]; rfl)
        simp only [Nat.zero_mul, Nat.add_zero] at p0
        obtain ⟨l1, hl1⟩ : ∃ l, l = U2.length - 1 := ⟨_, rfl⟩
        obtain ⟨r0, _⟩ := hx _ _ (last_at hu)
        have hpos : 1 ≤ U2.length := by rw [hU3]; simp
        rw [← hl1] at r0
        obtain ⟨z, hz⟩ : ∃ z, z = U2.getLastD Ext.zero := ⟨_, rfl⟩
        rw [← hz] at r0
        have y1 : IntKind.i64.wrap ((n1 : Int) - 1) = (l1 : Int) := by have := HLU.out; rw [IntWalk.i64_in _ (by omega)]; omega
        have y2 : (0 : Int) ≤ (l1 : Int) := by omega
        have y3 : (l1 : Int) < (n1 : Int) := by omega
        have z1 : 0 < n1 := by omega
        have z3 : decide ((0 : Int) < (n1 : Int)) = true := decide_eq_true (by omega)
        have z5 : (0 : Int) < (n1 : Int) := by omega
        have HCH : Hid (Chg U V e.from_ z.from_ V2) := Lib.hid ⟨P, U2, S, by rw [HEQ.out.1]; simp, by rw [HEQ.out.2]; simp, .inl ⟨hu, by rw [hU3]; rfl, by rw [hz]⟩⟩
        clear hx hn1 hc1 hb1 hu hU3 hl1 hpos hz
        go_wp2
        go_region
        go_wp2
        exact ret_cell_tmp rfl _ _ _ _ _ _ _ _ rfl rfl rfl (stored3 HK.out _ _ _) Tryz.underlying146 rfl (by kernel_rfl) ⟨(stored3_below HBW.out (Nat.le_refl _) _ _ _).drew, .inl ⟨_, _, _, _, _, _, rfl, HCH.out, HM.out, HD1.out, (HX2.out.keep (w' := ((wc.setCell ⟨w.heap.size, 0, none⟩ _).setCell ⟨w.heap.size, 1, none⟩ _).setCell ⟨w.heap.size, 2, none⟩ _ |>.drew) (stored3_below (Below.refl w.heap.size wc) (Nat.le_refl _) _ _ _).drew.size (fun b hb _ => (stored3_below (Below.refl w.heap.size wc) (Nat.le_refl _) _ _ _).drew.block b hb)).exs, HGD.out⟩⟩
end TR
end Go.Proofs.YtdjlflinepefbabGreat
