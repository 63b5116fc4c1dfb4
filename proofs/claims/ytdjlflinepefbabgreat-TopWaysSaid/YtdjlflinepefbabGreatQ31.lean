/- tree.Tree.change with the functions that Over and Cut hand it. No condition but those that each theorem names. -/
import Derived.Test.YtdjlflinepefbabGreatQ23
import Derived.Test.YtdjlflinepefbabGreatQ29
import Derived.Test.YtdjlflinepefbabGreatQ30

namespace Go.Proofs.YtdjlflinepefbabGreat
open Go.RowKit
namespace TR
open MM EX LF
set_option linter.unusedVariables false
set_option linter.unusedSimpArgs false

/-- A slice that was handed back, that reads as a list. -/
def RowEnd (T : List Ext) (w : World) (r : Ending) (w' : World) : Prop := ∃ A n c, r = .returned (.slice A n c) ∧ n = T.length ∧ n ≤ c ∧ Exs w' A T ∧ GoodA A c ∧ Below w.heap.size w w'
theorem touching_any {P : Nat → Prop} {M : List Ext} {w : World} {v : Value} (x : Root P M w v) (hv : Valid M) (hm : M.length ≤ 1000000) (a b : Int) (hab : a ≤ b + 1) (h0 : 0 ≤ a) (h1 : a ≤ 40000000) (h2 : b ≤ 40000000) :
    Calls Tryz.prog 61 #[.slice none 0 0, v, .int .i64 a, .int .i64 b] w (RowEnd (touch M a b) w) := by
  rcases x with ⟨rfl, rfl⟩ | ⟨h, t, rfl, hr, ht, rfl⟩
  · refine (touch_none_any none 0 0 a b w).mono ?_
    rintro r w' ⟨rfl, rfl⟩
    exact ⟨none, 0, 0, rfl, rfl, Nat.le_refl _, .inl rfl, .inl ⟨rfl, rfl⟩, Below.refl _ _⟩
  · refine (touch_ok h w w t hr.rep ht.weak (Below.refl _ _) hv.wv [] none 0 0 (World.ownsRow_nil _ _ _ _) a b hab h0 h1 h2 (by simpa using hm)).mono ?_
    rintro r w' ⟨A, n, c, rfl, ho, hn, hb⟩
    rw [List.nil_append] at ho hn
    obtain ⟨A', c', e1, e2⟩ := own_exs ho
    have hA : A' = A := (Value.slice.inj e1).1.symm
    rw [hA] at e2
    exact ⟨A, n, c, rfl, hn, own_cap ho, e2, good_own ho, hb⟩
/-- How a closure ends: another list, and no error. -/
def ClEnd (N : List Ext) (w : World) (r : Ending) (w' : World) : Prop := ∃ A n c, r = .returned (.tuple #[.slice A n c, .int .i64 0]) ∧ n = N.length ∧ n ≤ c ∧ Exs w' A N ∧ GoodA A c ∧ Below w.heap.size w w'
theorem tup_cl {N : List Ext} {w : World} {r : Ending} {w' : World} (x : TupC N w r w') : ClEnd N w r w' := x
set_option maxHeartbeats 1000000 in
theorem over1_any (T : List Ext) (A : Option Addr) (n c : Nat) (hn : n = T.length) (hm : n ≤ 1000000) (e : Ext) (ho : One e) (hv : Valid T) (X : Nat) (w : World) (hT : Exs w A T) (hX : Blk w X 41 #[.int .i64 e.from_, .int .i64 e.n, .int .i64 e.kind, .int .i64 e.at_]) :
    Calls Tryz.prog 51 #[.slice A n c, .pointer (some ⟨X, 0, none⟩)] w (ClEnd (over T e) w) := by
  have HC := Lib.hid ((over_yesC T n c hn (by unfold maxLen; omega) A e w hT hv ho).mono fun r w' x => tup_cl x)
  have k0 := hX.cell 0
  have k1 := hX.cell 1
  have k2 := hX.cell 2
  have k3 := hX.cell 3
  clear hn hm ho hv hT hX
  go_enter Tryz.func51, Tryz.ntmps51
  go_wp2_with fail
  refine HC.out.mono ?_
  rintro r w1 ⟨A', n', c', rfl, hrest⟩
  have HRE := Lib.hid hrest
  clear hrest
  go_wp2
  go_ret2
  exact ⟨A', n', c', rfl, HRE.out⟩
set_option maxHeartbeats 1000000 in
theorem cut1_any (T : List Ext) (A : Option Addr) (n c : Nat) (hn : n = T.length) (hm : n ≤ 1000000) (f k : Int) (hg : Rng f k 16777216) (hv : Valid T) (X Y : Nat) (w : World) (hT : Exs w A T) (hX : Blk w X 3 #[.int .i64 f]) (hY : Blk w Y 3 #[.int .i64 k]) :
    Calls Tryz.prog 53 #[.slice A n c, .pointer (some ⟨X, 0, none⟩), .pointer (some ⟨Y, 0, none⟩)] w (ClEnd (cut T f k) w) := by
  have HC := Lib.hid ((cut_yesC T n c hn (by unfold maxLen; omega) A f k w hT hv hg).mono fun r w' x => tup_cl x)
  have k0 := hX.cell 0
  have k1 := hY.cell 0
  clear hn hm hg hv hT hX hY
  go_enter Tryz.func53, Tryz.ntmps53
  go_wp2_with fail
  refine HC.out.mono ?_
  rintro r w1 ⟨A', n', c', rfl, hrest⟩
  have HRE := Lib.hid hrest
  clear hrest
  go_wp2
  go_ret2
  exact ⟨A', n', c', rfl, HRE.out⟩
/-- A row of extents lies in no block that has no numbers. -/
theorem exs_not {w : World} {C : Option Addr} {E : List Ext} {G : List Nat} (h : Exs w C E) (hg : ∀ g ∈ G, ∀ o x, w.cell? ⟨g, o, none⟩ ≠ some (.int .i64 x)) : ExsP (fun b => b ∉ G) w C E := by
  rcases h with h | ⟨b, off, h1, h2, h3⟩
  · exact .inl h
  · cases E with
    | nil => exact .inl rfl
    | cons e r => exact .inr ⟨b, off, h1, h2, fun hb => hg b hb _ _ (h3 0 e rfl).1, h3⟩
theorem root_one {P : Nat → Prop} {M : List Ext} {w : World} {v : Value} (x : Root P M w v) : v.oneCell' = true := by
  rcases x with ⟨rfl, _⟩ | ⟨h, t, rfl, _⟩
  · rfl
  · cases h <;> rfl
theorem root_cells {P : Nat → Prop} {M : List Ext} {w : World} {v : Value} (x : Root P M w v) : v.cells = #[v] := by
  rcases x with ⟨rfl, _⟩ | ⟨h, t, rfl, _⟩
  · rfl
  · cases h <;> rfl
theorem root_cell {P : Nat → Prop} {M : List Ext} {w w' : World} {v : Value} (x : Root P M w v) {g : Nat} {t : TypeId} (hb : Blk w' g t #[v]) : ∀ o x, w'.cell? ⟨g, o, none⟩ ≠ some (.int .i64 x) := by
  intro o y hy
  rw [hb.cell o] at hy
  have hv : v = .int .i64 y := by
    match o, hy with
    | 0, hy => simpa using hy
    | o + 1, hy => simp at hy
  rcases x with ⟨rfl, _⟩ | ⟨h, t', rfl, _⟩
  · cases hv
  · cases h <;> cases hv
/-- The nodes that take a top's place, and the top of them. -/
theorem of_top {M : List Ext} {G : List Nat} {w : World} {v : Value} (x : Root (fun b => b ∉ G) M w v) (hg : ∀ g ∈ G, g < w.heap.size) (hv : Valid M) {T N M' : List Ext} {a b : Int} {E : List Ext} (d : Does M T N M') (ch : Chg T N a b E) (C : Option Addr) (n c : Nat) (hn : n = E.length) (hc : n ≤ c) (W : World) (hW : Below w.heap.size w W) (hx : Exs W C E) (hgc : GoodA C c) (hgv : ∀ g ∈ G, ∀ o x, W.cell? ⟨g, o, none⟩ ≠ some (.int .i64 x)) :
    Calls Tryz.prog 85 #[.agg #[.int .i64 a, .int .i64 b, .slice C n c], v] W fun r w1 => ∃ A m c, r = .returned (.slice A m c) ∧ Below W.heap.size W w1 ∧ Hid (Calls Tryz.prog 84 #[.slice A m c] w1 fun r w2 => ∃ v', r = .returned v' ∧ Root (fun b => b ∉ G) M' w2 v' ∧ Below w1.heap.size w1 w2) := by
  obtain ⟨q1, q2, q3, q4, q5, q6⟩ := d.chg ch
  have hgW : ∀ g ∈ G, g < W.heap.size := fun g h => Nat.lt_of_lt_of_le (hg g h) hW.size
  have hxp : ExsP (fun b => b ∉ G) W C E := exs_not hx hgv
  have x' : Root (fun b => b ∉ G) M W v := x.keep hW.size (fun b _ hlt => hW.block b hlt)
  have fin_ : ∀ {h : Nat} (R : List (Tr h)) (A : Option Addr) (m c : Nat) (w1 : World), m = R.length → m ≤ c → m ≤ 14 → NdsP (fun b => b ∉ G) h w1 A R → Res h R → flats h R = M' → Below W.heap.size W w1 → Calls Tryz.prog 84 #[.slice A m c] w1 fun r w2 => ∃ v', r = .returned v' ∧ Root (fun b => b ∉ G) M' w2 v' ∧ Below w1.heap.size w1 w2 := by
    intro h R A m c w1 k1 k2 k3 k4 k5 k6 k7
    refine (topOf_any (fun b => b ∉ G) R A m c k1 k2 (by omega) w1 k4 k5).mono ?_
    rintro r w2 ⟨v', rfl, hr, hb⟩
    rw [k6] at hr
    exact ⟨v', rfl, hr.mono (fun b hb _ => hb.elim id (fun h hm => by have := k7.size; have := hgW b hm; omega)), hb⟩
  rcases x' with ⟨rfl, rfl⟩ | ⟨h, t, rfl, hr, ht, rfl⟩
  · refine (of_nil (fun b => b ∉ G) a b E W C n c q5 hn hc hxp).mono ?_
    rintro r w1 ⟨A, m, c', R, rfl, k1, k2, k3, k4, k5, k6, k7, k8⟩
    have hM : E = M' := by rw [← q6]; simp [repl]
    exact ⟨A, m, c', rfl, k8, Lib.hid (fin_ R A m c' w1 k1 k2 (by rw [k1]; exact k6) (k3.mono (fun b hb _ => hb.elim id (fun h hm => by have := hgW b hm; omega))) k4 (k5.trans hM) k8)⟩
  · refine (of_ok h (fun b => b ∉ G) a b E t W C n c q1 q2 q3 q4 q5 hn hc hxp hgc ht.weak hv.wv hr).mono ?_
    rintro r w1 ⟨A, m, c', R, rfl, k1, k2, k3, k4, k5, k6⟩
    refine ⟨A, m, c', rfl, k6, Lib.hid (fin_ R A m c' w1 k1 k2 (by rw [k1]; exact k4.2.2) (k3.mono (fun b hb _ => hb.elim id (fun h hm => by have := hgW b hm; omega))) k4.1 (k4.2.1.trans q6) k6)⟩

set_option maxRecDepth 100000 in
set_option maxHeartbeats 8000000 in
theorem change_over (G : List Nat) (g : Nat) (hgG : g ∈ G) (M : List Ext) (v : Value) (from_ end_ : Int) (w : World) (hg : Blk w g 82 #[v]) (hr : Root (fun b => b ∉ G) M w v) (hI : ∀ b ∈ G, b < w.heap.size ∧ ∀ o x, w.cell? ⟨b, o, none⟩ ≠ some (.int .i64 x)) (hv : Valid M) (hm : M.length ≤ 1000000) (h0 : 0 ≤ from_) (h1 : from_ ≤ end_) (h2 : end_ ≤ 16777216) (N M' : List Ext) (d : Does M (touch M from_ end_) N M') (X : Nat)
    (HF : ∀ (W : World) (A : Option Addr) (n c : Nat), Below w.heap.size w W → n = (touch M from_ end_).length → n ≤ 1000000 → Exs W A (touch M from_ end_) → Calls Tryz.prog 51 #[.slice A n c, .pointer (some ⟨X, 0, none⟩)] W (ClEnd N W)) :
    Calls Tryz.prog 50 #[.pointer (some ⟨g, 0, none⟩), .int .i64 from_, .int .i64 end_, .func (.func 51) #[] #[.pointer (some ⟨X, 0, none⟩)]] w fun r w' => r = .returned (.int .i64 0) ∧ But g w w' ∧ ∃ v', Blk w' g 82 #[v'] ∧ Root (fun b => b ∉ G) M' w' v' := by
  have hgl := hg.lt
  have HGG := Lib.hid hgG
  have HGL2 : Hid (∀ b ∈ G, b < w.heap.size) := Lib.hid fun b h => (hI b h).1
  have HGI : Hid (∀ W, Below w.heap.size w W → ∀ b ∈ G, ∀ o x, W.cell? ⟨b, o, none⟩ ≠ some (.int .i64 x)) := Lib.hid fun W hW b h o x => by rw [hW.cell (p := ⟨b, o, none⟩) (hI b h).1]; exact (hI b h).2 o x
  have hTl : (touch M from_ end_).length ≤ 1000000 := Nat.le_trans (touch_sub _ _ _).length_le hm
  have HT := Lib.hid (touching_any hr hv hm from_ end_ (by omega) h0 (by omega) (by omega))
  obtain ⟨T, hT⟩ : ∃ T, T = touch M from_ end_ := ⟨_, rfl⟩
  rw [← hT] at HT HF d hTl
  have HFF := Lib.hid HF
  have HD := Lib.hid d
  have HG := Lib.hid hg
  have HR := Lib.hid hr
  have HV := Lib.hid hv
  have HTL := Lib.hid hTl
  have HGL := Lib.hid hgl
  have hcell := hg.cell 0
  clear hgG hI hg hr hv hm h0 h1 h2 d HF hT hTl hgl
  go_enter Tryz.func50, Tryz.ntmps50
  go_wp2_with fail
  refine HT.out.mono ?_
  rintro r w1 ⟨A1, n1, c1, rfl, hn1, hc1, hx1, hg1, hb1⟩
  have HC := Lib.hid (HFF.out w1 A1 n1 c1 hb1 hn1 (by rw [hn1]; exact HTL.out) hx1)
  have HB1 := Lib.hid hb1
  have HX1 := Lib.hid hx1
  have HN1 := Lib.hid hn1
  have HC1 := Lib.hid hc1
  have HG1 := Lib.hid hg1
  clear hn1 hc1 hx1 hg1 hb1 hcell
  go_wp2_with fail
  refine HC.out.mono ?_
  rintro r w2 ⟨A2, n2, c2, rfl, hn2, hc2, hx2, hg2, hb2⟩
  have HB2 := Lib.hid (bkept HB1.out hb2)
  have HBT := Lib.hid (between_any T N A1 A2 n1 n2 c1 c2 HN1.out hn2 HC1.out hc2 (by rw [HN1.out]; exact HTL.out) (by rw [hn2]; obtain ⟨_, _, _, _, _, _, _, _, h9⟩ := HD.out; omega) w2 (HX1.out.below hb2) hx2 HG1.out hg2)
  clear hn2 hc2 hx2 hg2 hb2 HC
  go_wp2_with fail
  refine HBT.out.mono ?_
  rintro r w3 ⟨hb3, ⟨a, b, E, A, n, c, rfl, hch, hn, hc, hx, hgc⟩ | ⟨rfl, heq⟩⟩
  · have hB3 := bkept HB2.out hb3
    obtain ⟨W, hW⟩ : ∃ W, W = w3.alloc (.cells #[.int .i64 a, .int .i64 b, .slice A n c] 146) := ⟨_, rfl⟩
    have hbW : Below w3.heap.size w3 W := by rw [hW]; exact (Below.refl _ _).alloc (Nat.le_refl _) _
    have hBW := bkept hB3 hbW
    have hgW := HG.out.below hBW HGL.out
    have HO := Lib.hid (of_top HR.out HGL2.out HV.out HD.out hch A n c hn hc W hBW (hx.below hbW) hgc (HGI.out W hBW))
    have HOD : Hid (Calls Tryz.prog 85 #[.agg #[.int .i64 a, .int .i64 b, .slice A n c], v] W.drew fun r w1 => ∃ A m c, r = .returned (.slice A m c) ∧ Below W.drew.heap.size W.drew w1 ∧ Hid (Calls Tryz.prog 84 #[.slice A m c] w1 fun r w2 => ∃ v', r = .returned v' ∧ Root (fun b => b ∉ G) M' w2 v' ∧ Below w1.heap.size w1 w2)) := Lib.hid (of_top HR.out HGL2.out HV.out HD.out hch A n c hn hc W.drew hBW.drew ((hx.below hbW).below (Below.refl _ _).drew) hgc (HGI.out W.drew hBW.drew))
    have kg := hgW.cell 0
    have hL : Blk W w3.heap.size 146 #[.int .i64 a, .int .i64 b, .slice A n c] := by rw [hW]; exact Blk.new w3 _ _
    obtain ⟨⟨k0, k1, k2⟩, _⟩ := cells3 hL
    have HGW := Lib.hid hgW
    have HBW := Lib.hid hBW
    have HW := Lib.hid hW
    clear hb3 hch hn hc hx hgc hB3 hbW hBW hgW hL hW HO
    have kg' : W.cell? ⟨g, 0, none⟩ = some v := by rw [kg]; rfl
    clear kg
    go_wp2
    rw [← HW.out]
    go_region_law (first | (go_simp; go_at_call 85; (with_reducible refine HOD.out.mono ?_); rintro r w4 ⟨A4, n4, c4, rfl, hb4, htop⟩; have HB4 := Lib.hid hb4; have HG4 := Lib.hid ((HGW.out.below (Below.refl _ _).drew HGW.out.lt).below hb4 HGW.out.lt); have hk4 := HG4.out.cell 0; clear hb4) | (go_simp; go_at_call 84; (with_reducible refine htop.out.mono ?_); rintro r w5 ⟨v', rfl, hr5, hb5⟩; have HB5 := Lib.hid hb5; have HR5 := Lib.hid hr5; have hcs := root_cells hr5; unfold Value.cells at hcs; have HG5 := Lib.hid (HG4.out.below hb5 HG4.out.lt); have hk5 : w5.cell? ⟨g, 0, none⟩ = some v := HG5.out.cell 0; have hf5 := HG5.out.frozen 0; have hst := run_store Tryz.prog w5 ⟨g, 0, none⟩ v' .plain (root_one hr5); clear hb5 hr5))
    all_goals
      have HB := Lib.hid (bkept (bkept (bkept HBW.out (Below.refl _ _).drew) HB4.out) HB5.out)
      clear hst hcs hk5 hf5 hk4 kg' k0 k1 k2
      go_wp2
      go_ret
      exact ⟨rfl, (But.of_below HB.out).trans (But.of_only (only_setCell _ _ _ _)), v', HG5.out.one v', HR5.out.keep (by simp) (fun b hb _ => heap_setCell_other _ _ b _ (fun h => hb (h ▸ HGG.out)))⟩
  · have HM : Hid (M' = M) := Lib.hid (HD.out.same heq)
    have HB3 := Lib.hid (bkept HB2.out hb3)
    clear hb3 heq
    obtain ⟨W, hW⟩ : ∃ W, W = w3.alloc (.cells #[.int .i64 0, .int .i64 0, .slice none 0 0] 146) := ⟨_, rfl⟩
    have HBW : Hid (Below w.heap.size w W) := Lib.hid (by rw [hW]; exact bkept HB3.out ((Below.refl _ _).alloc (Nat.le_refl _) _))
    have HW := Lib.hid hW
    clear hW
    go_wp2
    rw [← HW.out]
    go_ret
    exact ⟨rfl, But.of_below HBW.out, v, HG.out.below HBW.out HGL.out, by rw [HM.out]; exact HR.out.keep HBW.out.size (fun b _ hlt => HBW.out.block b hlt)⟩

set_option maxRecDepth 100000 in
set_option maxHeartbeats 8000000 in
theorem change_cut (G : List Nat) (g : Nat) (hgG : g ∈ G) (M : List Ext) (v : Value) (from_ end_ : Int) (w : World) (hg : Blk w g 82 #[v]) (hr : Root (fun b => b ∉ G) M w v) (hI : ∀ b ∈ G, b < w.heap.size ∧ ∀ o x, w.cell? ⟨b, o, none⟩ ≠ some (.int .i64 x)) (hv : Valid M) (hm : M.length ≤ 1000000) (h0 : 0 ≤ from_) (h1 : from_ ≤ end_) (h2 : end_ ≤ 16777216) (N M' : List Ext) (d : Does M (touch M from_ end_) N M') (X Y : Nat)
    (HF : ∀ (W : World) (A : Option Addr) (n c : Nat), Below w.heap.size w W → n = (touch M from_ end_).length → n ≤ 1000000 → Exs W A (touch M from_ end_) → Calls Tryz.prog 53 #[.slice A n c, .pointer (some ⟨X, 0, none⟩), .pointer (some ⟨Y, 0, none⟩)] W (ClEnd N W)) :
    Calls Tryz.prog 50 #[.pointer (some ⟨g, 0, none⟩), .int .i64 from_, .int .i64 end_, .func (.func 53) #[] #[.pointer (some ⟨X, 0, none⟩), .pointer (some ⟨Y, 0, none⟩)]] w fun r w' => r = .returned (.int .i64 0) ∧ But g w w' ∧ ∃ v', Blk w' g 82 #[v'] ∧ Root (fun b => b ∉ G) M' w' v' := by
  have hgl := hg.lt
  have HGG := Lib.hid hgG
  have HGL2 : Hid (∀ b ∈ G, b < w.heap.size) := Lib.hid fun b h => (hI b h).1
  have HGI : Hid (∀ W, Below w.heap.size w W → ∀ b ∈ G, ∀ o x, W.cell? ⟨b, o, none⟩ ≠ some (.int .i64 x)) := Lib.hid fun W hW b h o x => by rw [hW.cell (p := ⟨b, o, none⟩) (hI b h).1]; exact (hI b h).2 o x
  have hTl : (touch M from_ end_).length ≤ 1000000 := Nat.le_trans (touch_sub _ _ _).length_le hm
  have HT := Lib.hid (touching_any hr hv hm from_ end_ (by omega) h0 (by omega) (by omega))
  obtain ⟨T, hT⟩ : ∃ T, T = touch M from_ end_ := ⟨_, rfl⟩
  rw [← hT] at HT HF d hTl
  have HFF := Lib.hid HF
  have HD := Lib.hid d
  have HG := Lib.hid hg
  have HR := Lib.hid hr
  have HV := Lib.hid hv
  have HTL := Lib.hid hTl
  have HGL := Lib.hid hgl
  have hcell := hg.cell 0
  clear hgG hI hg hr hv hm h0 h1 h2 d HF hT hTl hgl
  go_enter Tryz.func50, Tryz.ntmps50
  go_wp2_with fail
  refine HT.out.mono ?_
  rintro r w1 ⟨A1, n1, c1, rfl, hn1, hc1, hx1, hg1, hb1⟩
  have HC := Lib.hid (HFF.out w1 A1 n1 c1 hb1 hn1 (by rw [hn1]; exact HTL.out) hx1)
  have HB1 := Lib.hid hb1
  have HX1 := Lib.hid hx1
  have HN1 := Lib.hid hn1
  have HC1 := Lib.hid hc1
  have HG1 := Lib.hid hg1
  clear hn1 hc1 hx1 hg1 hb1 hcell
  go_wp2_with fail
  refine HC.out.mono ?_
  rintro r w2 ⟨A2, n2, c2, rfl, hn2, hc2, hx2, hg2, hb2⟩
  have HB2 := Lib.hid (bkept HB1.out hb2)
  have HBT := Lib.hid (between_any T N A1 A2 n1 n2 c1 c2 HN1.out hn2 HC1.out hc2 (by rw [HN1.out]; exact HTL.out) (by rw [hn2]; obtain ⟨_, _, _, _, _, _, _, _, h9⟩ := HD.out; omega) w2 (HX1.out.below hb2) hx2 HG1.out hg2)
  clear hn2 hc2 hx2 hg2 hb2 HC
  go_wp2_with fail
  refine HBT.out.mono ?_
  rintro r w3 ⟨hb3, ⟨a, b, E, A, n, c, rfl, hch, hn, hc, hx, hgc⟩ | ⟨rfl, heq⟩⟩
  · have hB3 := bkept HB2.out hb3
    obtain ⟨W, hW⟩ : ∃ W, W = w3.alloc (.cells #[.int .i64 a, .int .i64 b, .slice A n c] 146) := ⟨_, rfl⟩
    have hbW : Below w3.heap.size w3 W := by rw [hW]; exact (Below.refl _ _).alloc (Nat.le_refl _) _
    have hBW := bkept hB3 hbW
    have hgW := HG.out.below hBW HGL.out
    have HO := Lib.hid (of_top HR.out HGL2.out HV.out HD.out hch A n c hn hc W hBW (hx.below hbW) hgc (HGI.out W hBW))
    have HOD : Hid (Calls Tryz.prog 85 #[.agg #[.int .i64 a, .int .i64 b, .slice A n c], v] W.drew fun r w1 => ∃ A m c, r = .returned (.slice A m c) ∧ Below W.drew.heap.size W.drew w1 ∧ Hid (Calls Tryz.prog 84 #[.slice A m c] w1 fun r w2 => ∃ v', r = .returned v' ∧ Root (fun b => b ∉ G) M' w2 v' ∧ Below w1.heap.size w1 w2)) := Lib.hid (of_top HR.out HGL2.out HV.out HD.out hch A n c hn hc W.drew hBW.drew ((hx.below hbW).below (Below.refl _ _).drew) hgc (HGI.out W.drew hBW.drew))
    have kg := hgW.cell 0
    have hL : Blk W w3.heap.size 146 #[.int .i64 a, .int .i64 b, .slice A n c] := by rw [hW]; exact Blk.new w3 _ _
    obtain ⟨⟨k0, k1, k2⟩, _⟩ := cells3 hL
    have HGW := Lib.hid hgW
    have HBW := Lib.hid hBW
    have HW := Lib.hid hW
    clear hb3 hch hn hc hx hgc hB3 hbW hBW hgW hL hW HO
    have kg' : W.cell? ⟨g, 0, none⟩ = some v := by rw [kg]; rfl
    clear kg
    go_wp2
    rw [← HW.out]
    go_region_law (first | (go_simp; go_at_call 85; (with_reducible refine HOD.out.mono ?_); rintro r w4 ⟨A4, n4, c4, rfl, hb4, htop⟩; have HB4 := Lib.hid hb4; have HG4 := Lib.hid ((HGW.out.below (Below.refl _ _).drew HGW.out.lt).below hb4 HGW.out.lt); have hk4 := HG4.out.cell 0; clear hb4) | (go_simp; go_at_call 84; (with_reducible refine htop.out.mono ?_); rintro r w5 ⟨v', rfl, hr5, hb5⟩; have HB5 := Lib.hid hb5; have HR5 := Lib.hid hr5; have hcs := root_cells hr5; unfold Value.cells at hcs; have HG5 := Lib.hid (HG4.out.below hb5 HG4.out.lt); have hk5 : w5.cell? ⟨g, 0, none⟩ = some v := HG5.out.cell 0; have hf5 := HG5.out.frozen 0; have hst := run_store Tryz.prog w5 ⟨g, 0, none⟩ v' .plain (root_one hr5); clear hb5 hr5))
    all_goals
      have HB := Lib.hid (bkept (bkept (bkept HBW.out (Below.refl _ _).drew) HB4.out) HB5.out)
      clear hst hcs hk5 hf5 hk4 kg' k0 k1 k2
      go_wp2
      go_ret
      exact ⟨rfl, (But.of_below HB.out).trans (But.of_only (only_setCell _ _ _ _)), v', HG5.out.one v', HR5.out.keep (by simp) (fun b hb _ => heap_setCell_other _ _ b _ (fun h => hb (h ▸ HGG.out)))⟩
  · have HM : Hid (M' = M) := Lib.hid (HD.out.same heq)
    have HB3 := Lib.hid (bkept HB2.out hb3)
    clear hb3 heq
    obtain ⟨W, hW⟩ : ∃ W, W = w3.alloc (.cells #[.int .i64 0, .int .i64 0, .slice none 0 0] 146) := ⟨_, rfl⟩
    have HBW : Hid (Below w.heap.size w W) := Lib.hid (by rw [hW]; exact bkept HB3.out ((Below.refl _ _).alloc (Nat.le_refl _) _))
    have HW := Lib.hid hW
    clear hW
    go_wp2
    rw [← HW.out]
    go_ret
    exact ⟨rfl, But.of_below HBW.out, v, HG.out.below HBW.out HGL.out, by rw [HM.out]; exact HR.out.keep HBW.out.size (fun b _ hlt => HBW.out.block b hlt)⟩
end TR
end Go.Proofs.YtdjlflinepefbabGreat
