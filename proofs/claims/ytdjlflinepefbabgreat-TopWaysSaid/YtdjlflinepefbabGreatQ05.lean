/- 4 texts laid together: each says at its head what it proves. No condition but those that each theorem names. -/
import Derived.Test.YtdjlflinepefbabGreatQ02
import Derived.Test.YtdjlflinepefbabGreatQ04
import Derived.Laws.Rows
import Derived.Laws.ResultCell
import Derived.Test.YtdjlflinepefbabGreatProg
import Derived.Test.YtdjlflinepefbabGreatQ01
import Derived.WalkKit
import Derived.Handy
import Derived.IntWalk
import Derived.Deep.RegionHeld3

/- Rows of extents in memory: one that is read, one of the call's own. No program. -/
namespace Go.Proofs.YtdjlflinepefbabGreat
open Go.RowKit
namespace EX
open MM
set_option linter.unusedVariables false
set_option linter.unusedSimpArgs false

/-- An extent's four cells, from a place on. -/
def Cells4 (w : World) (b o : Nat) (e : Ext) : Prop := w.cell? ⟨b, o, none⟩ = some (.int .i64 e.from_) ∧ w.cell? ⟨b, o + 1, none⟩ = some (.int .i64 e.n) ∧ w.cell? ⟨b, o + 2, none⟩ = some (.int .i64 e.kind) ∧ w.cell? ⟨b, o + 3, none⟩ = some (.int .i64 e.at_)
/-- A slice that reads as a list; nothing is said of an empty one's address. -/
def Exs (w : World) (a : Option Addr) (l : List Ext) : Prop := l = [] ∨ ∃ b off, a = some ⟨b, off, none⟩ ∧ b < w.heap.size ∧ ∀ (i : Nat) (e : Ext), l[i]? = some e → Cells4 w b (off + i * 4) e
theorem Cells4.kept {w w' : World} {b o B : Nat} {e : Ext} (h : Cells4 w b o e) (hb : Below B w w') (hB : b < B) : Cells4 w' b o e := by
  obtain ⟨h0, h1, h2, h3⟩ := h
  exact ⟨(hb.cell (p := ⟨b, o, none⟩) hB).trans h0, (hb.cell (p := ⟨b, o + 1, none⟩) hB).trans h1, (hb.cell (p := ⟨b, o + 2, none⟩) hB).trans h2, (hb.cell (p := ⟨b, o + 3, none⟩) hB).trans h3⟩
theorem Exs.kept {w w' : World} {a : Option Addr} {l : List Ext} {B : Nat} (h : Exs w a l) (hb : Below B w w') (hB : w.heap.size ≤ B) : Exs w' a l := by
  rcases h with h | ⟨b, off, rfl, hlt, hc⟩
  · exact .inl h
  · exact .inr ⟨b, off, rfl, Nat.lt_of_lt_of_le hlt hb.size, fun i e hi => (hc i e hi).kept hb (Nat.lt_of_lt_of_le hlt hB)⟩
theorem Exs.below {w w' : World} {a : Option Addr} {l : List Ext} (h : Exs w a l) (hb : Below w.heap.size w w') : Exs w' a l := h.kept hb (Nat.le_refl _)

def exCells (l : List Ext) : List Value := l.flatMap fun e => [.int .i64 e.from_, .int .i64 e.n, .int .i64 e.kind, .int .i64 e.at_]
theorem exCells_snoc (l : List Ext) (e : Ext) : exCells l ++ [.int .i64 e.from_, .int .i64 e.n, .int .i64 e.kind, .int .i64 e.at_] = exCells (l ++ [e]) := by
  simp [exCells, List.flatMap_append]
theorem exCells_len (l : List Ext) : (exCells l).length = l.length * 4 := by
  induction l with
  | nil => rfl
  | cons a l ih =>
    have e : exCells (a :: l) = .int .i64 a.from_ :: .int .i64 a.n :: .int .i64 a.kind :: .int .i64 a.at_ :: exCells l := by simp [exCells]
    rw [e]; simp only [List.length_cons]; omega
theorem exCells_get : ∀ (l : List Ext) (j : Nat) (e : Ext), l[j]? = some e → (exCells l)[j * 4]? = some (.int .i64 e.from_) ∧ (exCells l)[j * 4 + 1]? = some (.int .i64 e.n) ∧ (exCells l)[j * 4 + 2]? = some (.int .i64 e.kind) ∧ (exCells l)[j * 4 + 3]? = some (.int .i64 e.at_) := by
  intro l
  induction l with
  | nil => intro j p h; simp at h
  | cons a l ih =>
    intro j p h
    have e : exCells (a :: l) = .int .i64 a.from_ :: .int .i64 a.n :: .int .i64 a.kind :: .int .i64 a.at_ :: exCells l := by simp [exCells]
    cases j with
    | zero => simp at h; subst h; rw [e]; exact ⟨rfl, rfl, rfl, rfl⟩
    | succ j =>
      rw [List.getElem?_cons_succ] at h
      have := ih j p h
      rw [e, show (j + 1) * 4 = j * 4 + 1 + 1 + 1 + 1 from by omega]
      simpa using this
/-- A row of the call's own reads as its list. -/
theorem own_exs {w : World} {base : Nat} {e : TypeId} {v : Value} {l : List Ext} (h : w.ownsRow base e 4 v l.length (exCells l)) :
    ∃ A c, v = .slice A l.length c ∧ Exs w A l := by
  rcases h.2 with ⟨hv, h0⟩ | ⟨g, cap, cur, hv, hg, hh, r⟩
  · refine ⟨none, 0, by rw [hv, h0], .inl (List.eq_nil_of_length_eq_zero h0)⟩
  · refine ⟨_, _, hv, .inr ⟨g, 0, rfl, (Array.getElem?_eq_some_iff.1 hh).1, fun i x hi => ?_⟩⟩
    have cell : ∀ j u, (exCells l)[j]? = some u → w.cell? ⟨g, j, none⟩ = some u := by
      intro j u hu
      have := h.cells (g := g) (by rw [hv]; rfl) j u hu
      rwa [show (⟨g, 0, none⟩ : Addr).add j = ⟨g, j, none⟩ from by unfold Addr.add; split <;> simp_all] at this
    obtain ⟨e0, e1, e2, e3⟩ := exCells_get l i x hi
    rw [Nat.zero_add]
    exact ⟨cell _ _ e0, cell _ _ e1, cell _ _ e2, cell _ _ e3⟩
end EX
end Go.Proofs.YtdjlflinepefbabGreat

/- How a struct that a function hands back by a variable of its own is read at its end; how a struct is stored whole. No program. -/
namespace Go.Proofs.YtdjlflinepefbabGreat
namespace MM
open Go.RowKit
set_option linter.unusedVariables false

theorem ret_cell {P : Program} {fn : Func} {p : Tmp} {ty : TypeId} (h : fn.results = #[.cell p ty]) (R : Ending → World → Prop) (a : Act) (w : World) (g : Nat) (t : TypeId) (cs : Array Value) (d : TypeDesc)
    (hp : a.tmps.getD p undef = .pointer (some ⟨g, 0, none⟩)) (hd0 : a.defers = []) (hg : Blk w g t cs)
    (hu : P.underlying ty = some d) (hd : (match d with | .struct _ | .array _ _ => true | _ => false) = true) (hi : (P.info? ty).map (·.size) = some cs.size)
    (hR : R (.returned (.agg cs)) w) : bodyPost P fn R .ret a w :=
  bodyPost_ret (results_cell_row h a.tmps w g t cs _ d hp hg hu hd hi) hd0 hR
theorem ret_cell_tmp {P : Program} {fn : Func} {p u : Tmp} {ty : TypeId} (h : fn.results = #[.cell p ty, .tmp u]) (R : Ending → World → Prop) (a : Act) (w : World) (g : Nat) (t : TypeId) (cs : Array Value) (d : TypeDesc) (x : Value)
    (hp : a.tmps.getD p undef = .pointer (some ⟨g, 0, none⟩)) (hx : a.tmps.getD u undef = x) (hd0 : a.defers = []) (hg : Blk w g t cs)
    (hu : P.underlying ty = some d) (hd : (match d with | .struct _ | .array _ _ => true | _ => false) = true) (hi : (P.info? ty).map (·.size) = some cs.size)
    (hR : R (.returned (.tuple #[.agg cs, x])) w) : bodyPost P fn R .ret a w := by
  subst hx
  refine bodyPost_ret ?_ hd0 hR
  have hl := run_loadVar_row (P := P) w g t ty cs _ d hg hu hd hi
  rw [results_cell_tmp h, hp]
  simp [asAddr, Result.andThen, hl]

section
variable {w : World} {g : Nat} {t : TypeId}
theorem stored5 {a0 a1 a2 a3 a4 : Value} (h : Blk w g t #[a0, a1, a2, a3, a4]) (x0 x1 x2 x3 x4 : Value) :
    Blk (((((w.setCell ⟨g, 0, none⟩ x0).setCell ⟨g, 1, none⟩ x1).setCell ⟨g, 2, none⟩ x2).setCell ⟨g, 3, none⟩ x3).setCell ⟨g, 4, none⟩ x4) g t #[x0, x1, x2, x3, x4] :=
  ((((h.set_ 0 x0).set_ 1 x1).set_ 2 x2).set_ 3 x3).set_ 4 x4
theorem stored5_below {B : Nat} {w0 : World} (hb : Below B w0 w) (hg : B ≤ g) (x0 x1 x2 x3 x4 : Value) :
    Below B w0 (((((w.setCell ⟨g, 0, none⟩ x0).setCell ⟨g, 1, none⟩ x1).setCell ⟨g, 2, none⟩ x2).setCell ⟨g, 3, none⟩ x3).setCell ⟨g, 4, none⟩ x4) :=
  ((((hb.setCell hg _).setCell hg _).setCell hg _).setCell hg _).setCell hg _
theorem stored3 {a0 a1 a2 : Value} (h : Blk w g t #[a0, a1, a2]) (x0 x1 x2 : Value) :
    Blk (((w.setCell ⟨g, 0, none⟩ x0).setCell ⟨g, 1, none⟩ x1).setCell ⟨g, 2, none⟩ x2) g t #[x0, x1, x2] :=
  ((h.set_ 0 x0).set_ 1 x1).set_ 2 x2
theorem stored3_below {B : Nat} {w0 : World} (hb : Below B w0 w) (hg : B ≤ g) (x0 x1 x2 : Value) :
    Below B w0 (((w.setCell ⟨g, 0, none⟩ x0).setCell ⟨g, 1, none⟩ x1).setCell ⟨g, 2, none⟩ x2) :=
  ((hb.setCell hg _).setCell hg _).setCell hg _
/-- The cells and marks of a block of five. -/
theorem cells5 {a0 a1 a2 a3 a4 : Value} (h : Blk w g t #[a0, a1, a2, a3, a4]) :
    (w.cell? ⟨g, 0, none⟩ = some a0 ∧ w.cell? ⟨g, 1, none⟩ = some a1 ∧ w.cell? ⟨g, 2, none⟩ = some a2 ∧ w.cell? ⟨g, 3, none⟩ = some a3 ∧ w.cell? ⟨g, 4, none⟩ = some a4) ∧
    w.frozen? ⟨g, 0, none⟩ = false ∧ w.frozen? ⟨g, 1, none⟩ = false ∧ w.frozen? ⟨g, 2, none⟩ = false ∧ w.frozen? ⟨g, 3, none⟩ = false ∧ w.frozen? ⟨g, 4, none⟩ = false :=
  ⟨⟨h.cell 0, h.cell 1, h.cell 2, h.cell 3, h.cell 4⟩, h.frozen 0, h.frozen 1, h.frozen 2, h.frozen 3, h.frozen 4⟩
end
end MM
end Go.Proofs.YtdjlflinepefbabGreat

/- What package ext's within, One, end, page, stretch answer. No condition but those that each theorem names. -/
namespace Go.Proofs.YtdjlflinepefbabGreat
open Go.RowKit
namespace EX
open MM
set_option linter.unusedVariables false
set_option linter.unusedSimpArgs false

theorem below_box (w : World) (o : Obj) : Below w.heap.size w (w.alloc o) := (Below.refl _ _).alloc (Nat.le_refl _) _
/-- A number of 64 bits. -/
def I64 (x : Int) : Prop := -9223372036854775808 ≤ x ∧ x ≤ 9223372036854775807
def WfE (e : Ext) : Prop := I64 e.from_ ∧ I64 e.n ∧ I64 e.kind ∧ I64 e.at_
theorem One.wf {e : Ext} (h : One e) : WfE e := by
  obtain ⟨h1, h2⟩ := h
  unfold WfE I64
  omega

theorem within_yes (f n b : Int) (hb : b ≤ 16777216) (h : Rng f n b) (w : World) : Calls Tryz.prog 69 #[.int .i64 f, .int .i64 n, .int .i64 b] w fun e w' => e = .returned (.bool true) ∧ w = w' := by
  obtain ⟨h0, h1, h2⟩ := h
  go_enter Tryz.func69, Tryz.ntmps69
  go_wp2
  go_ret
  exact ⟨rfl, rfl⟩
theorem within_no (f n b : Int) (hf : f ≤ 9223372036854775807) (hb0 : 0 ≤ b) (hb : b ≤ 16777216) (h : ¬ Rng f n b) (w : World) : Calls Tryz.prog 69 #[.int .i64 f, .int .i64 n, .int .i64 b] w fun e w' => e = .returned (.bool false) ∧ w = w' := by
  by_cases h0 : 0 ≤ f
  · by_cases h1 : 0 ≤ n
    · have h2 : ¬ n ≤ b - f := fun k => h ⟨h0, h1, k⟩
      clear h
      go_enter Tryz.func69, Tryz.ntmps69
      go_wp2
      go_ret
      exact ⟨rfl, rfl⟩
    · clear h
      go_enter Tryz.func69, Tryz.ntmps69
      go_wp2
      go_ret
      exact ⟨rfl, rfl⟩
  · clear h
    go_enter Tryz.func69, Tryz.ntmps69
    go_wp2
    go_ret
    exact ⟨rfl, rfl⟩

set_option maxHeartbeats 1000000 in
theorem one_yes (f n k t : Int) (h : One ⟨f, n, k, t⟩) (w : World) : Calls Tryz.prog 49 #[.agg #[.int .i64 f, .int .i64 n, .int .i64 k, .int .i64 t]] w fun e w' => e = .returned (.bool true) ∧ Below w.heap.size w w' := by
  obtain ⟨⟨h1, h2, h3⟩, h4⟩ := h
  simp only at h1 h2 h3 h4
  have HW := Lib.hid (within_yes f n 16777216 (by decide) ⟨h2, by omega, h3⟩)
  rcases h4 with ⟨rfl, rfl⟩ | ⟨rfl, h4, h5⟩
  · clear h2 h3
    go_enter Tryz.func49, Tryz.ntmps49
    go_wp2_with fail
    refine (HW.out _).mono ?_
    rintro e w1 ⟨rfl, rfl⟩
    go_wp2
    go_ret
    exact ⟨rfl, below_box _ _⟩
  · have HV := Lib.hid (within_yes t n 2048 (by decide) ⟨h4, by omega, h5⟩)
    clear h2 h3 h4 h5
    go_enter Tryz.func49, Tryz.ntmps49
    go_wp2_with fail
    refine (HW.out _).mono ?_
    rintro e w1 ⟨rfl, rfl⟩
    go_wp2_with fail
    refine (HV.out _).mono ?_
    rintro e w1 ⟨rfl, rfl⟩
    go_wp2
    go_ret
    exact ⟨rfl, below_box _ _⟩
set_option maxHeartbeats 1000000 in
theorem one_no (f n k t : Int) (hw : WfE ⟨f, n, k, t⟩) (h : ¬ One ⟨f, n, k, t⟩) (w : World) : Calls Tryz.prog 49 #[.agg #[.int .i64 f, .int .i64 n, .int .i64 k, .int .i64 t]] w fun e w' => e = .returned (.bool false) ∧ Below w.heap.size w w' := by
  obtain ⟨⟨_, w1⟩, _, _, ⟨_, w4⟩⟩ := hw
  simp only at w1 w4
  unfold One at h
  simp only at h
  by_cases hn : 1 ≤ n
  · by_cases hr : Rng f n 16777216
    · have HW := Lib.hid (within_yes f n 16777216 (by decide) hr)
      have hr2 := hr
      unfold Rng at hr2
      by_cases hk1 : k = 1
      · subst hk1
        have ht : (t == 0) = false := by
          rw [beq_eq_false_iff_ne]
          intro ht
          exact h ⟨⟨hn, hr2.1, hr2.2.2⟩, .inl ⟨rfl, ht⟩⟩
        clear h hr hr2
        go_enter Tryz.func49, Tryz.ntmps49
        go_wp2_with fail
        refine (HW.out _).mono ?_
        rintro e w1 ⟨rfl, rfl⟩
        go_wp2
        go_ret
        exact ⟨rfl, below_box _ _⟩
      · have hk1' : (k == 1) = false := by simpa using hk1
        by_cases hk2 : k = 2
        · subst hk2
          have HV := Lib.hid (within_no t n 2048 w4 (by decide) (by decide) (fun hv => by
            unfold Rng at hv
            exact h ⟨⟨hn, hr2.1, hr2.2.2⟩, .inr ⟨rfl, hv.1, hv.2.2⟩⟩))
          clear h hr hr2 hk1 hk1'
          go_enter Tryz.func49, Tryz.ntmps49
          go_wp2_with fail
          refine (HW.out _).mono ?_
          rintro e w1 ⟨rfl, rfl⟩
          go_wp2_with fail
          refine (HV.out _).mono ?_
          rintro e w1 ⟨rfl, rfl⟩
          go_wp2
          go_ret
          exact ⟨rfl, below_box _ _⟩
        · have hk2' : (k == 2) = false := by simpa using hk2
          clear h hr hr2 hk1 hk2
          go_enter Tryz.func49, Tryz.ntmps49
          go_wp2_with fail
          refine (HW.out _).mono ?_
          rintro e w1 ⟨rfl, rfl⟩
          go_wp2
          go_ret
          exact ⟨rfl, below_box _ _⟩
    · have HW := Lib.hid (within_no f n 16777216 w1 (by decide) (by decide) hr)
      clear h hr
      go_enter Tryz.func49, Tryz.ntmps49
      go_wp2_with fail
      refine (HW.out _).mono ?_
      rintro e w1 ⟨rfl, rfl⟩
      go_wp2
      go_ret
      exact ⟨rfl, below_box _ _⟩
  · clear h
    go_enter Tryz.func49, Tryz.ntmps49
    go_wp2
    go_ret
    exact ⟨rfl, below_box _ _⟩

theorem end_any (f n k t : Int) (h0 : -16777216 ≤ f) (h1 : f ≤ 16777216) (h2 : -16777216 ≤ n) (h3 : n ≤ 16777216) (w : World) : Calls Tryz.prog 72 #[.agg #[.int .i64 f, .int .i64 n, .int .i64 k, .int .i64 t]] w fun e w' => e = .returned (.int .i64 (f + n)) ∧ Below w.heap.size w w' := by
  go_enter Tryz.func72, Tryz.ntmps72
  go_wp2
  go_ret
  exact ⟨rfl, below_box _ _⟩

theorem page_any (f n k t s : Int) (h0 : 0 ≤ f) (h1 : f ≤ 16777216) (h2 : 0 ≤ s) (h3 : s ≤ 16777216) (h4 : 0 ≤ t) (h5 : t ≤ 2048) (w : World) : Calls Tryz.prog 76 #[.agg #[.int .i64 f, .int .i64 n, .int .i64 k, .int .i64 t], .int .i64 s] w fun e w' => e = .returned (.int .i64 (page ⟨f, n, k, t⟩ s)) ∧ Below w.heap.size w w' := by
  by_cases hk : k = 2
  · have e0 : page ⟨f, n, k, t⟩ s = t + s - f := by unfold page; rw [if_pos hk]
    rw [e0]
    subst hk
    clear e0
    go_enter Tryz.func76, Tryz.ntmps76
    go_wp2
    go_ret
    exact ⟨rfl, below_box _ _⟩
  · have e0 : page ⟨f, n, k, t⟩ s = 0 := by unfold page; rw [if_neg hk]
    rw [e0]
    have hk' : (k != 2) = true := by simpa using hk
    clear e0 hk
    go_enter Tryz.func76, Tryz.ntmps76
    go_wp2
    go_ret
    exact ⟨rfl, below_box _ _⟩
end EX
end Go.Proofs.YtdjlflinepefbabGreat

/- How a tree of extents lies in memory, and what the small methods of its nodes answer: first, size, below, page. No condition but those that each theorem names. -/
namespace Go.Proofs.YtdjlflinepefbabGreat
open Go.RowKit
namespace TR
open MM EX
set_option linter.unusedVariables false
set_option linter.unusedSimpArgs false

/-- The type of a node's pointer. -/
def tag : Nat → TypeId
  | 0 => 156
  | _ + 1 => 161
/-- A node's value. -/
def vl (h : Nat) (t : Tr h) : Value := .iface (tag h) (.pointer (some ⟨blk h t, 0, none⟩))
/-- A slice of values of one cell each; nothing is said of an empty one's address. -/
def Vals (w : World) (a : Option Addr) (l : List Value) : Prop := l = [] ∨ ∃ b off, a = some ⟨b, off, none⟩ ∧ b < w.heap.size ∧ ∀ (i : Nat) (v : Value), l[i]? = some v → w.cell? ⟨b, off + i, none⟩ = some v
theorem Vals.below {w w' : World} {a : Option Addr} {l : List Value} (h : Vals w a l) (hb : Below w.heap.size w w') : Vals w' a l := by
  rcases h with h | ⟨b, off, rfl, hlt, hc⟩
  · exact .inl h
  · exact .inr ⟨b, off, rfl, Nat.lt_of_lt_of_le hlt hb.size, fun i v hi => (hb.cell (p := ⟨b, off + i, none⟩) hlt).trans (hc i v hi)⟩
/-- A node, and all below it, in memory. -/
def Rep : (h : Nat) → World → Tr h → Prop
  | 0, w, t => ∃ A c, (lf t).xs.length ≤ c ∧ Blk w (lf t).blk 160 #[.int .i64 (lf t).at_, .slice A (lf t).xs.length c] ∧ Exs w A (lf t).xs
  | h + 1, w, t => ∃ A c, (nd t).xs.length ≤ c ∧ Blk w (nd t).blk 163 #[.int .i64 (nd t).at_, .slice A (nd t).xs.length c] ∧ Vals w A ((nd t).xs.map (vl h)) ∧ ∀ k ∈ (nd t).xs, Rep h w k
theorem Rep.below : ∀ {h : Nat} {w w' : World} {t : Tr h}, Rep h w t → Below w.heap.size w w' → Rep h w' t
  | 0, w, w', t, ⟨A, c, h1, h2, h3⟩, hb => ⟨A, c, h1, h2.below hb h2.lt, h3.below hb⟩
  | h + 1, w, w', t, ⟨A, c, h1, h2, h3, h4⟩, hb => ⟨A, c, h1, h2.below hb h2.lt, h3.below hb, fun k hk => Rep.below (h4 k hk) hb⟩
/-- Nodes of one height in a row. -/
structure Nds (h : Nat) (w : World) (a : Option Addr) (l : List (Tr h)) : Prop where
  vals : Vals w a (l.map (vl h))
  reps : ∀ k ∈ l, Rep h w k
theorem Nds.below {h : Nat} {w w' : World} {a : Option Addr} {l : List (Tr h)} (x : Nds h w a l) (hb : Below w.heap.size w w') : Nds h w' a l := ⟨x.vals.below hb, fun k hk => (x.reps k hk).below hb⟩
theorem Nds.get {h : Nat} {w : World} {a : Option Addr} {l : List (Tr h)} (x : Nds h w a l) {i : Nat} {k : Tr h} (hk : l[i]? = some k) : ∃ b off, a = some ⟨b, off, none⟩ ∧ b < w.heap.size ∧ w.cell? ⟨b, off + i, none⟩ = some (vl h k) := by
  rcases x.vals with h0 | ⟨b, off, h1, h2, h3⟩
  · rw [List.map_eq_nil_iff] at h0; rw [h0] at hk; simp at hk
  · exact ⟨b, off, h1, h2, h3 i _ (by rw [List.getElem?_map, hk]; rfl)⟩
theorem Rep.lt : ∀ {h : Nat} {w : World} {t : Tr h}, Rep h w t → ∀ b ∈ blocks h t, b < w.heap.size
  | 0, w, t, ⟨A, c, h1, h2, h3⟩, b, hb => by rw [List.mem_singleton.1 hb]; exact h2.lt
  | h + 1, w, t, ⟨A, c, h1, h2, h3, h4⟩, b, hb => by
    rw [blocks_succ] at hb
    rcases List.mem_cons.1 hb with rfl | hb
    · exact h2.lt
    · obtain ⟨k, hk, hb⟩ := List.mem_flatMap.1 hb
      exact Rep.lt (h4 k hk) b hb
theorem Nds.lt {h : Nat} {w : World} {a : Option Addr} {l : List (Tr h)} (x : Nds h w a l) : ∀ b ∈ blocksL h l, b < w.heap.size := by
  intro b hb
  obtain ⟨k, hk, hb⟩ := List.mem_flatMap.1 hb
  exact (x.reps k hk).lt b hb

theorem cells2t {w : World} {g : Nat} {t : TypeId} {a0 a1 : Value} (h : Blk w g t #[a0, a1]) : w.cell? ⟨g, 0, none⟩ = some a0 ∧ w.cell? ⟨g, 1, none⟩ = some a1 := ⟨h.cell 0, h.cell 1⟩
/-- The function of a node's first. -/
def ffirst : Nat → Nat
  | 0 => 225
  | _ + 1 => 234
theorem bfirst_any (t : Tr 0) (hn : flat 0 t ≠ []) (w : World) (hr : Rep 0 w t) : Calls Tryz.prog 225 #[.pointer (some ⟨blk 0 t, 0, none⟩)] w fun r w' => r = .returned (.int .i64 (first 0 t)) ∧ w = w' := by
  obtain ⟨e, r, hf, h1⟩ := flat_head hn
  have hx : (lf t).xs = e :: r := hf
  obtain ⟨A, c, hc, hb, hx2⟩ := hr
  rw [h1]
  rw [hx] at hx2 hb
  rcases hx2 with h0 | ⟨b, off, rfl, hlt, hcell⟩
  · cases h0
  · obtain ⟨q0, q1, q2, q3⟩ := hcell 0 e rfl
    obtain ⟨c0, c1⟩ := cells2t hb
    obtain ⟨B, hB⟩ : ∃ B, B = blk 0 t := ⟨_, rfl⟩
    rw [show (lf t).blk = B from hB.symm] at c0 c1
    rw [← hB]
    simp only [Nat.zero_mul, Nat.add_zero, List.length_cons] at q0 q1 q2 q3 c1
    clear hcell hb hc hx hf hn h1 hB q1 q2 q3 hlt
    obtain ⟨n, hnn⟩ : ∃ n, n = r.length + 1 := ⟨_, rfl⟩
    have t1 : (0 : Int) < (n : Int) := by omega
    rw [← hnn] at c1
    clear hnn
    go_enter Tryz.func225, Tryz.ntmps225
    go_wp2
    go_ret
    exact ⟨rfl, rfl⟩
theorem ifirst_any {h : Nat} (ih : ∀ (t : Tr h), Weak h t → ∀ w, Rep h w t → Calls Tryz.prog (ffirst h) #[.pointer (some ⟨blk h t, 0, none⟩)] w fun r w' => r = .returned (.int .i64 (first h t)) ∧ w = w')
    (t : Tr (h + 1)) (hn : Weak (h + 1) t) (w : World) (hr : Rep (h + 1) w t) : Calls Tryz.prog 234 #[.pointer (some ⟨blk (h + 1) t, 0, none⟩)] w fun r w' => r = .returned (.int .i64 (first (h + 1) t)) ∧ w = w' := by
  have hsz := hn.size_pos
  obtain ⟨k, ks, hk⟩ := List.exists_cons_of_length_pos (l := (nd t).xs) hsz.1
  have hkm : k ∈ (nd t).xs := by rw [hk]; exact List.mem_cons_self
  have hkw := hn.kid k hkm
  obtain ⟨A, c, hc, hb, hv, hrs⟩ := hr
  rw [first_kid hk hkw.flat_pos]
  have HI := Lib.hid (ih k hkw w (hrs k hkm))
  obtain ⟨b, off, rfl, hlt, hcell⟩ := (Nds.mk hv hrs).get (i := 0) (k := k) (by rw [hk]; rfl)
  obtain ⟨c0, c1⟩ := cells2t hb
  obtain ⟨B, hB⟩ : ∃ B, B = blk (h + 1) t := ⟨_, rfl⟩
  rw [show (nd t).blk = B from hB.symm] at c0 c1
  rw [← hB]
  obtain ⟨n, hnn⟩ : ∃ n, n = (nd t).xs.length := ⟨_, rfl⟩
  have t1 : (0 : Int) < (n : Int) := by rw [hnn, hk]; simp
  rw [← hnn] at c1
  simp only [Nat.add_zero] at hcell
  clear hnn hb hv hrs hkm hk hB hsz hc
  unfold vl at hcell
  cases h with
  | zero =>
    have HI' : Hid (Calls Tryz.prog 225 #[.pointer (some ⟨blk 0 k, 0, none⟩)] w fun r w' => r = .returned (.int .i64 (first 0 k)) ∧ w = w') := HI
    clear HI
    go_enter Tryz.func234, Tryz.ntmps234
    go_wp2_with fail
    refine HI'.out.mono ?_
    rintro r w1 ⟨rfl, rfl⟩
    go_wp2
    go_ret
    exact ⟨rfl, rfl⟩
  | succ h =>
    have HI' : Hid (Calls Tryz.prog 234 #[.pointer (some ⟨blk (h + 1) k, 0, none⟩)] w fun r w' => r = .returned (.int .i64 (first (h + 1) k)) ∧ w = w') := HI
    clear HI
    go_enter Tryz.func234, Tryz.ntmps234
    go_wp2_with fail
    refine HI'.out.mono ?_
    rintro r w1 ⟨rfl, rfl⟩
    go_wp2
    go_ret
    exact ⟨rfl, rfl⟩
theorem first_any : ∀ (h : Nat) (t : Tr h), Weak h t → ∀ w, Rep h w t → Calls Tryz.prog (ffirst h) #[.pointer (some ⟨blk h t, 0, none⟩)] w fun r w' => r = .returned (.int .i64 (first h t)) ∧ w = w'
  | 0, t, hn, w, hr => bfirst_any t hn.flat_pos w hr
  | h + 1, t, hn, w, hr => ifirst_any (first_any h) t hn w hr
/-- The function of a node's size. -/
def fsize : Nat → Nat
  | 0 => 227
  | _ + 1 => 108
theorem bsize_any (B n c : Nat) (A : Option Addr) (p : Int) (w : World) (hb : Blk w B 160 #[.int .i64 p, .slice A n c]) : Calls Tryz.prog 227 #[.pointer (some ⟨B, 0, none⟩)] w fun r w' => r = .returned (.int .i64 (n : Int)) ∧ w = w' := by
  obtain ⟨c0, c1⟩ := cells2t hb
  clear hb
  go_enter Tryz.func227, Tryz.ntmps227
  go_wp2
  go_ret
  exact ⟨rfl, rfl⟩
theorem isize_any (B n c : Nat) (A : Option Addr) (p : Int) (w : World) (hb : Blk w B 163 #[.int .i64 p, .slice A n c]) : Calls Tryz.prog 108 #[.pointer (some ⟨B, 0, none⟩)] w fun r w' => r = .returned (.int .i64 (n : Int)) ∧ w = w' := by
  obtain ⟨c0, c1⟩ := cells2t hb
  clear hb
  go_enter Tryz.func108, Tryz.ntmps108
  go_wp2
  go_ret
  exact ⟨rfl, rfl⟩
theorem size_any : ∀ (h : Nat) (t : Tr h) (w : World), Rep h w t → Calls Tryz.prog (fsize h) #[.pointer (some ⟨blk h t, 0, none⟩)] w fun r w' => r = .returned (.int .i64 (size h t : Nat)) ∧ w = w'
  | 0, t, w, ⟨A, c, h1, h2, h3⟩ => bsize_any _ _ _ _ _ w h2
  | h + 1, t, w, ⟨A, c, h1, h2, h3, h4⟩ => isize_any _ _ _ _ _ w h2
/-- The function of a node's kids. -/
def fbelow : Nat → Nat
  | 0 => 223
  | _ + 1 => 232
theorem bbelow_any (v : Value) (w : World) : Calls Tryz.prog 223 #[v] w fun r w' => r = .returned (.slice none 0 0) ∧ w = w' := by
  go_enter Tryz.func223, Tryz.ntmps223
  go_wp2
  go_ret
  exact ⟨rfl, rfl⟩
theorem ibelow_any (B n c : Nat) (A : Option Addr) (p : Int) (w : World) (hb : Blk w B 163 #[.int .i64 p, .slice A n c]) : Calls Tryz.prog 232 #[.pointer (some ⟨B, 0, none⟩)] w fun r w' => r = .returned (.slice A n c) ∧ w = w' := by
  obtain ⟨c0, c1⟩ := cells2t hb
  clear hb
  go_enter Tryz.func232, Tryz.ntmps232
  go_wp2
  go_ret
  exact ⟨rfl, rfl⟩
theorem page_any (B : Nat) (p : Int) (w : World) (hb : w.cell? ⟨B, 0, none⟩ = some (.int .i64 p)) : Calls Tryz.prog 226 #[.pointer (some ⟨B, 0, none⟩)] w fun r w' => r = .returned (.int .i64 p) ∧ w = w' := by
  go_enter Tryz.func226, Tryz.ntmps226
  go_wp2
  go_ret
  exact ⟨rfl, rfl⟩
theorem pg_cell : ∀ {h : Nat} {t : Tr h} {w : World}, Rep h w t → w.cell? ⟨blk h t, 0, none⟩ = some (.int .i64 (pg h t))
  | 0, t, w, ⟨A, c, h1, h2, h3⟩ => h2.cell 0
  | h + 1, t, w, ⟨A, c, h1, h2, h3, h4⟩ => h2.cell 0
end TR
end Go.Proofs.YtdjlflinepefbabGreat
