/- What package ext's push answers: a row of the call's own, one extent more. No condition but those that each theorem names. -/
import Derived.Test.YtdjlflinepefbabGreatQ25
import Derived.Test.YtdjlflinepefbabGreatQ05

namespace Go.Proofs.YtdjlflinepefbabGreat
open Go.RowKit
namespace EX
open MM
set_option linter.unusedVariables false
set_option linter.unusedSimpArgs false

theorem info_ext : (Tryz.prog.info? 41).map (fun i => (i.zero, i.size, i.bytes)) = some (some (.agg #[.int .i64 0, .int .i64 0, .int .i64 0, .int .i64 0]), 4, 32) := by kernel_rfl

/-- The last extent of a row of the call's own is stored anew. -/
theorem own_last {w : World} {base : Nat} {T : TypeId} {g m cap : Nat} {i : List Ext} {p : Ext} (q : Ext) (hm : i.length = m) (h : w.ownsRow base T 4 (.slice (some ⟨g, 0, none⟩) (m + 1) cap) (m + 1) (exCells (i ++ [p]))) :
    ((((w.setCell ⟨g, m * 4, none⟩ (.int .i64 q.from_)).setCell ⟨g, m * 4 + 1, none⟩ (.int .i64 q.n)).setCell ⟨g, m * 4 + 2, none⟩ (.int .i64 q.kind)).setCell ⟨g, m * 4 + 3, none⟩ (.int .i64 q.at_)).ownsRow base T 4 (.slice (some ⟨g, 0, none⟩) (m + 1) cap) (m + 1) (exCells (i ++ [q])) := by
  have h1 := ((((((h.stored (m * 4) (.int .i64 q.from_)).1.stored (m * 4 + 1) (.int .i64 q.n)).1.stored (m * 4 + 2) (.int .i64 q.kind))).1.stored (m * 4 + 3) (.int .i64 q.at_))).1
  have e : ((((exCells (i ++ [p])).set (m * 4) (.int .i64 q.from_)).set (m * 4 + 1) (.int .i64 q.n)).set (m * 4 + 2) (.int .i64 q.kind)).set (m * 4 + 3) (.int .i64 q.at_) = exCells (i ++ [q]) := by
    rw [← exCells_snoc, ← exCells_snoc]
    have hl : (exCells i).length = m * 4 := by rw [exCells_len, hm]
    rw [← hl]
    simp [List.set_append_right]
  rw [e] at h1
  exact h1
theorem last_cells {w : World} {base : Nat} {T : TypeId} {g m cap : Nat} {i : List Ext} {p : Ext} (hm : i.length = m) (h : w.ownsRow base T 4 (.slice (some ⟨g, 0, none⟩) (m + 1) cap) (m + 1) (exCells (i ++ [p]))) :
    (w.cell? ⟨g, m * 4, none⟩ = some (.int .i64 p.from_) ∧ w.cell? ⟨g, m * 4 + 1, none⟩ = some (.int .i64 p.n) ∧ w.cell? ⟨g, m * 4 + 2, none⟩ = some (.int .i64 p.kind) ∧ w.cell? ⟨g, m * 4 + 3, none⟩ = some (.int .i64 p.at_)) ∧
    (w.frozen? ⟨g, m * 4, none⟩ = false ∧ w.frozen? ⟨g, m * 4 + 1, none⟩ = false ∧ w.frozen? ⟨g, m * 4 + 2, none⟩ = false ∧ w.frozen? ⟨g, m * 4 + 3, none⟩ = false) := by
  obtain ⟨e0, e1, e2, e3⟩ := exCells_get (i ++ [p]) m p (by rw [← hm]; simp)
  have cell : ∀ j u, (exCells (i ++ [p]))[j]? = some u → w.cell? ⟨g, j, none⟩ = some u := by
    intro j u hu
    have := h.cells (g := g) rfl j u hu
    rwa [show (⟨g, 0, none⟩ : Addr).add j = ⟨g, j, none⟩ from by unfold Addr.add; split <;> simp_all] at this
  exact ⟨⟨cell _ _ e0, cell _ _ e1, cell _ _ e2, cell _ _ e3⟩, h.frozenAt _, h.frozenAt _, h.frozenAt _, h.frozenAt _⟩

/-- How a function that builds a row ends. -/
def OwnEnd (base : Nat) (R : List Ext) (w : World) (r : Ending) (w' : World) : Prop := ∃ v, r = .returned v ∧ w'.ownsRow base 41 4 v R.length (exCells R) ∧ Below base w w'
theorem OwnEnd.of {base n : Nat} {R : List Ext} {w w' : World} {v : Value} (hn : R.length = n) (h : w'.ownsRow base 41 4 v n (exCells R)) (hb : Below base w w') : OwnEnd base R w (.returned v) w' := ⟨v, rfl, by rw [hn]; exact h, hb⟩

set_option maxHeartbeats 2000000 in
theorem push_empty (base : Nat) (e : Ext) (v : Value) (w : World) (hown : w.ownsRow base 41 4 v 0 []) (hb : base ≤ w.heap.size) :
    Calls Tryz.prog 71 #[v, .agg #[.int .i64 e.from_, .int .i64 e.n, .int .i64 e.kind, .int .i64 e.at_]] w (OwnEnd base [e] w) := by
  obtain ⟨i0, hi, hz0, hz1, hz2⟩ := info_parts info_ext
  obtain ⟨A, c, rfl⟩ := own_slice hown
  have HO := Lib.hid hown
  clear hown
  go_enter Tryz.func71, Tryz.ntmps71
  go_wp2_with (at_builtin; refine wpList_append_own _ rfl _ _ 61 rfl base 41 i0 (.agg #[.int .i64 0, .int .i64 0, .int .i64 0, .int .i64 0]) 4 32 Tryz.underlying61 hi hz0 hz1 hz2 rfl (by decide) _ _ _ rfl ((HO.out.alloc _).alloc _) ⟨w.heap.size + 1, 0, none⟩ 1 1 [.int .i64 e.from_, .int .i64 e.n, .int .i64 e.kind, .int .i64 e.at_] rfl rfl ?c1 ?c2 ?c3 ?c4 ?c5 ?_)
  case c1 => exact new_cellsH _ _ _ _ (by simp)
  case c2 => intro u hu; simp at hu; rcases hu with rfl | rfl | rfl | rfl <;> rfl
  case c3 => unfold maxLen; omega
  case c4 => omega
  case c5 => simp; omega
  intro v' w8 hown8 hgrow _
  have H8 := Lib.hid hown8
  have HB : Hid (Below base w w8) := Lib.hid ((((Below.refl base w).alloc hb _).alloc (by simp; omega) _).grown hgrow (by simp; omega) (fun k hk => (HO.out.lt k hk).1))
  clear hown8 hgrow
  go_wp2
  go_ret
  exact OwnEnd.of (by simp) H8.out HB.out

/-- What push has beside its row. -/
structure Pq (base g m cap E : Nat) (i : List Ext) (p e : Ext) (w w' : World) : Prop where
  own : w'.ownsRow base 41 4 (.slice (some ⟨g, 0, none⟩) (m + 1) cap) (m + 1) (exCells (i ++ [p]))
  blk : Blk w' E 41 (c4 e.from_ e.n e.kind e.at_)
  bel : Below E w w'
theorem Pq.below {base g m cap E : Nat} {i : List Ext} {p e : Ext} {w w1 w2 : World} (h : Pq base g m cap E i p e w w1) (hb : Below w1.heap.size w1 w2) : Pq base g m cap E i p e w w2 :=
  ⟨own_kept h.own hb, h.blk.below hb h.blk.lt, h.bel.trans (hb.mono (Nat.le_of_lt h.blk.lt))⟩
theorem Pq.far {base g m cap E : Nat} {i : List Ext} {p e : Ext} {w w1 : World} (h : Pq base g m cap E i p e w w1) {X : Nat} (hg : g < X) (hE : E < X) (x0 x1 x2 x3 : Value) : Pq base g m cap E i p e w ((((w1.setCell ⟨X, 0, none⟩ x0).setCell ⟨X, 1, none⟩ x1).setCell ⟨X, 2, none⟩ x2).setCell ⟨X, 3, none⟩ x3) := by
  have hn : ∀ j, (Value.slice (some ⟨g, 0, none⟩) (m + 1) cap).ownBlock ≠ some (⟨X, j, none⟩ : Addr).block := fun j hx => by simp [Value.ownBlock] at hx; omega
  have hne : E ≠ X := by omega
  exact ⟨own_far (own_far (own_far (own_far h.own (hn 0) _) (hn 1) _) (hn 2) _) (hn 3) _, (((h.blk.far hne _).far hne _).far hne _).far hne _, stored4_below h.bel (Nat.le_of_lt hE) _ _ _ _⟩
/-- Behind the joining: the row, the extent, and the variable that holds what was joined. -/
structure Pz (base g m cap E X : Nat) (i : List Ext) (p e q : Ext) (w w' : World) : Prop where
  pq : Pq base g m cap E i p e w w'
  var : Blk w' X 41 (c4 q.from_ q.n q.kind q.at_)
  ne : E < X ∧ g ≠ X

theorem pq_s {base g m cap E : Nat} {i : List Ext} {p e : Ext} {w w1 : World} (hm : i.length = m) (h : Pq base g m cap E i p e w w1) : (w1.cell? ⟨g, m * 4, none⟩ = some (.int .i64 p.from_) ∧ w1.cell? ⟨g, m * 4 + 1, none⟩ = some (.int .i64 p.n) ∧ w1.cell? ⟨g, m * 4 + 2, none⟩ = some (.int .i64 p.kind) ∧ w1.cell? ⟨g, m * 4 + 3, none⟩ = some (.int .i64 p.at_) ∧ w1.cell? ⟨E, 0, none⟩ = some (.int .i64 e.from_) ∧ w1.cell? ⟨E, 1, none⟩ = some (.int .i64 e.n) ∧ w1.cell? ⟨E, 2, none⟩ = some (.int .i64 e.kind) ∧ w1.cell? ⟨E, 3, none⟩ = some (.int .i64 e.at_) ∧ Pq base g m cap E i p e w w1) := by
  obtain ⟨⟨a0, a1, a2, a3⟩, _⟩ := last_cells hm h.own
  obtain ⟨⟨b0, b1, b2, b3⟩, _⟩ := cells4 h.blk
  exact ⟨a0, a1, a2, a3, b0, b1, b2, b3, h⟩
theorem pq_keep {base g m cap E : Nat} {i : List Ext} {p e : Ext} {w w1 w2 : World} (hm : i.length = m) (h : (w1.cell? ⟨g, m * 4, none⟩ = some (.int .i64 p.from_) ∧ w1.cell? ⟨g, m * 4 + 1, none⟩ = some (.int .i64 p.n) ∧ w1.cell? ⟨g, m * 4 + 2, none⟩ = some (.int .i64 p.kind) ∧ w1.cell? ⟨g, m * 4 + 3, none⟩ = some (.int .i64 p.at_) ∧ w1.cell? ⟨E, 0, none⟩ = some (.int .i64 e.from_) ∧ w1.cell? ⟨E, 1, none⟩ = some (.int .i64 e.n) ∧ w1.cell? ⟨E, 2, none⟩ = some (.int .i64 e.kind) ∧ w1.cell? ⟨E, 3, none⟩ = some (.int .i64 e.at_) ∧ Pq base g m cap E i p e w w1)) (hb : Below w1.heap.size w1 w2) : (w2.cell? ⟨g, m * 4, none⟩ = some (.int .i64 p.from_) ∧ w2.cell? ⟨g, m * 4 + 1, none⟩ = some (.int .i64 p.n) ∧ w2.cell? ⟨g, m * 4 + 2, none⟩ = some (.int .i64 p.kind) ∧ w2.cell? ⟨g, m * 4 + 3, none⟩ = some (.int .i64 p.at_) ∧ w2.cell? ⟨E, 0, none⟩ = some (.int .i64 e.from_) ∧ w2.cell? ⟨E, 1, none⟩ = some (.int .i64 e.n) ∧ w2.cell? ⟨E, 2, none⟩ = some (.int .i64 e.kind) ∧ w2.cell? ⟨E, 3, none⟩ = some (.int .i64 e.at_) ∧ Pq base g m cap E i p e w w2) :=
  pq_s hm (h.2.2.2.2.2.2.2.2.below hb)
theorem pq_keep2 {base g m cap E X : Nat} {i : List Ext} {p e : Ext} {w w1 : World} (x0 x1 x2 x3 : Value) (hm : i.length = m) (h : (w1.cell? ⟨g, m * 4, none⟩ = some (.int .i64 p.from_) ∧ w1.cell? ⟨g, m * 4 + 1, none⟩ = some (.int .i64 p.n) ∧ w1.cell? ⟨g, m * 4 + 2, none⟩ = some (.int .i64 p.kind) ∧ w1.cell? ⟨g, m * 4 + 3, none⟩ = some (.int .i64 p.at_) ∧ w1.cell? ⟨E, 0, none⟩ = some (.int .i64 e.from_) ∧ w1.cell? ⟨E, 1, none⟩ = some (.int .i64 e.n) ∧ w1.cell? ⟨E, 2, none⟩ = some (.int .i64 e.kind) ∧ w1.cell? ⟨E, 3, none⟩ = some (.int .i64 e.at_) ∧ Pq base g m cap E i p e w w1)) (hx : g < X ∧ E < X) : (((((w1.setCell ⟨X, 0, none⟩ x0).setCell ⟨X, 1, none⟩ x1).setCell ⟨X, 2, none⟩ x2).setCell ⟨X, 3, none⟩ x3).cell? ⟨g, m * 4, none⟩ = some (.int .i64 p.from_) ∧ ((((w1.setCell ⟨X, 0, none⟩ x0).setCell ⟨X, 1, none⟩ x1).setCell ⟨X, 2, none⟩ x2).setCell ⟨X, 3, none⟩ x3).cell? ⟨g, m * 4 + 1, none⟩ = some (.int .i64 p.n) ∧ ((((w1.setCell ⟨X, 0, none⟩ x0).setCell ⟨X, 1, none⟩ x1).setCell ⟨X, 2, none⟩ x2).setCell ⟨X, 3, none⟩ x3).cell? ⟨g, m * 4 + 2, none⟩ = some (.int .i64 p.kind) ∧ ((((w1.setCell ⟨X, 0, none⟩ x0).setCell ⟨X, 1, none⟩ x1).setCell ⟨X, 2, none⟩ x2).setCell ⟨X, 3, none⟩ x3).cell? ⟨g, m * 4 + 3, none⟩ = some (.int .i64 p.at_) ∧ ((((w1.setCell ⟨X, 0, none⟩ x0).setCell ⟨X, 1, none⟩ x1).setCell ⟨X, 2, none⟩ x2).setCell ⟨X, 3, none⟩ x3).cell? ⟨E, 0, none⟩ = some (.int .i64 e.from_) ∧ ((((w1.setCell ⟨X, 0, none⟩ x0).setCell ⟨X, 1, none⟩ x1).setCell ⟨X, 2, none⟩ x2).setCell ⟨X, 3, none⟩ x3).cell? ⟨E, 1, none⟩ = some (.int .i64 e.n) ∧ ((((w1.setCell ⟨X, 0, none⟩ x0).setCell ⟨X, 1, none⟩ x1).setCell ⟨X, 2, none⟩ x2).setCell ⟨X, 3, none⟩ x3).cell? ⟨E, 2, none⟩ = some (.int .i64 e.kind) ∧ ((((w1.setCell ⟨X, 0, none⟩ x0).setCell ⟨X, 1, none⟩ x1).setCell ⟨X, 2, none⟩ x2).setCell ⟨X, 3, none⟩ x3).cell? ⟨E, 3, none⟩ = some (.int .i64 e.at_) ∧ Pq base g m cap E i p e w ((((w1.setCell ⟨X, 0, none⟩ x0).setCell ⟨X, 1, none⟩ x1).setCell ⟨X, 2, none⟩ x2).setCell ⟨X, 3, none⟩ x3)) :=
  pq_s hm (h.2.2.2.2.2.2.2.2.far hx.1 hx.2 _ _ _ _)

set_option maxHeartbeats 4000000 in
theorem push_t (base : Nat) (m : Nat) (i : List Ext) (p e q : Ext) (hm : i.length = m) (hm' : m ≤ 100000000) (v : Value) (w : World) (hown : w.ownsRow base 41 4 v (m + 1) (exCells (i ++ [p]))) (hb : base ≤ w.heap.size)
    (HJ : Hid (∀ w, Calls Tryz.prog 102 #[.agg #[.int .i64 p.from_, .int .i64 p.n, .int .i64 p.kind, .int .i64 p.at_], .agg #[.int .i64 e.from_, .int .i64 e.n, .int .i64 e.kind, .int .i64 e.at_]] w fun r w' => r = .returned (.tuple #[.agg #[.int .i64 q.from_, .int .i64 q.n, .int .i64 q.kind, .int .i64 q.at_], .bool true]) ∧ Below w.heap.size w w')) :
    Calls Tryz.prog 71 #[v, .agg #[.int .i64 e.from_, .int .i64 e.n, .int .i64 e.kind, .int .i64 e.at_]] w (OwnEnd base (i ++ [q]) w) := by
  obtain ⟨i0, hi, hz0, hz1, hz2⟩ := info_parts info_ext
  obtain ⟨g, cap, rfl, hbg, hgl⟩ := own_form hown (Nat.succ_pos m)
  obtain ⟨W, hW⟩ : ∃ W, W = w.alloc (.cells #[.int .i64 e.from_, .int .i64 e.n, .int .i64 e.kind, .int .i64 e.at_] 41) := ⟨_, rfl⟩
  have hq : Pq base g m cap w.heap.size i p e w W := ⟨by rw [hW]; exact hown.alloc _, by rw [hW]; exact Blk.new w _ _, by rw [hW]; exact below_box w _⟩
  obtain ⟨⟨a0, a1, a2, a3⟩, ⟨f0, f1, f2, f3⟩⟩ := last_cells hm hq.own
  obtain ⟨⟨b0, b1, b2, b3⟩, _⟩ := cells4 hq.blk
  have HS : Hid (W.drew.cell? ⟨g, m * 4, none⟩ = some (.int .i64 p.from_) ∧ W.drew.cell? ⟨g, m * 4 + 1, none⟩ = some (.int .i64 p.n) ∧ W.drew.cell? ⟨g, m * 4 + 2, none⟩ = some (.int .i64 p.kind) ∧ W.drew.cell? ⟨g, m * 4 + 3, none⟩ = some (.int .i64 p.at_) ∧ W.drew.cell? ⟨w.heap.size, 0, none⟩ = some (.int .i64 e.from_) ∧ W.drew.cell? ⟨w.heap.size, 1, none⟩ = some (.int .i64 e.n) ∧ W.drew.cell? ⟨w.heap.size, 2, none⟩ = some (.int .i64 e.kind) ∧ W.drew.cell? ⟨w.heap.size, 3, none⟩ = some (.int .i64 e.at_) ∧ Pq base g m cap w.heap.size i p e w W.drew) := Lib.hid (pq_s hm ⟨hq.own, hq.blk, hq.bel.drew⟩)
  have HS2 : Hid ((W.alloc (.cells #[.int .i64 0, .int .i64 0, .int .i64 0, .int .i64 0] 41)).drew.cell? ⟨g, m * 4, none⟩ = some (.int .i64 p.from_) ∧ (W.alloc (.cells #[.int .i64 0, .int .i64 0, .int .i64 0, .int .i64 0] 41)).drew.cell? ⟨g, m * 4 + 1, none⟩ = some (.int .i64 p.n) ∧ (W.alloc (.cells #[.int .i64 0, .int .i64 0, .int .i64 0, .int .i64 0] 41)).drew.cell? ⟨g, m * 4 + 2, none⟩ = some (.int .i64 p.kind) ∧ (W.alloc (.cells #[.int .i64 0, .int .i64 0, .int .i64 0, .int .i64 0] 41)).drew.cell? ⟨g, m * 4 + 3, none⟩ = some (.int .i64 p.at_) ∧ (W.alloc (.cells #[.int .i64 0, .int .i64 0, .int .i64 0, .int .i64 0] 41)).drew.cell? ⟨w.heap.size, 0, none⟩ = some (.int .i64 e.from_) ∧ (W.alloc (.cells #[.int .i64 0, .int .i64 0, .int .i64 0, .int .i64 0] 41)).drew.cell? ⟨w.heap.size, 1, none⟩ = some (.int .i64 e.n) ∧ (W.alloc (.cells #[.int .i64 0, .int .i64 0, .int .i64 0, .int .i64 0] 41)).drew.cell? ⟨w.heap.size, 2, none⟩ = some (.int .i64 e.kind) ∧ (W.alloc (.cells #[.int .i64 0, .int .i64 0, .int .i64 0, .int .i64 0] 41)).drew.cell? ⟨w.heap.size, 3, none⟩ = some (.int .i64 e.at_) ∧ Pq base g m cap w.heap.size i p e w (W.alloc (.cells #[.int .i64 0, .int .i64 0, .int .i64 0, .int .i64 0] 41)).drew) := Lib.hid (pq_s hm (hq.below ((below_box W _).drew)))
  have HX : Hid (∀ w5, Below (W.alloc (.cells #[.int .i64 0, .int .i64 0, .int .i64 0, .int .i64 0] 41)).drew.heap.size (W.alloc (.cells #[.int .i64 0, .int .i64 0, .int .i64 0, .int .i64 0] 41)).drew w5 → Blk w5 W.heap.size 41 (c4 0 0 0 0)) := Lib.hid fun w5 h5 => (show Blk (W.alloc (.cells #[.int .i64 0, .int .i64 0, .int .i64 0, .int .i64 0] 41)).drew W.heap.size 41 (c4 0 0 0 0) from Blk.new W _ _).below h5 (show W.heap.size < (W.alloc (.cells #[.int .i64 0, .int .i64 0, .int .i64 0, .int .i64 0] 41)).drew.heap.size from (Blk.new W 41 (c4 0 0 0 0)).lt)
  have hEX : w.heap.size < W.heap.size := hq.blk.lt
  have HW := Lib.hid hW
  have e9 : IntKind.i64.wrap (((m + 1 : Nat) : Int) - 1) = (m : Int) := by rw [IntWalk.i64_in _ (by omega)]; omega
  have e10 : (0 : Int) ≤ (m : Int) := by omega
  have e11 : (m : Int) < ((m + 1 : Nat) : Int) := by omega
  have e12 : (0 : Int) < ((m + 1 : Nat) : Int) := by omega
  have HEX : Hid (g < W.heap.size ∧ w.heap.size < W.heap.size) := Lib.hid ⟨by omega, hEX⟩
  have HGL := Lib.hid hgl
  obtain ⟨E, hE⟩ : ∃ E, E = w.heap.size := ⟨_, rfl⟩
  rw [← hE] at HS HS2 HEX b0 b1 b2 b3
  have HE := Lib.hid hE
  clear hW hown hq hEX hgl hE
  go_enter Tryz.func71, Tryz.ntmps71
  go_wp2
  rw [← HW.out, ← HE.out]
  go_region_held3 (fun w' => (w'.cell? ⟨g, m * 4, none⟩ = some (.int .i64 p.from_) ∧ w'.cell? ⟨g, m * 4 + 1, none⟩ = some (.int .i64 p.n) ∧ w'.cell? ⟨g, m * 4 + 2, none⟩ = some (.int .i64 p.kind) ∧ w'.cell? ⟨g, m * 4 + 3, none⟩ = some (.int .i64 p.at_) ∧ w'.cell? ⟨E, 0, none⟩ = some (.int .i64 e.from_) ∧ w'.cell? ⟨E, 1, none⟩ = some (.int .i64 e.n) ∧ w'.cell? ⟨E, 2, none⟩ = some (.int .i64 e.kind) ∧ w'.cell? ⟨E, 3, none⟩ = some (.int .i64 e.at_) ∧ Pq base g m cap E i p e w w')) (first | with_reducible exact HS.out | with_reducible exact HS2.out | with_reducible assumption | with_reducible exact pq_keep hm (by assumption) (below_box _ _) | with_reducible exact pq_keep2 _ _ _ _ hm (by assumption) HEX.out) ((go_at_call 102; refine (HJ.out _).mono ?_; rintro r w5 ⟨rfl, hb5⟩; have hS5 := pq_keep hm (by assumption) hb5; first | (have hx5 : Blk w5 W.heap.size 41 (c4 0 0 0 0) := (by with_reducible exact HX.out _ hb5); obtain ⟨⟨x0, x1, x2, x3⟩, y0, y1, y2, y3⟩ := cells4 hx5) | skip))
  · obtain ⟨W6, hW6⟩ : ∃ W6, W6 = w5.alloc (.cells #[.int .i64 q.from_, .int .i64 q.n, .int .i64 q.kind, .int .i64 q.at_] 41) := ⟨_, rfl⟩
    obtain ⟨X, hX⟩ : ∃ X, X = w5.heap.size := ⟨_, rfl⟩
    have PZ : Hid (Pz base g m cap E X i p e q w W6) := by
      show Pz _ _ _ _ _ _ _ _ _ _ _ _
      rw [hW6, hX]
      exact ⟨hS5.2.2.2.2.2.2.2.2.below (below_box _ _), Blk.new w5 _ _, ⟨hS5.2.2.2.2.2.2.2.2.blk.lt, Nat.ne_of_lt (hS5.2.2.2.2.2.2.2.2.own.lt g rfl).2⟩⟩
    rw [← hW6, ← hX]
    clear hW6 hX hS5 HS HS2 HX HEX a0 a1 a2 a3 f0 f1 f2 f3 b0 b1 b2 b3
    obtain ⟨⟨a0, a1, a2, a3⟩, ⟨f0, f1, f2, f3⟩⟩ := last_cells hm PZ.out.pq.own
    obtain ⟨⟨b0, b1, b2, b3⟩, _⟩ := cells4 PZ.out.pq.blk
    obtain ⟨⟨x0, x1, x2, x3⟩, _⟩ := cells4 PZ.out.var
    go_wp2
    go_ret
    exact OwnEnd.of (by simp; omega) (own_last q hm PZ.out.pq.own) ((((((PZ.out.pq.bel.mono (by rw [HE.out]; exact hb)).setCell hbg _).setCell hbg _).setCell hbg _).setCell hbg _))
  · obtain ⟨W6, hW6⟩ : ∃ W6, W6 = ((((w5.setCell ⟨W.heap.size, 0, none⟩ (.int .i64 q.from_)).setCell ⟨W.heap.size, 1, none⟩ (.int .i64 q.n)).setCell ⟨W.heap.size, 2, none⟩ (.int .i64 q.kind)).setCell ⟨W.heap.size, 3, none⟩ (.int .i64 q.at_)) := ⟨_, rfl⟩
    obtain ⟨X, hX⟩ : ∃ X, X = W.heap.size := ⟨_, rfl⟩
    have PZ : Hid (Pz base g m cap E X i p e q w W6) := by
      show Pz _ _ _ _ _ _ _ _ _ _ _ _
      rw [hW6, hX]
      exact ⟨hS5.2.2.2.2.2.2.2.2.far HEX.out.1 HEX.out.2 _ _ _ _, stored4 hx5 _ _ _ _, ⟨HEX.out.2, Nat.ne_of_lt HEX.out.1⟩⟩
    rw [← hW6, ← hX]
    clear hW6 hX hS5 HS HS2 HX HEX hx5 y0 y1 y2 y3 x0 x1 x2 x3 a0 a1 a2 a3 f0 f1 f2 f3 b0 b1 b2 b3
    obtain ⟨⟨a0, a1, a2, a3⟩, ⟨f0, f1, f2, f3⟩⟩ := last_cells hm PZ.out.pq.own
    obtain ⟨⟨b0, b1, b2, b3⟩, _⟩ := cells4 PZ.out.pq.blk
    obtain ⟨⟨x0, x1, x2, x3⟩, _⟩ := cells4 PZ.out.var
    go_wp2
    go_ret
    exact OwnEnd.of (by simp; omega) (own_last q hm PZ.out.pq.own) ((((((PZ.out.pq.bel.mono (by rw [HE.out]; exact hb)).setCell hbg _).setCell hbg _).setCell hbg _).setCell hbg _))

set_option maxHeartbeats 4000000 in
theorem push_f (base : Nat) (m : Nat) (i : List Ext) (p e q : Ext) (hm : i.length = m) (hm' : m ≤ 100000000) (v : Value) (w : World) (hown : w.ownsRow base 41 4 v (m + 1) (exCells (i ++ [p]))) (hb : base ≤ w.heap.size)
    (HJ : Hid (∀ w, Calls Tryz.prog 102 #[.agg #[.int .i64 p.from_, .int .i64 p.n, .int .i64 p.kind, .int .i64 p.at_], .agg #[.int .i64 e.from_, .int .i64 e.n, .int .i64 e.kind, .int .i64 e.at_]] w fun r w' => r = .returned (.tuple #[.agg #[.int .i64 q.from_, .int .i64 q.n, .int .i64 q.kind, .int .i64 q.at_], .bool false]) ∧ Below w.heap.size w w')) :
    Calls Tryz.prog 71 #[v, .agg #[.int .i64 e.from_, .int .i64 e.n, .int .i64 e.kind, .int .i64 e.at_]] w (OwnEnd base (i ++ [p] ++ [e]) w) := by
  obtain ⟨i0, hi, hz0, hz1, hz2⟩ := info_parts info_ext
  obtain ⟨g, cap, rfl, hbg, hgl⟩ := own_form hown (Nat.succ_pos m)
  obtain ⟨W, hW⟩ : ∃ W, W = w.alloc (.cells #[.int .i64 e.from_, .int .i64 e.n, .int .i64 e.kind, .int .i64 e.at_] 41) := ⟨_, rfl⟩
  have hq : Pq base g m cap w.heap.size i p e w W := ⟨by rw [hW]; exact hown.alloc _, by rw [hW]; exact Blk.new w _ _, by rw [hW]; exact below_box w _⟩
  obtain ⟨⟨a0, a1, a2, a3⟩, ⟨f0, f1, f2, f3⟩⟩ := last_cells hm hq.own
  obtain ⟨⟨b0, b1, b2, b3⟩, _⟩ := cells4 hq.blk
  have HS : Hid (W.drew.cell? ⟨g, m * 4, none⟩ = some (.int .i64 p.from_) ∧ W.drew.cell? ⟨g, m * 4 + 1, none⟩ = some (.int .i64 p.n) ∧ W.drew.cell? ⟨g, m * 4 + 2, none⟩ = some (.int .i64 p.kind) ∧ W.drew.cell? ⟨g, m * 4 + 3, none⟩ = some (.int .i64 p.at_) ∧ W.drew.cell? ⟨w.heap.size, 0, none⟩ = some (.int .i64 e.from_) ∧ W.drew.cell? ⟨w.heap.size, 1, none⟩ = some (.int .i64 e.n) ∧ W.drew.cell? ⟨w.heap.size, 2, none⟩ = some (.int .i64 e.kind) ∧ W.drew.cell? ⟨w.heap.size, 3, none⟩ = some (.int .i64 e.at_) ∧ Pq base g m cap w.heap.size i p e w W.drew) := Lib.hid (pq_s hm ⟨hq.own, hq.blk, hq.bel.drew⟩)
  have HS2 : Hid ((W.alloc (.cells #[.int .i64 0, .int .i64 0, .int .i64 0, .int .i64 0] 41)).drew.cell? ⟨g, m * 4, none⟩ = some (.int .i64 p.from_) ∧ (W.alloc (.cells #[.int .i64 0, .int .i64 0, .int .i64 0, .int .i64 0] 41)).drew.cell? ⟨g, m * 4 + 1, none⟩ = some (.int .i64 p.n) ∧ (W.alloc (.cells #[.int .i64 0, .int .i64 0, .int .i64 0, .int .i64 0] 41)).drew.cell? ⟨g, m * 4 + 2, none⟩ = some (.int .i64 p.kind) ∧ (W.alloc (.cells #[.int .i64 0, .int .i64 0, .int .i64 0, .int .i64 0] 41)).drew.cell? ⟨g, m * 4 + 3, none⟩ = some (.int .i64 p.at_) ∧ (W.alloc (.cells #[.int .i64 0, .int .i64 0, .int .i64 0, .int .i64 0] 41)).drew.cell? ⟨w.heap.size, 0, none⟩ = some (.int .i64 e.from_) ∧ (W.alloc (.cells #[.int .i64 0, .int .i64 0, .int .i64 0, .int .i64 0] 41)).drew.cell? ⟨w.heap.size, 1, none⟩ = some (.int .i64 e.n) ∧ (W.alloc (.cells #[.int .i64 0, .int .i64 0, .int .i64 0, .int .i64 0] 41)).drew.cell? ⟨w.heap.size, 2, none⟩ = some (.int .i64 e.kind) ∧ (W.alloc (.cells #[.int .i64 0, .int .i64 0, .int .i64 0, .int .i64 0] 41)).drew.cell? ⟨w.heap.size, 3, none⟩ = some (.int .i64 e.at_) ∧ Pq base g m cap w.heap.size i p e w (W.alloc (.cells #[.int .i64 0, .int .i64 0, .int .i64 0, .int .i64 0] 41)).drew) := Lib.hid (pq_s hm (hq.below ((below_box W _).drew)))
  have HX : Hid (∀ w5, Below (W.alloc (.cells #[.int .i64 0, .int .i64 0, .int .i64 0, .int .i64 0] 41)).drew.heap.size (W.alloc (.cells #[.int .i64 0, .int .i64 0, .int .i64 0, .int .i64 0] 41)).drew w5 → Blk w5 W.heap.size 41 (c4 0 0 0 0)) := Lib.hid fun w5 h5 => (show Blk (W.alloc (.cells #[.int .i64 0, .int .i64 0, .int .i64 0, .int .i64 0] 41)).drew W.heap.size 41 (c4 0 0 0 0) from Blk.new W _ _).below h5 (show W.heap.size < (W.alloc (.cells #[.int .i64 0, .int .i64 0, .int .i64 0, .int .i64 0] 41)).drew.heap.size from (Blk.new W 41 (c4 0 0 0 0)).lt)
  have hEX : w.heap.size < W.heap.size := hq.blk.lt
  have HW := Lib.hid hW
  have e9 : IntKind.i64.wrap (((m + 1 : Nat) : Int) - 1) = (m : Int) := by rw [IntWalk.i64_in _ (by omega)]; omega
  have e10 : (0 : Int) ≤ (m : Int) := by omega
  have e11 : (m : Int) < ((m + 1 : Nat) : Int) := by omega
  have e12 : (0 : Int) < ((m + 1 : Nat) : Int) := by omega
  have HEX : Hid (g < W.heap.size ∧ w.heap.size < W.heap.size) := Lib.hid ⟨by omega, hEX⟩
  have HGL := Lib.hid hgl
  obtain ⟨E, hE⟩ : ∃ E, E = w.heap.size := ⟨_, rfl⟩
  rw [← hE] at HS HS2 HEX b0 b1 b2 b3
  have HE := Lib.hid hE
  clear hW hown hq hEX hgl hE
  go_enter Tryz.func71, Tryz.ntmps71
  go_wp2
  rw [← HW.out, ← HE.out]
  go_region_held3 (fun w' => (w'.cell? ⟨g, m * 4, none⟩ = some (.int .i64 p.from_) ∧ w'.cell? ⟨g, m * 4 + 1, none⟩ = some (.int .i64 p.n) ∧ w'.cell? ⟨g, m * 4 + 2, none⟩ = some (.int .i64 p.kind) ∧ w'.cell? ⟨g, m * 4 + 3, none⟩ = some (.int .i64 p.at_) ∧ w'.cell? ⟨E, 0, none⟩ = some (.int .i64 e.from_) ∧ w'.cell? ⟨E, 1, none⟩ = some (.int .i64 e.n) ∧ w'.cell? ⟨E, 2, none⟩ = some (.int .i64 e.kind) ∧ w'.cell? ⟨E, 3, none⟩ = some (.int .i64 e.at_) ∧ Pq base g m cap E i p e w w')) (first | with_reducible exact HS.out | with_reducible exact HS2.out | with_reducible assumption | with_reducible exact pq_keep hm (by assumption) (below_box _ _) | with_reducible exact pq_keep2 _ _ _ _ hm (by assumption) HEX.out) ((go_at_call 102; refine (HJ.out _).mono ?_; rintro r w5 ⟨rfl, hb5⟩; have hS5 := pq_keep hm (by assumption) hb5; first | (have hx5 : Blk w5 W.heap.size 41 (c4 0 0 0 0) := (by with_reducible exact HX.out _ hb5); obtain ⟨⟨x0, x1, x2, x3⟩, y0, y1, y2, y3⟩ := cells4 hx5) | skip))
  · obtain ⟨W6, hW6⟩ : ∃ W6, W6 = w5.alloc (.cells #[.int .i64 q.from_, .int .i64 q.n, .int .i64 q.kind, .int .i64 q.at_] 41) := ⟨_, rfl⟩
    obtain ⟨X, hX⟩ : ∃ X, X = w5.heap.size := ⟨_, rfl⟩
    have PZ : Hid (Pz base g m cap E X i p e q w W6) := by
      show Pz _ _ _ _ _ _ _ _ _ _ _ _
      rw [hW6, hX]
      exact ⟨hS5.2.2.2.2.2.2.2.2.below (below_box _ _), Blk.new w5 _ _, ⟨hS5.2.2.2.2.2.2.2.2.blk.lt, Nat.ne_of_lt (hS5.2.2.2.2.2.2.2.2.own.lt g rfl).2⟩⟩
    rw [← hW6, ← hX]
    clear hW6 hX hS5 HS HS2 HX HEX a0 a1 a2 a3 f0 f1 f2 f3 b0 b1 b2 b3
    obtain ⟨⟨a0, a1, a2, a3⟩, ⟨f0, f1, f2, f3⟩⟩ := last_cells hm PZ.out.pq.own
    obtain ⟨⟨b0, b1, b2, b3⟩, _⟩ := cells4 PZ.out.pq.blk
    obtain ⟨⟨x0, x1, x2, x3⟩, _⟩ := cells4 PZ.out.var
    go_wp2_with (at_builtin; refine wpList_append_own _ rfl _ _ 61 rfl base 41 i0 (.agg #[.int .i64 0, .int .i64 0, .int .i64 0, .int .i64 0]) 4 32 Tryz.underlying61 hi hz0 hz1 hz2 rfl (by decide) _ _ _ rfl (PZ.out.pq.own.alloc _) ⟨W6.heap.size, 0, none⟩ 1 1 [.int .i64 e.from_, .int .i64 e.n, .int .i64 e.kind, .int .i64 e.at_] rfl rfl (new_cells _ _ _) (by intro u hu; simp at hu; rcases hu with rfl | rfl | rfl | rfl <;> rfl) (by unfold maxLen; omega) (by omega) (by have := PZ.out.pq.bel.size; rw [HE.out] at *; simp; omega) ?_)
    intro v' w8 hown8 hgrow _
    rw [exCells_snoc] at hown8
    have hb6 : Below base w W6 := PZ.out.pq.bel.mono (by rw [HE.out]; exact hb)
    have H8 := Lib.hid hown8
    have HB : Hid (Below base w w8) := Lib.hid ((hb6.alloc (by have := hb6.size; omega) _).grown hgrow (by have := hb6.size; simp; omega) (fun k hk => (PZ.out.pq.own.lt k hk).1))
    clear hown8 hgrow hb6
    go_wp2
    go_ret
    exact OwnEnd.of (by simp; omega) H8.out HB.out
  · obtain ⟨W6, hW6⟩ : ∃ W6, W6 = ((((w5.setCell ⟨W.heap.size, 0, none⟩ (.int .i64 q.from_)).setCell ⟨W.heap.size, 1, none⟩ (.int .i64 q.n)).setCell ⟨W.heap.size, 2, none⟩ (.int .i64 q.kind)).setCell ⟨W.heap.size, 3, none⟩ (.int .i64 q.at_)) := ⟨_, rfl⟩
    obtain ⟨X, hX⟩ : ∃ X, X = W.heap.size := ⟨_, rfl⟩
    have PZ : Hid (Pz base g m cap E X i p e q w W6) := by
      show Pz _ _ _ _ _ _ _ _ _ _ _ _
      rw [hW6, hX]
      exact ⟨hS5.2.2.2.2.2.2.2.2.far HEX.out.1 HEX.out.2 _ _ _ _, stored4 hx5 _ _ _ _, ⟨HEX.out.2, Nat.ne_of_lt HEX.out.1⟩⟩
    rw [← hW6, ← hX]
    clear hW6 hX hS5 HS HS2 HX HEX hx5 y0 y1 y2 y3 x0 x1 x2 x3 a0 a1 a2 a3 f0 f1 f2 f3 b0 b1 b2 b3
    obtain ⟨⟨a0, a1, a2, a3⟩, ⟨f0, f1, f2, f3⟩⟩ := last_cells hm PZ.out.pq.own
    obtain ⟨⟨b0, b1, b2, b3⟩, _⟩ := cells4 PZ.out.pq.blk
    obtain ⟨⟨x0, x1, x2, x3⟩, _⟩ := cells4 PZ.out.var
    go_wp2_with (at_builtin; refine wpList_append_own _ rfl _ _ 61 rfl base 41 i0 (.agg #[.int .i64 0, .int .i64 0, .int .i64 0, .int .i64 0]) 4 32 Tryz.underlying61 hi hz0 hz1 hz2 rfl (by decide) _ _ _ rfl (PZ.out.pq.own.alloc _) ⟨W6.heap.size, 0, none⟩ 1 1 [.int .i64 e.from_, .int .i64 e.n, .int .i64 e.kind, .int .i64 e.at_] rfl rfl (new_cells _ _ _) (by intro u hu; simp at hu; rcases hu with rfl | rfl | rfl | rfl <;> rfl) (by unfold maxLen; omega) (by omega) (by have := PZ.out.pq.bel.size; rw [HE.out] at *; simp; omega) ?_)
    intro v' w8 hown8 hgrow _
    rw [exCells_snoc] at hown8
    have hb6 : Below base w W6 := PZ.out.pq.bel.mono (by rw [HE.out]; exact hb)
    have H8 := Lib.hid hown8
    have HB : Hid (Below base w w8) := Lib.hid ((hb6.alloc (by have := hb6.size; omega) _).grown hgrow (by have := hb6.size; simp; omega) (fun k hk => (PZ.out.pq.own.lt k hk).1))
    clear hown8 hgrow hb6
    go_wp2
    go_ret
    exact OwnEnd.of (by simp; omega) H8.out HB.out
end EX
end Go.Proofs.YtdjlflinepefbabGreat
