/- What leaf.Under answers: under which kid a sector stands, of any kids. It ranges over slices.Backward: the iterator's contract, and the loop by the law for ranges over a function. No condition but those that each theorem names. -/
import Derived.RangeFuncNested
import Derived.RangeFuncBound
import Derived.RangeFuncCalls
import Derived.RangeFuncLeaves
import Derived.Shelf.Abstract
import Derived.Shelf.RegionOpen
import Derived.WalkKit
import Derived.OwnWalkIn
import Derived.TacticsInMore
import Derived.LoopNIn
import Derived.LoopIn
import Derived.Test.YtdjlflinepefbabGreatProg
import Derived.Test.YtdjlflinepefbabGreatQ06

namespace Go.Proofs.YtdjlflinepefbabGreat
open Go.RowKit Go.Shelf
namespace LF
open MM
set_option linter.unusedVariables false
set_option linter.unusedSimpArgs false
attribute [local go_sem] Oper.semAt_some

/-- Under which kid a sector stands, of the first n. -/
def und (L : List Kid) (s : Int) : Nat → Nat
  | 0 => 0
  | n + 1 => if (L.getD n default).key ≤ s then n else und L s n
/-- The rounds: from the last kid on, k of them. -/
def rnds (L : List Kid) (k : Nat) : List (Nat × Kid) := (List.range k).map fun j => (L.length - 1 - j, L.getD (L.length - 1 - j) default)
theorem rnds_succ (L : List Kid) (k : Nat) : rnds L (k + 1) = rnds L k ++ [(L.length - 1 - k, L.getD (L.length - 1 - k) default)] := by simp [rnds, List.range_succ]
theorem rnds_length (L : List Kid) (k : Nat) : (rnds L k).length = k := by simp [rnds]
/-- The first of them that is not above a sector. -/
def hit (s : Int) (l : List (Nat × Kid)) : Option (Nat × Kid) := l.find? fun p => decide (p.2.key ≤ s)
theorem hit_yes {s : Int} {pre : List (Nat × Kid)} {x : Nat × Kid} (h : hit s pre = none) (hx : x.2.key ≤ s) : hit s (pre ++ [x]) = some x := by
  unfold hit at *; rw [List.find?_append, h]; simp [hx]
theorem hit_no {s : Int} {pre : List (Nat × Kid)} {x : Nat × Kid} (h : hit s pre = none) (hx : ¬ x.2.key ≤ s) : hit s (pre ++ [x]) = none := by
  unfold hit at *; rw [List.find?_append, h]; simp [hx]
/-- What the rounds come to. -/
theorem hit_und (L : List Kid) (s : Int) : ∀ k, k ≤ L.length → (∀ i p, hit s (rnds L k) = some (i, p) → und L s L.length = i) ∧ (hit s (rnds L k) = none → und L s L.length = und L s (L.length - k)) := by
  intro k
  induction k with
  | zero => exact fun _ => ⟨fun i p h => by simp [hit, rnds] at h, fun _ => rfl⟩
  | succ k ih =>
    intro hk
    obtain ⟨h1, h2⟩ := ih (by omega)
    have e : L.length - k = (L.length - 1 - k) + 1 := by omega
    refine ⟨fun i p h => ?_, fun h => ?_⟩
    · rw [rnds_succ] at h
      cases hp : hit s (rnds L k) with
      | some y =>
        unfold hit at h hp
        rw [List.find?_append, hp] at h
        obtain rfl : y = (i, p) := by simpa using h
        exact h1 i p hp
      | none =>
        by_cases hx : (L.getD (L.length - 1 - k) default).key ≤ s
        · rw [hit_yes hp hx] at h
          have hi : L.length - 1 - k = i := by have := Option.some.inj h; exact congrArg Prod.fst this
          rw [h2 hp, e]
          unfold und
          rw [if_pos hx, hi]
        · rw [hit_no hp hx] at h; cases h
    · rw [rnds_succ] at h
      cases hp : hit s (rnds L k) with
      | some y =>
        unfold hit at h hp
        rw [List.find?_append, hp] at h; simp at h
      | none =>
        by_cases hx : (L.getD (L.length - 1 - k) default).key ≤ s
        · rw [hit_yes hp hx] at h; cases h
        · rw [h2 hp, e]
          show und L s ((L.length - 1 - k) + 1) = _
          rw [show L.length - (k + 1) = L.length - 1 - k from by omega]
          show (if (L.getD (L.length - 1 - k) default).key ≤ s then L.length - 1 - k else und L s (L.length - 1 - k)) = _
          rw [if_neg hx]

theorem blk_own (g : Nat) (t : TypeId) (cs : Array Value) : Own (fun (_ : Unit) W => Blk W g t cs) := fun s X Y row hs hg hrow =>
  Blk.grown hs hg (fun e' => by obtain ⟨o, ho, hc⟩ := hrow g e'.symm; rw [show X.heap[g]? = _ from hs] at ho; cases ho; cases hc)

abbrev kenc (x : Nat × Kid) : Array Value := #[.int .i64 (x.1 : Int), .agg #[.int .i64 x.2.key, .int .i64 x.2.at_]]
set_option maxRecDepth 100000 in
set_option maxHeartbeats 4000000 in
/-- slices.Backward's closure, for every loop body that keeps what lay below n₀. -/
theorem back1_in (n : Nat) (hn : 1 ≤ n) (l Bs n₀ b off len cap : Nat) (L : List Kid) (hl : len = L.length) (hreach : len ≤ 1000000000) (hb : b < n₀) (J Jx : List (Nat × Kid) → World → Prop)
    (hY : ∀ pre x W, J pre W → pre.length < len → YieldAt Fence.wide (n - 1) Tryz.prog l (kenc x) W fun e W' =>
      (e = .returned (.bool true) ∧ J (pre ++ [x]) W' ∧ Below n₀ W W') ∨ (e = .returned (.bool false) ∧ Jx (pre ++ [x]) W'))
    (W : World) (hBs : W.cell? ⟨Bs, 0, none⟩ = some (.slice (some ⟨b, off, none⟩) len cap)) (hBn : Bs < n₀) (hc : ∀ j e, L[j]? = some e → Cells2 W b (off + j * 2) e) (h0 : J [] W) :
    CallsIn Fence.wide n Tryz.prog 192 #[.func (.yield l) #[] #[], .pointer (some ⟨Bs, 0, none⟩)] W fun e W' => (∃ v, e = .returned v) ∧
      ((∃ ys, ys = rnds L len ∧ J ys W') ∨ (∃ pre, (∃ k, k ≤ len ∧ pre = rnds L k) ∧ Jx pre W')) := by
  have e0 : IntKind.i64.wrap ((len : Int) - 1) = (len : Int) - 1 := IntWalk.i64_in _ (by omega)
  have HL := Lib.hid hl
  clear hl
  refine callsIn_of_wp Tryz.func192 rfl trivial ?_ rfl
  simp only [Tryz.ntmps192, List.size_toArray, List.length_cons, List.length_nil, Nat.reduceAdd, Nat.reduceSub, Array.replicate_succ, Array.replicate_zero, List.push_toArray, List.append_toArray, List.nil_append, List.cons_append]
  gi_wp2
  gi_loopw [3] (fun i wr => ∃ k : Nat, k ≤ len ∧ i = .int .i64 ((len : Int) - 1 - k) ∧ J (rnds L k) wr ∧ Below n₀ W wr)
    (fun i _ => (intOf i + 1).toNat)
  case atStart => exact ⟨0, Nat.zero_le _, by simp, h0, Below.refl _ _⟩
  case round =>
    obtain ⟨k, hk, rfl, hJs, hnx⟩ := hrel
    by_cases hlt : k < len
    · obtain ⟨i, hi⟩ : ∃ i : Nat, i = len - 1 - k := ⟨_, rfl⟩
      have hii : (len : Int) - 1 - k = (i : Int) := by omega
      have hl := HL.out
      obtain ⟨e, he⟩ : ∃ e, L[i]? = some e := ⟨_, List.getElem?_eq_getElem (by omega)⟩
      have hge : L.getD i default = e := by rw [List.getD_eq_getElem?_getD, he]; rfl
      obtain ⟨q0, q1⟩ := (hc i e he).kept hnx hb
      have hcs := (hnx.cell (p := ⟨Bs, 0, none⟩) hBn).trans hBs
      obtain ⟨fn, tmps, assign, body, hy, hR⟩ := hY _ (i, e) wr hJs (by rw [rnds_length]; exact hlt)
      dsimp only [kenc] at hy
      have HR : Hid (rnds L k ++ [(i, e)] = rnds L (k + 1)) := Lib.hid (by rw [rnds_succ, ← hl, ← hi, hge])
      have t1 : (i : Int) < (len : Int) := by omega
      have t2 : (0 : Int) ≤ (i : Int) := by omega
      have e1 : IntKind.i64.wrap ((i : Int) - 1) = (i : Int) - 1 := IntWalk.i64_in _ (by omega)
      have HI := Lib.hid hi
      have HII := Lib.hid hii
      rw [hii]
      clear hi hii hl he hge
      gi_wp2
      refine hR.mono ?_
      rintro e W3 (⟨rfl, hJ3, hk3⟩ | ⟨rfl, hJx3⟩)
      · rw [HR.out] at hJ3
        gi_wp2
        go_roundw
        case rel => exact ⟨k + 1, by omega, congrArg (Value.int .i64) (by have := HII.out; omega), hJ3, hnx.trans hk3⟩
        case measure => have := HII.out; simp [intOf]
      · rw [HR.out] at hJx3
        gi_wp2
        refine bodyPost_ret (results_none rfl _ _ _) rfl ?_
        exact ⟨⟨_, rfl⟩, .inr ⟨_, ⟨k + 1, by omega, rfl⟩, hJx3⟩⟩
    · obtain rfl : k = len := by omega
      have t3 : ¬ (0 : Int) ≤ (k : Int) - 1 - (k : Int) := by omega
      gi_wp2
      go_end0
      exact ⟨⟨_, rfl⟩, .inl hJs⟩

set_option maxRecDepth 100000 in
set_option maxHeartbeats 1000000 in
/-- .. of a slice that has none: no round. -/
theorem back0_in (n : Nat) (l Bs : Nat) (a : Option Addr) (cap : Nat) (J : List (Nat × Kid) → World → Prop) (W : World) (hBs : W.cell? ⟨Bs, 0, none⟩ = some (.slice a 0 cap)) (h0 : J [] W) :
    CallsIn Fence.wide n Tryz.prog 192 #[.func (.yield l) #[] #[], .pointer (some ⟨Bs, 0, none⟩)] W fun e W' => (∃ v, e = .returned v) ∧ J [] W' := by
  refine callsIn_of_wp Tryz.func192 rfl trivial ?_ rfl
  simp only [Tryz.ntmps192, List.size_toArray, List.length_cons, List.length_nil, Nat.reduceAdd, Nat.reduceSub, Array.replicate_succ, Array.replicate_zero, List.push_toArray, List.append_toArray, List.nil_append, List.cons_append]
  gi_wp2
  gi_loopw [3] (fun i wr => i = .int .i64 (-1) ∧ J [] wr) (fun _ _ => 0)
  case atStart => exact ⟨rfl, h0⟩
  case round =>
    obtain ⟨rfl, hJs⟩ := hrel
    gi_wp2
    go_end0
    exact ⟨⟨_, rfl⟩, hJs⟩
set_option maxHeartbeats 1000000 in
/-- slices.Backward: the slice is boxed, the function that it hands back has the box. -/
theorem backward_in (n : Nat) (a : Option Addr) (len cap : Nat) (w : World) :
    CallsIn Fence.wide n Tryz.prog 173 #[.slice a len cap] w fun e w' => e = .returned (.func (.func 192) #[] #[.pointer (some ⟨w.heap.size, 0, none⟩)]) ∧ w' = w.alloc (.cells #[.slice a len cap] 187) := by
  refine callsIn_of_wp Tryz.func173 rfl trivial ?_ rfl
  simp only [Tryz.ntmps173, List.size_toArray, List.length_cons, List.length_nil, Nat.reduceAdd, Nat.reduceSub, Array.replicate_succ, Array.replicate_zero, List.push_toArray, List.append_toArray, List.nil_append, List.cons_append]
  gi_wp2
  go_ret
  exact ⟨rfl, rfl⟩
theorem back_stops (n : Nat) (hn : 1 ≤ n) (Bs n₀ : Nat) (a : Option Addr) (len cap : Nat) (L : List Kid) (hl : len = L.length) (hreach : len ≤ 1000000000) (w : World) (hBs : Bs < w.heap.size) (hBn : Bs < n₀) (hn₀ : n₀ ≤ w.heap.size)
    (hc : w.cell? ⟨Bs, 0, none⟩ = some (.slice a len cap)) (hI : L = [] ∨ ∃ b off, a = some ⟨b, off, none⟩ ∧ b < n₀ ∧ ∀ j e, L[j]? = some e → Cells2 w b (off + j * 2) e) :
    SeqStopsK Fence.wide n Tryz.prog 192 #[.pointer (some ⟨Bs, 0, none⟩)] kenc (Below n₀) (fun ys => ys = rnds L len) (fun pre => ∃ k, k ≤ len ∧ pre = rnds L k) len w := fun l J Jx W hW _ _ hY h0 => by
  have hc' := (hW.cell (p := ⟨Bs, 0, none⟩) hBs).trans hc
  rcases hI with rfl | ⟨b, off, rfl, hb, hcs⟩
  · obtain rfl : len = 0 := hl
    exact (back0_in n l Bs a cap J W hc' h0).mono fun e W' ⟨he, hj⟩ => ⟨he, .inl ⟨_, rfl, hj⟩⟩
  · exact back1_in n hn l Bs n₀ b off len cap L hl hreach hb J Jx hY W hc' hBn (fun j e he => (hcs j e he).kept (hW.mono hn₀) hb) h0

/-- The index of the first that is not above a sector. -/
def ix (s : Int) (pre : List (Nat × Kid)) : Nat := ((hit s pre).map (·.1)).getD 0
set_option maxRecDepth 100000 in
set_option maxHeartbeats 4000000 in
theorem under_in (n : Nat) (hn : 6 ≤ n) (L : List Kid) (len cap : Nat) (hlen : len = L.length) (hm : len ≤ 1000000000) (a : Option Addr) (s : Int) (w : World) (hr : Kds w a L) :
    CallsIn Fence.wide n Tryz.prog 127 #[.slice a len cap, .int .i64 s] w fun e W' => e = .returned (.int .i64 (und L s len : Nat)) ∧ Below w.heap.size w W' := by
  have h1 : 1 ≤ n := by omega
  have HL := Lib.hid hlen
  clear hlen
  refine callsIn_of_wp_marks Tryz.func127 rfl trivial ?_ rfl
  simp only [Tryz.ntmps127, List.size_toArray, List.length_cons, List.length_nil, Nat.reduceAdd, Nat.reduceSub, Array.replicate_succ, Array.replicate_zero, List.push_toArray, List.append_toArray, List.nil_append, List.cons_append]
  gi_wp2_with (refine ⟨trivial, ?_⟩; gi_at_call 173; refine (backward_in (n - 1) _ _ _ _).mono ?_; rintro e w' ⟨rfl, rfl⟩)
  have bS := ((Boxed.new w 3 (.int .i64 s)).alloc (.cells #[.int .i64 0] 3)).alloc (.cells #[.slice a len cap] 187)
  have bR := (Boxed.new (w.alloc (.cells #[.int .i64 s] 3)) 3 (.int .i64 0)).alloc (.cells #[.slice a len cap] 187)
  have bA := Boxed.new ((w.alloc (.cells #[.int .i64 s] 3)).alloc (.cells #[.int .i64 0] 3)) 187 (.slice a len cap)
  simp only [World.size_alloc] at bR bA
  have hB0 : Below w.heap.size w (((w.alloc (.cells #[.int .i64 s] 3)).alloc (.cells #[.int .i64 0] 3)).alloc (.cells #[.slice a len cap] 187)) := (((Below.refl _ w).alloc (Nat.le_refl _) _).alloc (by simp) _).alloc (by simp; omega) _
  have hsz : (((w.alloc (.cells #[.int .i64 s] 3)).alloc (.cells #[.int .i64 0] 3)).alloc (.cells #[.slice a len cap] 187)).heap.size = w.heap.size + 3 := by simp
  obtain ⟨W0, hW0⟩ : ∃ W0, ((w.alloc (.cells #[.int .i64 s] 3)).alloc (.cells #[.int .i64 0] 3)).alloc (.cells #[.slice a len cap] 187) = W0 := ⟨_, rfl⟩
  rw [hW0] at bS bR bA hB0 hsz ⊢
  clear hW0
  have hKds : L = [] ∨ ∃ b off, a = some ⟨b, off, none⟩ ∧ b < W0.heap.size ∧ ∀ j e, L[j]? = some e → Cells2 W0 b (off + j * 2) e := by
    rcases hr.below hB0 with h | ⟨b, off, h1, h2, h3⟩
    · exact .inl h
    · exact .inr ⟨b, off, h1, h2, h3⟩
  refine wpIn_rangeFunc_ownH rfl h1 (gf := 192) (lb := #[.pointer (some ⟨w.heap.size + 1 + 1, 0, none⟩)]) rfl trivial (enters_of Tryz.func192 (by kernel_rfl) rfl)
    (back_stops (n - 1) (by omega) (w.heap.size + 1 + 1) W0.heap.size a len cap L HL.out hm W0 (by omega) (by omega) (Nat.le_refl _) bA.cell hKds) belowK_t (belowK_b (Nat.le_refl _)) (Below.refl _ _) (fun _ => rfl)
    (fun pre W => (hit s pre = none ∧ Boxed W w.heap.size 3 (.int .i64 s) ∧ Boxed W (w.heap.size + 1) 3 (.int .i64 0) ∧ Boxed W (w.heap.size + 1 + 1) 187 (.slice a len cap)) ∧ Below w.heap.size w W)
    (fun c pre W => ((c = .ret ∧ ∃ p, hit s pre = some p) ∧ Boxed W (w.heap.size + 1) 3 (.int .i64 (ix s pre : Nat))) ∧ Below w.heap.size w W)
    (OwnFrom.and (OwnFrom.and (ownFrom_pure _ _) (OwnFrom.and (Own.from (boxed_own _ _ _) _) (OwnFrom.and (Own.from (boxed_own _ _ _) _) (Own.from (boxed_own _ _ _) _)))) (ownFrom_below (Nat.le_refl _) (by omega)))
    (fun c => OwnFrom.and (OwnFrom.and (ownFrom_pure _ _) (Own.from (boxed_own _ _ _) _)) (ownFrom_below (Nat.le_refl _) (by omega)))
    ⟨⟨rfl, bS, bR, bA⟩, hB0⟩
    (fun x a' W => ∃ Bx, w.heap.size + 1 < Bx ∧ Blk W Bx 191 #[.int .i64 x.2.key, .int .i64 x.2.at_] ∧ a' = { tmps := #[.slice a len cap, .int .i64 s, undef, .pointer (some ⟨w.heap.size, 0, none⟩), .pointer (some ⟨w.heap.size + 1, 0, none⟩), .int .i64 (x.1 : Int), .pointer (some ⟨Bx, 0, none⟩), .slice a len cap, .func (.func 192) #[] #[.pointer (some ⟨w.heap.size + 1 + 1, 0, none⟩)], .int .i64 (x.1 : Int), .agg #[.int .i64 x.2.key, .int .i64 x.2.at_], undef, undef, undef, undef, undef], defers := [] })
    (fun x a' _ X Y row hs hg hr => by obtain ⟨Bx, h1, h2, h3⟩ := hs; exact ⟨Bx, h1, blk_own Bx _ _ () X Y row h2 hg (fun r e => (hr r e).2), h3⟩)
    ?assign ?body ?done ?stop
  case assign =>
    rintro l pre x W K ⟨⟨hn0, bS1, bR1, bA1⟩, hB1⟩ hK
    have hlt := bA1.lt
    gi_wp2
    exact hK _ _ ((KeepsOthers.alloc _ _).from _) ((Below.refl _ W).alloc (by omega) _) ⟨⟨hn0, bS1.alloc _, bR1.alloc _, bA1.alloc _⟩, hB1.alloc hB1.size _⟩ ⟨W.heap.size, by omega, Blk.new W _ _, rfl⟩
  case body =>
    rintro l pre x a' W hl ⟨r, hr⟩ ⟨⟨hn0, bS1, bR1, bA1⟩, hB1⟩ ⟨Bx, hBx, bX, rfl⟩ hlt
    have cX0 := bX.cell 0
    have cX0' : W.cell? ⟨Bx, 0, none⟩ = some (.int .i64 x.2.key) := cX0
    have cS := bS1.cell
    have cR := bR1.cell
    have fR := bR1.frozen
    clear cX0
    by_cases hx : x.2.key ≤ s
    · have e : ix s (pre ++ [x]) = x.1 := by unfold ix; rw [hit_yes hn0 hx]; rfl
      have HE := Lib.hid e
      clear e
      gi_wp2
      exact ⟨(KeepsOthers.setCell _ _ _).from _, ⟨⟨rfl, x, hit_yes hn0 hx⟩, by rw [HE.out]; exact bR1.set _⟩, hB1.setCell (p := ⟨w.heap.size + 1, 0, none⟩) (Nat.le_succ _) _⟩
    · have hx' : decide (x.2.key ≤ s) = false := decide_eq_false hx
      gi_wp2
      exact ⟨KeepsFrom.refl _ _, Below.refl _ _, ⟨hit_no hn0 (by omega), bS1, bR1, bA1⟩, hB1⟩
  case done =>
    rintro D zs W hD rfl ⟨⟨hn0, bS1, bR1, bA1⟩, hB1⟩ hK
    have cR := bR1.cell
    have fR := bR1.frozen
    have HU : Hid (und L s len = 0) := Lib.hid (by
      have := (hit_und L s len (by rw [HL.out]; exact Nat.le_refl _)).2 hn0
      rw [HL.out, this, HL.out, Nat.sub_self]; rfl)
    gi_wp2
    have hK' := (KeepsOthers.setCell W ⟨w.heap.size + 1, 0, none⟩ (.int .i64 0)).same D _ hK rfl
    refine ⟨by simp, .inl ⟨_, _, rfl, run_takeDeferred hK', ?_⟩⟩
    have hc5 := cell_kept (World.cell?_setCell_same' W ⟨w.heap.size + 1, 0, none⟩ (.int .i64 0) (by rw [cR]; rfl)) (grownBy_putObj' _ D (.deferred none)) (fun r e => by cases e; exact ⟨_, hK', rfl⟩)
    refine ⟨.int .i64 0, ?_, by rw [HU.out]; rfl, (hB1.setCell (p := ⟨w.heap.size + 1, 0, none⟩) (Nat.le_succ _) _).trans (belowK_b (w := w) (Nat.le_refl _) _ D _ _ (by omega) hK' rfl rfl)⟩
    simp [results, Tryz.f127, go_sem, hc5]
  case stop =>
    rintro D c pre W hD ⟨k, hk, rfl⟩ ⟨⟨⟨rfl, p, hp⟩, bR1⟩, hB1⟩ hK
    have HU : Hid (und L s len = ix s (rnds L k)) := Lib.hid (by
      obtain ⟨i, q⟩ := p
      have := (hit_und L s k (by rw [← HL.out]; exact hk)).1 i q hp
      rw [HL.out, this]; unfold ix; rw [hp]; rfl)
    have cR := bR1.cell
    gi_wp2
    refine ⟨by simp, .inl ⟨_, _, rfl, run_takeDeferred hK, ?_⟩⟩
    have hc5 := cell_kept cR (grownBy_putObj' _ D (.deferred none)) (fun r e => by cases e; exact ⟨_, hK, rfl⟩)
    refine ⟨.int .i64 (ix s (rnds L k) : Nat), ?_, by rw [HU.out], hB1.trans (belowK_b (w := w) (Nat.le_refl _) W D _ _ (by omega) hK rfl rfl)⟩
    simp [results, Tryz.f127, go_sem, hc5]
theorem under_any (L : List Kid) (len cap : Nat) (hlen : len = L.length) (hm : len ≤ 1000000000) (a : Option Addr) (s : Int) (w : World) (hr : Kds w a L) :
    Calls Tryz.prog 127 #[.slice a len cap, .int .i64 s] w fun e W' => e = .returned (.int .i64 (und L s len : Nat)) ∧ Below w.heap.size w W' :=
  callsIn_wide.1 (under_in 6 (Nat.le_refl _) L len cap hlen hm a s w hr)
end LF
end Go.Proofs.YtdjlflinepefbabGreat
