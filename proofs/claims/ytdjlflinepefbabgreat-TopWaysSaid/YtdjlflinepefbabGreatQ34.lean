/- 2 texts laid together: each says at its head what it proves. No condition but those that each theorem names. -/
import Derived.Test.YtdjlflinepefbabGreatProg
import Derived.Test.YtdjlflinepefbabGreatQ33
import Derived.WalkKit

/- How an array of pages lies in memory, and what keeps it there. No condition. -/
namespace Go.Proofs.YtdjlflinepefbabGreat
namespace ND
open Go.RowKit MM
set_option linter.unusedVariables false
set_option linter.unusedSimpArgs false

/-- Only blocks that meet S were turned; of what was there. -/
structure Mod (S : Nat → Prop) (a w : World) : Prop where
  os : w.os = a.os
  tape : w.tape = a.tape
  output : w.output = a.output
  size : a.heap.size ≤ w.heap.size
  block : ∀ k, k < a.heap.size → ¬ S k → w.heap[k]? = a.heap[k]?
theorem Mod.refl (S : Nat → Prop) (w : World) : Mod S w w := ⟨rfl, rfl, rfl, Nat.le_refl _, fun _ _ _ => rfl⟩
theorem Mod.trans {S : Nat → Prop} {a b c : World} (h : Mod S a b) (k : Mod S b c) : Mod S a c :=
  ⟨k.os.trans h.os, k.tape.trans h.tape, k.output.trans h.output, Nat.le_trans h.size k.size, fun i hi hs => (k.block i (Nat.lt_of_lt_of_le hi h.size) hs).trans (h.block i hi hs)⟩
theorem Mod.mono {S S' : Nat → Prop} {a w : World} (h : Mod S a w) (hS : ∀ k, k < a.heap.size → S k → S' k) : Mod S' a w := ⟨h.os, h.tape, h.output, h.size, fun k hk hs => h.block k hk fun e => hs (hS k hk e)⟩
theorem Mod.of_below {S : Nat → Prop} {a w : World} (h : Below a.heap.size a w) : Mod S a w := ⟨h.os, h.tape, h.output, h.size, fun k hk _ => h.block k hk⟩
theorem Mod.below {S : Nat → Prop} {B : Nat} {a w : World} (h : Mod S a w) (hB : B ≤ a.heap.size) (hS : ∀ k, S k → B ≤ k) : Below B a w :=
  ⟨h.os, h.tape, h.output, h.size, fun k hk => h.block k (Nat.lt_of_lt_of_le hk hB) fun e => absurd (hS k e) (by omega)⟩
theorem Mod.setCell {S : Nat → Prop} {a w : World} (h : Mod S a w) {p : Addr} (hp : S p.block) (u : Value) : Mod S a (w.setCell p u) :=
  ⟨h.os, h.tape, h.output, by simp [World.setCell]; exact h.size, fun k hk hs => (Below.heap_setCell w p u k (fun e => hs (e ▸ hp))).trans (h.block k hk hs)⟩
theorem Mod.alloc {S : Nat → Prop} {a w : World} (h : Mod S a w) (o : Obj) : Mod S a (w.alloc o) := h.trans (Mod.of_below ((Below.refl _ _).alloc (Nat.le_refl _) o))
theorem Mod.grown {S : Nat → Prop} {a w w' : World} (h : Mod S a w) {b : Nat} (hg : w.grownBy w' (some b)) (hb : S b) : Mod S a w' :=
  h.trans ⟨hg.os, hg.tape, hg.output, hg.size, fun k hk hs => hg.block k hk fun e => hs (by injection e with e; exact e ▸ hb)⟩
theorem Mod.drew {S : Nat → Prop} {a w : World} (h : Mod S a w) : Mod S a w.drew := ⟨h.os, h.tape, h.output, h.size, h.block⟩

def misV (m : Mis) : Value := .agg #[.int .i64 m.at_, .int .i64 m.kind, .int .i64 m.keep, .string m.junk]
/-- The plan in memory: nil, or a map. -/
def PlanAt (w : World) (v : Value) (f : Int → Option Mis) : Prop :=
  (v = .map none ∧ f = fun _ => none) ∨ ∃ b n, v = .map (some b) ∧ MapAt Tryz.prog 3 w b n fun k => (f k).map misV

/-- Where an array lies: its own block, its pages', its blocks', its plan. -/
structure Ref where
  pb : Nat
  gp : Nat
  gb : Nat
  pv : Value

/-- Its blocks. -/
def Ref.has (r : Ref) (k : Nat) : Prop := k = r.pb ∨ k = r.gp ∨ k = r.gb ∨ r.pv = .map (some k)

def cellsOf (r : Ref) (d : Nd) : Array Value := #[.int .i64 d.B, .int .i64 d.P, .slice (some ⟨r.gp, 0, none⟩) (d.B * d.P) (d.B * d.P), .slice (some ⟨r.gb, 0, none⟩) d.B d.B, .int .i64 d.ops, r.pv, .int .i64 d.laid, .bool d.down]
def PagesAt (w : World) (g : Nat) (n : Nat) (txt : Nat → ByteArray) : Prop :=
  ∃ ps, Blk w g 9 ps ∧ ps.size = n ∧ ∀ i, i < n → ps[i]? = some (.string (txt i))
def BlocksAt (w : World) (g : Nat) (n : Nat) (next worn : Nat → Nat) (bad : Nat → Bool) : Prop :=
  ∃ bs, Blk w g 229 bs ∧ bs.size = n * 3 ∧ ∀ i, i < n → bs[i * 3]? = some (.int .i64 (next i)) ∧ bs[i * 3 + 1]? = some (.int .i64 (worn i)) ∧ bs[i * 3 + 2]? = some (.bool (bad i))
/-- The array d lies there. -/
structure NandAt (w : World) (r : Ref) (d : Nd) : Prop where
  own : Blk w r.pb 170 (cellsOf r d)
  pages : PagesAt w r.gp (d.B * d.P) d.txt
  blocks : BlocksAt w r.gb d.B d.next d.worn d.bad
  plan : PlanAt w r.pv d.plan

section
variable {w w' : World} {r : Ref} {d : Nd}
theorem PagesAt.block {g n : Nat} {txt : Nat → ByteArray} (h : PagesAt w g n txt) (hb : w'.heap[g]? = w.heap[g]?) : PagesAt w' g n txt := by
  obtain ⟨ps, h1, h2⟩ := h
  exact ⟨ps, hb.trans h1, h2⟩
theorem PagesAt.lt {g n : Nat} {txt : Nat → ByteArray} (h : PagesAt w g n txt) : g < w.heap.size := by obtain ⟨ps, h1, h2⟩ := h; exact h1.lt
theorem BlocksAt.block {g n : Nat} {a b : Nat → Nat} {c : Nat → Bool} (h : BlocksAt w g n a b c) (hb : w'.heap[g]? = w.heap[g]?) : BlocksAt w' g n a b c := by
  obtain ⟨ps, h1, h2⟩ := h
  exact ⟨ps, hb.trans h1, h2⟩
theorem BlocksAt.lt {g n : Nat} {a b : Nat → Nat} {c : Nat → Bool} (h : BlocksAt w g n a b c) : g < w.heap.size := by obtain ⟨ps, h1, h2⟩ := h; exact h1.lt
theorem PlanAt.block {v : Value} {f : Int → Option Mis} (h : PlanAt w v f) (hb : ∀ b, v = .map (some b) → w'.heap[b]? = w.heap[b]?) : PlanAt w' v f := by
  rcases h with h | ⟨b, n, rfl, hm⟩
  · exact .inl h
  · exact .inr ⟨b, n, rfl, hm.block (hb b rfl)⟩
theorem PlanAt.lt {f : Int → Option Mis} {b : Nat} (h : PlanAt w (.map (some b)) f) : b < w.heap.size := by
  rcases h with ⟨h, _⟩ | ⟨b', n, h, hm⟩
  · cases h
  · cases h; exact hm.lt
theorem PagesAt.cell {g n : Nat} {txt : Nat → ByteArray} (h : PagesAt w g n txt) {i : Nat} (hi : i < n) : w.cell? ⟨g, i, none⟩ = some (.string (txt i)) := by
  obtain ⟨ps, h1, h2, h3⟩ := h
  rw [h1.cell]; exact h3 i hi
theorem PagesAt.frozen {g n : Nat} {txt : Nat → ByteArray} (h : PagesAt w g n txt) (i : Nat) : w.frozen? ⟨g, i, none⟩ = false := by
  obtain ⟨ps, h1, h2, h3⟩ := h
  exact h1.frozen i
theorem BlocksAt.frozen {g n : Nat} {a b : Nat → Nat} {c : Nat → Bool} (h : BlocksAt w g n a b c) (i : Nat) : w.frozen? ⟨g, i, none⟩ = false := by
  obtain ⟨ps, h1, h2, h3⟩ := h
  exact h1.frozen i
theorem BlocksAt.cell {g n : Nat} {a b : Nat → Nat} {c : Nat → Bool} (h : BlocksAt w g n a b c) {i : Nat} (hi : i < n) :
    w.cell? ⟨g, i * 3, none⟩ = some (.int .i64 (a i)) ∧ w.cell? ⟨g, i * 3 + 1, none⟩ = some (.int .i64 (b i)) ∧ w.cell? ⟨g, i * 3 + 2, none⟩ = some (.bool (c i)) := by
  obtain ⟨ps, h1, h2, h3⟩ := h
  rw [h1.cell, h1.cell, h1.cell]; exact h3 i hi
theorem PagesAt.set {g n : Nat} {txt : Nat → ByteArray} (h : PagesAt w g n txt) (i : Nat) (s : ByteArray) : PagesAt (w.setCell ⟨g, i, none⟩ (.string s)) g n (put txt i s) := by
  obtain ⟨ps, h1, h2, h3⟩ := h
  refine ⟨_, h1.set_ i _, by simpa using h2, fun j hj => ?_⟩
  rw [Array.getElem?_setIfInBounds]
  unfold put
  by_cases hij : i = j
  · subst hij
    rw [if_pos rfl, if_pos rfl, if_pos (by omega)]
  · rw [if_neg hij, if_neg (Ne.symm hij)]
    exact h3 j hj
theorem BlocksAt.set0 {g n : Nat} {a b : Nat → Nat} {c : Nat → Bool} (h : BlocksAt w g n a b c) (i v : Nat) : BlocksAt (w.setCell ⟨g, i * 3, none⟩ (.int .i64 v)) g n (put a i v) b c := by
  obtain ⟨ps, h1, h2, h3⟩ := h
  refine ⟨_, h1.set_ _ _, by simpa using h2, fun j hj => ?_⟩
  rw [Array.getElem?_setIfInBounds, Array.getElem?_setIfInBounds, Array.getElem?_setIfInBounds, if_neg (show ¬ i * 3 = j * 3 + 1 by omega), if_neg (show ¬ i * 3 = j * 3 + 2 by omega)]
  refine ⟨?_, (h3 j hj).2⟩
  unfold put
  by_cases hij : i = j
  · subst hij
    rw [if_pos rfl, if_pos rfl, if_pos (by omega)]
  · rw [if_neg (by omega), if_neg (Ne.symm hij)]
    exact (h3 j hj).1
theorem BlocksAt.set1 {g n : Nat} {a b : Nat → Nat} {c : Nat → Bool} (h : BlocksAt w g n a b c) (i v : Nat) : BlocksAt (w.setCell ⟨g, i * 3 + 1, none⟩ (.int .i64 v)) g n a (put b i v) c := by
  obtain ⟨ps, h1, h2, h3⟩ := h
  refine ⟨_, h1.set_ _ _, by simpa using h2, fun j hj => ?_⟩
  rw [Array.getElem?_setIfInBounds, Array.getElem?_setIfInBounds, Array.getElem?_setIfInBounds, if_neg (show ¬ i * 3 + 1 = j * 3 by omega), if_neg (show ¬ i * 3 + 1 = j * 3 + 2 by omega)]
  refine ⟨(h3 j hj).1, ?_, (h3 j hj).2.2⟩
  unfold put
  by_cases hij : i = j
  · subst hij
    rw [if_pos rfl, if_pos rfl, if_pos (by omega)]
  · rw [if_neg (by omega), if_neg (Ne.symm hij)]
    exact (h3 j hj).2.1
theorem BlocksAt.set2 {g n : Nat} {a b : Nat → Nat} {c : Nat → Bool} (h : BlocksAt w g n a b c) (i : Nat) (v : Bool) : BlocksAt (w.setCell ⟨g, i * 3 + 2, none⟩ (.bool v)) g n a b (put c i v) := by
  obtain ⟨ps, h1, h2, h3⟩ := h
  refine ⟨_, h1.set_ _ _, by simpa using h2, fun j hj => ?_⟩
  rw [Array.getElem?_setIfInBounds, Array.getElem?_setIfInBounds, Array.getElem?_setIfInBounds, if_neg (show ¬ i * 3 + 2 = j * 3 by omega), if_neg (show ¬ i * 3 + 2 = j * 3 + 1 by omega)]
  refine ⟨(h3 j hj).1, (h3 j hj).2.1, ?_⟩
  unfold put
  by_cases hij : i = j
  · subst hij
    rw [if_pos rfl, if_pos rfl, if_pos (by omega)]
  · rw [if_neg (by omega), if_neg (Ne.symm hij)]
    exact (h3 j hj).2.2

theorem NandAt.kept (h : NandAt w r d) (hb : ∀ k, r.has k → w'.heap[k]? = w.heap[k]?) : NandAt w' r d :=
  ⟨(hb _ (.inl rfl)).trans h.own, h.pages.block (hb _ (.inr (.inl rfl))), h.blocks.block (hb _ (.inr (.inr (.inl rfl)))), h.plan.block fun b hv => hb b (.inr (.inr (.inr hv)))⟩
theorem NandAt.lt (h : NandAt w r d) {k : Nat} (hk : r.has k) : k < w.heap.size := by
  rcases hk with rfl | rfl | rfl | hk
  · exact h.own.lt
  · exact h.pages.lt
  · exact h.blocks.lt
  · have := h.plan; rw [hk] at this; exact this.lt
theorem NandAt.mod {S : Nat → Prop} (h : NandAt w r d) (hb : Mod S w w') (hS : ∀ k, r.has k → ¬ S k) : NandAt w' r d := h.kept fun k hk => hb.block k (h.lt hk) (hS k hk)
theorem NandAt.below (h : NandAt w r d) (hb : Below w.heap.size w w') : NandAt w' r d := h.kept fun k hk => hb.block k (h.lt hk)
theorem NandAt.drew (h : NandAt w r d) : NandAt w.drew r d := h.kept fun k hk => rfl
/-- The array's own cells. -/
theorem NandAt.cells (h : NandAt w r d) : w.cell? ⟨r.pb, 0, none⟩ = some (.int .i64 d.B) ∧ w.cell? ⟨r.pb, 1, none⟩ = some (.int .i64 d.P) ∧ w.cell? ⟨r.pb, 2, none⟩ = some (.slice (some ⟨r.gp, 0, none⟩) (d.B * d.P) (d.B * d.P)) ∧ w.cell? ⟨r.pb, 3, none⟩ = some (.slice (some ⟨r.gb, 0, none⟩) d.B d.B) ∧
    w.cell? ⟨r.pb, 4, none⟩ = some (.int .i64 d.ops) ∧ w.cell? ⟨r.pb, 5, none⟩ = some r.pv ∧ w.cell? ⟨r.pb, 6, none⟩ = some (.int .i64 d.laid) ∧ w.cell? ⟨r.pb, 7, none⟩ = some (.bool d.down) := by
  have := h.own
  rw [this.cell, this.cell, this.cell, this.cell, this.cell, this.cell, this.cell, this.cell]
  exact ⟨rfl, rfl, rfl, rfl, rfl, rfl, rfl, rfl⟩
theorem NandAt.fz (h : NandAt w r d) (i : Nat) : w.frozen? ⟨r.pb, i, none⟩ = false := h.own.frozen i
theorem ne_of_blk {g g' : Nat} {t t' : TypeId} {cs cs' : Array Value} (h : Blk w g t cs) (h' : Blk w g' t' cs') (ht : t ≠ t') : g ≠ g' := by
  rintro rfl
  unfold Blk at h h'
  rw [h] at h'
  injection h' with h'
  injection h' with _ h' _
  exact ht h'
theorem NandAt.ne1 (h : NandAt w r d) : r.pb ≠ r.gp := by obtain ⟨ps, h1, _⟩ := h.pages; exact ne_of_blk h.own h1 (by decide)
theorem NandAt.ne2 (h : NandAt w r d) : r.pb ≠ r.gb := by obtain ⟨ps, h1, _⟩ := h.blocks; exact ne_of_blk h.own h1 (by decide)
theorem NandAt.ne3 (h : NandAt w r d) : r.gp ≠ r.gb := by obtain ⟨ps, h1, _⟩ := h.pages; obtain ⟨bs, h2, _⟩ := h.blocks; exact ne_of_blk h1 h2 (by decide)
theorem PlanAt.ne {v : Value} {f : Int → Option Mis} (h : PlanAt w v f) {q : Nat} {T : TypeId} {cs : Array Value} (hq : Blk w q T cs) : v ≠ .map (some q) := by
  rcases h with ⟨rfl, _⟩ | ⟨b, n, rfl, hm⟩
  · intro e; cases e
  · intro e; injection e with e; injection e with e; exact hm.ne hq e
theorem NandAt.ne4 (h : NandAt w r d) : r.pv ≠ .map (some r.pb) := h.plan.ne h.own
theorem NandAt.ne5 (h : NandAt w r d) : r.pv ≠ .map (some r.gp) := by obtain ⟨ps, h1, _⟩ := h.pages; exact h.plan.ne h1
theorem NandAt.ne6 (h : NandAt w r d) : r.pv ≠ .map (some r.gb) := by obtain ⟨ps, h1, _⟩ := h.blocks; exact h.plan.ne h1
theorem set_far (w : World) (p : Addr) (u : Value) {k : Nat} (h : k ≠ p.block) : (w.setCell p u).heap[k]? = w.heap[k]? := Below.heap_setCell w p u k h
theorem PlanAt.far {v : Value} {f : Int → Option Mis} (h : PlanAt w v f) {p : Addr} (hp : v ≠ .map (some p.block)) (u : Value) : PlanAt (w.setCell p u) v f := h.block fun b hb => set_far w p u fun e => hp (e ▸ hb)

/-- Cells of its own that are written. -/
theorem NandAt.setOwn (h : NandAt w r d) (i : Nat) (u : Value) (r' : Ref) (d' : Nd) (hc : (cellsOf r d).setIfInBounds i u = cellsOf r' d') (h1 : r'.pb = r.pb) (h2 : r'.gp = r.gp) (h3 : r'.gb = r.gb)
    (e1 : d'.B = d.B) (e2 : d'.P = d.P) (e3 : d'.txt = d.txt) (e4 : d'.next = d.next) (e5 : d'.worn = d.worn) (e6 : d'.bad = d.bad) (hp : PlanAt w r'.pv d'.plan) : NandAt (w.setCell ⟨r.pb, i, none⟩ u) r' d' := by
  have hq : Blk w r'.pb 170 (cellsOf r d) := h1 ▸ h.own
  refine ⟨?_, ?_, ?_, hp.far (by show r'.pv ≠ .map (some r.pb); rw [← h1]; exact hp.ne hq) u⟩
  · have := h.own.set_ i u
    rw [hc] at this
    rw [h1]; exact this
  · rw [h2, e1, e2, e3]
    exact h.pages.block (set_far _ _ _ h.ne1.symm)
  · rw [h3, e1, e4, e5, e6]
    exact h.blocks.block (set_far _ _ _ h.ne2.symm)
theorem NandAt.setOps (h : NandAt w r d) (n : Nat) : NandAt (w.setCell ⟨r.pb, 4, none⟩ (.int .i64 n)) r { d with ops := n } := h.setOwn 4 _ r _ rfl rfl rfl rfl rfl rfl rfl rfl rfl rfl h.plan
theorem NandAt.setLaid (h : NandAt w r d) (n : Nat) : NandAt (w.setCell ⟨r.pb, 6, none⟩ (.int .i64 n)) r { d with laid := n } := h.setOwn 6 _ r _ rfl rfl rfl rfl rfl rfl rfl rfl rfl rfl h.plan
theorem NandAt.setDown (h : NandAt w r d) (b : Bool) : NandAt (w.setCell ⟨r.pb, 7, none⟩ (.bool b)) r { d with down := b } := h.setOwn 7 _ r _ rfl rfl rfl rfl rfl rfl rfl rfl rfl rfl h.plan
theorem NandAt.setPlan (h : NandAt w r d) (v : Value) (f : Int → Option Mis) (hv : PlanAt w v f) : NandAt (w.setCell ⟨r.pb, 5, none⟩ v) { r with pv := v } { d with plan := f } := h.setOwn 5 _ { r with pv := v } _ rfl rfl rfl rfl rfl rfl rfl rfl rfl rfl hv
theorem NandAt.setTxt (h : NandAt w r d) (i : Nat) (s : ByteArray) : NandAt (w.setCell ⟨r.gp, i, none⟩ (.string s)) r { d with txt := put d.txt i s } :=
  ⟨(set_far w _ _ h.ne1).trans h.own, h.pages.set i s, h.blocks.block (set_far _ _ _ h.ne3.symm), h.plan.far h.ne5 _⟩
theorem NandAt.setNext (h : NandAt w r d) (i v : Nat) : NandAt (w.setCell ⟨r.gb, i * 3, none⟩ (.int .i64 v)) r { d with next := put d.next i v } :=
  ⟨(set_far w _ _ h.ne2).trans h.own, h.pages.block (set_far _ _ _ h.ne3), h.blocks.set0 i v, h.plan.far h.ne6 _⟩
theorem NandAt.setWorn (h : NandAt w r d) (i v : Nat) : NandAt (w.setCell ⟨r.gb, i * 3 + 1, none⟩ (.int .i64 v)) r { d with worn := put d.worn i v } :=
  ⟨(set_far w _ _ h.ne2).trans h.own, h.pages.block (set_far _ _ _ h.ne3), h.blocks.set1 i v, h.plan.far h.ne6 _⟩
theorem NandAt.setBad (h : NandAt w r d) (i : Nat) (v : Bool) : NandAt (w.setCell ⟨r.gb, i * 3 + 2, none⟩ (.bool v)) r { d with bad := put d.bad i v } :=
  ⟨(set_far w _ _ h.ne2).trans h.own, h.pages.block (set_far _ _ _ h.ne3), h.blocks.set2 i v, h.plan.far h.ne6 _⟩
/-- The plan's map alone is turned. -/
theorem NandAt.turned (h : NandAt w r d) {b : Nat} (hv : r.pv = .map (some b)) (hg : w.grownBy w' (some b)) (f : Int → Option Mis) (hp : PlanAt w' r.pv f) : NandAt w' r { d with plan := f } := by
  have n1 : some r.pb ≠ some b := fun e => h.ne4 (by rw [hv, ← e])
  have n2 : some r.gp ≠ some b := fun e => h.ne5 (by rw [hv, ← e])
  have n3 : some r.gb ≠ some b := fun e => h.ne6 (by rw [hv, ← e])
  exact ⟨(hg.block _ h.own.lt n1).trans h.own, h.pages.block (hg.block _ h.pages.lt n2), h.blocks.block (hg.block _ h.blocks.lt n3), hp⟩
end

/-- What a look into the plan brings. -/
theorem zeroMis (w : World) : (zeroValue 224).run Tryz.prog w = .ok (misV Mis.zero) w := Tryz.zeroValue224 w
theorem PlanAt.look {w : World} {v : Value} {f : Int → Option Mis} (h : PlanAt w v f) {a : Int} (ha : (Lit.int .i64 a).wf = true) (c : Bool) :
    (Instr.lookup 168 v (.int .i64 a) c).run Tryz.prog w = .ok (if c then .tuple #[misV ((f a).getD Mis.zero), .bool (f a).isSome] else misV ((f a).getD Mis.zero)) w := by
  rcases h with ⟨rfl, rfl⟩ | ⟨b, n, rfl, hm⟩
  · exact look_nil_at c Tryz.underlying3 Tryz.underlying168 (zeroMis w) ha
  · have := hm.look c Tryz.underlying3 Tryz.underlying168 (zeroMis w) ha
    rw [this]
    cases f a <;> rfl
theorem PlanAt.drop {w : World} {v : Value} {f : Int → Option Mis} (h : PlanAt w v f) {a : Int} (ha : (Lit.int .i64 a).wf = true) (ty : TypeId) :
    ∃ w', (Builtin.delete_ #[168, 3] ty #[v, .int .i64 a]).run Tryz.prog w = .ok (.tuple #[]) w' ∧ PlanAt w' v (fun k => if k = a then none else f k) ∧ (w = w' ∨ ∃ b, v = .map (some b) ∧ w.grownBy w' (some b)) := by
  rcases h with ⟨rfl, rfl⟩ | ⟨b, n, rfl, hm⟩
  · exact ⟨w, drop_nil_at Tryz.underlying3 Tryz.underlying168 ha ty, .inl ⟨rfl, by funext k; split <;> rfl⟩, .inl rfl⟩
  · obtain ⟨w', hrun, h1, h2⟩ := hm.drop Tryz.underlying3 Tryz.underlying168 ha ty
    refine ⟨w', hrun, .inr ⟨b, n, rfl, ?_⟩, .inr ⟨b, rfl, h2⟩⟩
    have e : (fun x => if x = a then none else (f x).map misV) = fun k => (if k = a then none else f k).map misV := by
      funext k; split <;> rfl
    rw [e] at h1
    exact h1
end ND
end Go.Proofs.YtdjlflinepefbabGreat

/- Errors as plain trees: the first number inside, whether a number is inside, the trail. Plain mathematics, no program. -/
namespace Go.Proofs.YtdjlflinepefbabGreat
namespace ER
set_option linter.unusedVariables false

/-- An error: a number, a stranger, one wrapped by a step, several joined. -/
inductive Er where
  | num (c : Int)
  | str
  | fault (op : ByteArray) (n : Int) (e : Er)
  | join (n : Nat) (k : Nat → Er)

def Er.dep : Er → Nat
  | .num _ => 0
  | .str => 0
  | .fault _ _ e => e.dep + 1
  | .join n k => (List.range n).foldr (fun i m => max ((k i).dep) m) 0 + 1
/-- The first number inside. -/
def Er.code : Er → Option Int
  | .num c => some c
  | .str => none
  | .fault _ _ e => e.code
  | .join n k => (List.range n).findSome? fun i => (k i).code
def Er.has (x : Int) : Er → Bool
  | .num c => c == x
  | .str => false
  | .fault _ _ e => e.has x
  | .join n k => (List.range n).any fun i => (k i).has x
/-- The first step inside, and what it wraps. -/
def Er.first : Er → Option (ByteArray × Int × Er)
  | .num _ => none
  | .str => none
  | .fault op n e => some (op, n, e)
  | .join n k => (List.range n).findSome? fun i => (k i).first
def Er.trail : Er → List (ByteArray × Int)
  | .num _ => []
  | .str => []
  | .fault op n e => (op, n) :: e.trail
  | .join n k => ((List.range n).find? fun i => !((k i).trail).isEmpty).elim [] fun i => (k i).trail

theorem foldr_max (f : Nat → Nat) (l : List Nat) (i : Nat) (h : i ∈ l) : f i ≤ l.foldr (fun i m => max (f i) m) 0 := by
  induction l with
  | nil => cases h
  | cons a l ih =>
    rcases List.mem_cons.1 h with rfl | h
    · exact Nat.le_max_left _ _
    · exact Nat.le_trans (ih h) (Nat.le_max_right _ _)
theorem dep_kid {n : Nat} {k : Nat → Er} {i : Nat} (h : i < n) : (k i).dep < (Er.join n k).dep := by
  have := foldr_max (fun i => (k i).dep) (List.range n) i (List.mem_range.2 h)
  show _ < _ + 1
  exact Nat.lt_succ_of_le this

theorem findSome_none {α : Type} (f : Nat → Option α) : ∀ n, (∀ i, i < n → f i = none) → (List.range n).findSome? f = none := by
  intro n h
  exact List.findSome?_eq_none_iff.2 fun x hx => h x (List.mem_range.1 hx)
theorem findSome_at {α : Type} (f : Nat → Option α) {n i : Nat} {x : α} (hi : i < n) (h : ∀ j, j < i → f j = none) (hx : f i = some x) : (List.range n).findSome? f = some x := by
  have e : n = i + (n - i) := by omega
  rw [e, List.range_add, List.findSome?_append, findSome_none f i h]
  obtain ⟨m, hm⟩ : ∃ m, n - i = m + 1 := ⟨n - i - 1, by omega⟩
  rw [hm, List.range_succ_eq_map]
  simp [hx]
theorem find_none (p : Nat → Bool) : ∀ n, (∀ i, i < n → p i = false) → (List.range n).find? p = none := by
  intro n h
  exact List.find?_eq_none.2 fun x hx => by simp [h x (List.mem_range.1 hx)]
theorem find_at (p : Nat → Bool) {n i : Nat} (hi : i < n) (h : ∀ j, j < i → p j = false) (hx : p i = true) : (List.range n).find? p = some i := by
  have e : n = i + (n - i) := by omega
  rw [e, List.range_add, List.find?_append, find_none p i h]
  obtain ⟨m, hm⟩ : ∃ m, n - i = m + 1 := ⟨n - i - 1, by omega⟩
  rw [hm, List.range_succ_eq_map]
  simp [hx]
theorem any_false (p : Nat → Bool) (n : Nat) (h : ∀ i, i < n → p i = false) : (List.range n).any p = false := by
  rw [List.any_eq_false]
  intro x hx
  simp [h x (List.mem_range.1 hx)]
theorem any_true (p : Nat → Bool) {n i : Nat} (hi : i < n) (hx : p i = true) : (List.range n).any p = true :=
  List.any_eq_true.2 ⟨i, List.mem_range.2 hi, hx⟩

/-- A trail is empty just if there is no step inside. -/
theorem trail_first : ∀ E : Er, E.trail = (match E.first with | none => [] | some (op, n, e) => (op, n) :: e.trail) := by
  intro E
  induction E with
  | num c => rfl
  | str => rfl
  | fault op n e ih => rfl
  | join n k ih =>
    by_cases h : ∃ i, i < n ∧ (k i).first ≠ none
    · obtain ⟨i, hi, hx, hlt⟩ : ∃ i, i < n ∧ (k i).first ≠ none ∧ ∀ j, j < i → (k j).first = none := by
        obtain ⟨i, hi, hx⟩ := h
        induction i using Nat.strongRecOn with
        | _ i hrec =>
          by_cases hj : ∃ j, j < i ∧ (k j).first ≠ none
          · obtain ⟨j, hj, hjx⟩ := hj
            exact hrec j hj (by omega) hjx
          · exact ⟨i, hi, hx, fun j hji => Decidable.byContradiction fun hne => hj ⟨j, hji, hne⟩⟩
      obtain ⟨⟨op, m, e⟩, hf⟩ := Option.ne_none_iff_exists'.1 hx
      have h1 : (Er.join n k).first = some (op, m, e) := findSome_at (fun i => (k i).first) hi hlt hf
      have ht : (k i).trail = (op, m) :: e.trail := by rw [ih i, hf]
      have h2 : (List.range n).find? (fun i => !((k i).trail).isEmpty) = some i := by
        refine find_at _ hi (fun j hj => ?_) (by rw [ht]; rfl)
        rw [ih j, hlt j hj]; rfl
      rw [h1]
      show ((List.range n).find? fun i => !((k i).trail).isEmpty).elim [] (fun i => (k i).trail) = _
      rw [h2]
      exact ht
    · have hn : ∀ i, i < n → (k i).first = none := fun i hi => Decidable.byContradiction fun hne => h ⟨i, hi, hne⟩
      have h1 : (Er.join n k).first = none := findSome_none (fun i => (k i).first) n hn
      have h2 : (List.range n).find? (fun i => !((k i).trail).isEmpty) = none := by
        refine find_none _ n (fun i hi => ?_)
        rw [ih i, hn i hi]; rfl
      rw [h1]
      show ((List.range n).find? fun i => !((k i).trail).isEmpty).elim [] (fun i => (k i).trail) = _
      rw [h2]; rfl
/-- What a step wraps lies deeper. -/
theorem first_dep : ∀ (E : Er) {op : ByteArray} {n : Int} {e : Er}, E.first = some (op, n, e) → e.dep < E.dep := by
  intro E
  induction E with
  | num c => intro op n e h; cases h
  | str => intro op n e h; cases h
  | fault op n e ih => intro op' n' e' h; cases h; exact Nat.lt_succ_self _
  | join n k ih =>
    intro op m e h
    obtain ⟨i, hi, hx⟩ := List.exists_of_findSome?_eq_some h
    exact Nat.lt_trans (ih i hx) (dep_kid (List.mem_range.1 hi))
end ER
end Go.Proofs.YtdjlflinepefbabGreat
