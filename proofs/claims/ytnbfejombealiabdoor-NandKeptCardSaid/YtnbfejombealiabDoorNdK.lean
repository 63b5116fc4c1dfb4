/- An array at work beside a row of the law's own: which blocks no step touches; what a block keeps. -/
import Derived.Test.YtnbfejombealiabDoorNdS
import Derived.Test.YtnbfejombealiabDoorNdEq
import Derived.Deep.AppendLies
namespace Go.Proofs.YtnbfejombealiabDoor
namespace ND
open Go.RowKit MM
set_option linter.unusedVariables false
set_option linter.unusedSimpArgs false

theorem ref_unique {w : World} {r r' : Ref} {d d' : Nd} (h : NandAt w r d) (h' : NandAt w r' d') (hp : r'.pb = r.pb) : r' = r := by
  have h1 := h.cells
  have h2 := h'.cells
  rw [hp] at h2
  have e1 := h1.2.2.1.symm.trans h2.2.2.1
  have e2 := h1.2.2.2.1.symm.trans h2.2.2.2.1
  have e3 := h1.2.2.2.2.2.1.symm.trans h2.2.2.2.2.2.1
  simp at e1 e2 e3
  obtain ⟨a, b, c, v⟩ := r
  obtain ⟨a', b', c', v'⟩ := r'
  simp at hp e1 e2 e3
  simp [hp, e1.1, e2.1, e3]
/-- The block b is none of the array's at g. -/
def Out (w : World) (g b : Nat) : Prop := ∀ (r : Ref) (d : Nd), r.pb = g → NandAt w r d → ¬ r.has b
/-- What is none of the array's stays, and stays none. -/
def Keeps (g : Nat) (w w' : World) : Prop := ∀ b, b < w.heap.size → Out w g b → w'.heap[b]? = w.heap[b]? ∧ Out w' g b
theorem Keeps.of {w w' : World} {r r' : Ref} {d d' : Nd} (h : NandAt w r d) (h' : NandAt w' r' d') (hp : r'.pb = r.pb) (hm : Mod r.has w w') (hl : ∀ k, r'.has k → r.has k ∨ w.heap.size ≤ k) : Keeps r.pb w w' := fun b hb ho =>
  have hn : ¬ r.has b := ho r d rfl h
  ⟨hm.block b hb hn, fun r2 d2 e2 h2 hk => by
    obtain rfl := ref_unique h' h2 (e2.trans hp.symm)
    rcases hl b hk with h | h
    · exact hn h
    · omega⟩
theorem Keeps.trans {g : Nat} {a b c : World} (h : Keeps g a b) (k : Keeps g b c) (hs : a.heap.size ≤ b.heap.size) : Keeps g a c := fun i hi ho =>
  have h1 := h i hi ho
  have h2 := k i (Nat.lt_of_lt_of_le hi hs) h1.2
  ⟨h2.1.trans h1.1, h2.2⟩
section
variable {w0 w w' : World} {d : Nd} {g : Nat}
theorem Keeps.below (h : St w0 w g d) (hb : Below w.heap.size w w') : Keeps g w w' := by
  obtain ⟨r, rfl, h⟩ := h
  exact Keeps.of h.at_ (h.at_.below hb) rfl (Mod.of_below hb) fun k hk => .inl hk
theorem St.size (h : St w0 w g d) : w0.heap.size ≤ w.heap.size := h.bel.size
theorem Out.new (h : St w0 w g d) {b : Nat} (hb : w.heap.size ≤ b) : Out w g b := fun r d hp hn hk => absurd (hn.lt hk) (by omega)
/-- Blocks that are none of the array's are written, or made: the array stays. -/
theorem St.grown (h : St w0 w g d) {row : Option Nat} (hg : w.grownBy w' row) (ho : ∀ b, row = some b → Out w g b ∧ w0.heap.size ≤ b) : St w0 w' g d := by
  obtain ⟨r, rfl, h⟩ := h
  refine ⟨r, rfl, h.at_.kept fun k hk => hg.block k (h.at_.lt hk) fun e => (ho k e.symm).1 r d rfl h.at_ hk, h.ok, h.low, h.bel.trans ⟨hg.os, hg.tape, hg.output, hg.size, fun k hk => hg.block k (Nat.lt_of_lt_of_le hk h.bel.size) fun e => absurd (ho k e.symm).2 (by omega)⟩⟩
theorem Out.grown (h : St w0 w g d) {row : Option Nat} (hg : w.grownBy w' row) (hr : ∀ b, row = some b → Out w g b ∧ w0.heap.size ≤ b) {b : Nat} (hb : Out w g b) : Out w' g b := by
  have h' := h.grown hg hr
  obtain ⟨r, rfl, h⟩ := h
  obtain ⟨r', hp, h'⟩ := h'
  intro r2 d2 e2 h2
  obtain rfl := ref_unique h'.at_ h2 (e2.trans hp.symm)
  have := h.at_.kept (w' := w') fun k hk => hg.block k (h.at_.lt hk) fun e => (hr k e.symm).1 r d rfl h.at_ hk
  obtain rfl := ref_unique this h2 e2
  exact hb _ _ rfl h.at_
theorem stk_program (h : St w0 w g d) (hops : d.ops ≤ 4611686018427387904) (p : Int) (hp : (Lit.int .i64 p).wf = true) (s : ByteArray) :
    Calls Tryd.prog 13 #[(.pointer (some ⟨g, 0, none⟩)), .int .i64 p, .string s] w fun e w' => ∃ v, e = .returned v ∧ ErrIs w' opProgram p (d.program p s).2 v ∧ St w0 w' g (d.program p s).1 ∧ Errs w w' ∧ Keeps g w w' := by
  obtain ⟨r, rfl, h⟩ := h
  refine (program_any h.at_ h.ok hops p hp s).mono ?_
  rintro e w' ⟨v, rfl, h1, h2, h3⟩
  exact ⟨v, rfl, h1, ⟨r, rfl, h.mod h2 (h.ok.program p s) h3 fun k hk => .inl hk⟩, Errs.mod h.at_ h3, Keeps.of h.at_ h2 rfl h3 fun k hk => .inl hk⟩
theorem stk_erase (h : St w0 w g d) (hops : d.ops ≤ 4611686018427387904) (p : Int) (hp : (Lit.int .i64 p).wf = true) :
    Calls Tryd.prog 14 #[(.pointer (some ⟨g, 0, none⟩)), .int .i64 p] w fun e w' => ∃ v, e = .returned v ∧ ErrIs w' opErase p (d.erase p).2 v ∧ St w0 w' g (d.erase p).1 ∧ Errs w w' ∧ Keeps g w w' := by
  obtain ⟨r, rfl, h⟩ := h
  refine (erase_any h.at_ h.ok hops p hp).mono ?_
  rintro e w' ⟨v, rfl, h1, h2, h3⟩
  exact ⟨v, rfl, h1, ⟨r, rfl, h.mod h2 (h.ok.erase p) h3 fun k hk => .inl hk⟩, Errs.mod h.at_ h3, Keeps.of h.at_ h2 rfl h3 fun k hk => .inl hk⟩
theorem stk_plan_in (h : St w0 w g d) (a : Option Addr) (len cap : Nat) (hl : len ≤ maxLen) (M : Nat → Mis) (hM : MisRow w (fun k => k < w0.heap.size) a len M) :
    Calls Tryd.prog 16 #[(.pointer (some ⟨g, 0, none⟩)), .slice a len cap] w fun e w' => e = .returned (.tuple #[]) ∧ St w0 w' g (d.planned (misL M len)) ∧ Errs w w' ∧ Keeps g w w' := by
  obtain ⟨r, rfl, h⟩ := h
  have hM' : MisRow w (fun k => ¬ r.has k) a len M := by
    rcases hM with hM | ⟨b, off, rfl, hb, hs, hc⟩
    · exact .inl hM
    · exact .inr ⟨b, off, rfl, hb, fun hk => absurd (h.low b hk) (by have : b < w0.heap.size := hs; omega), hc⟩
  refine (plan_any h.at_ h.ok a len cap hl M hM').mono ?_
  rintro e w' ⟨rfl, r', h1, h2, h3, h4⟩
  exact ⟨rfl, ⟨r', h1, h.mod h2 (h.ok.planned _) h3 h4⟩, Errs.mod h.at_ h3, Keeps.of h.at_ h2 h1 h3 h4⟩
theorem stk_up (h : St w0 w g d) :
    Calls Tryd.prog 17 #[(.pointer (some ⟨g, 0, none⟩))] w fun e w' => e = .returned (.tuple #[]) ∧ St w0 w' g d.up ∧ Errs w w' ∧ Keeps g w w' := by
  obtain ⟨r, rfl, h⟩ := h
  refine (up_any h.at_).mono ?_
  rintro e w' ⟨rfl, h2, h3⟩
  have hl : ∀ k, ({ r with pv := .map none } : Ref).has k → r.has k ∨ w.heap.size ≤ k := fun k hk => by
    rcases hk with hk | hk | hk | hk
    · exact .inl (.inl hk)
    · exact .inl (.inr (.inl hk))
    · exact .inl (.inr (.inr (.inl hk)))
    · cases hk
  exact ⟨rfl, ⟨{ r with pv := .map none }, rfl, h.mod h2 h.ok.up h3 hl⟩, Errs.mod h.at_ h3, Keeps.of (r' := { r with pv := .map none }) h.at_ h2 rfl h3 hl⟩
theorem stk_read (h : St w0 w g d) (p : Int) (hp : (Lit.int .i64 p).wf = true) :
    Calls Tryd.prog 18 #[(.pointer (some ⟨g, 0, none⟩)), .int .i64 p] w fun e w' => ∃ v, e = .returned (.tuple #[.string (d.read p).1, v]) ∧ ErrIs w' opRead p (d.read p).2 v ∧ Below w.heap.size w w' := by
  obtain ⟨r, rfl, h⟩ := h
  exact readX_any h.at_ h.ok p hp
end
theorem own_keep {w w' : World} {base : Nat} {e : TypeId} {size : Nat} {v : Value} {n : Nat} {xs : List Value} (h : w.ownsRow base e size v n xs) (hb : ∀ b, v.ownBlock = some b → w'.heap[b]? = w.heap[b]?) : w'.ownsRow base e size v n xs := by
  obtain ⟨h1, h2⟩ := h
  refine ⟨h1, ?_⟩
  rcases h2 with h2 | ⟨g, cap, cur, rfl, hg, hh, r⟩
  · exact .inl h2
  · exact .inr ⟨g, cap, cur, rfl, hg, (hb g rfl).trans hh, r⟩
/-- A row of the law's own, in no block of the array's. -/
def OwnK (w0 w : World) (g : Nat) (v : Value) (l : List ByteArray) : Prop := w.ownsRow w0.heap.size 9 1 v l.length (l.map .string) ∧ ∀ b, v.ownBlock = some b → Out w g b
theorem OwnK.keep {w0 w w' : World} {g : Nat} {v : Value} {l : List ByteArray} (h : OwnK w0 w g v l) (hk : Keeps g w w') : OwnK w0 w' g v l :=
  ⟨own_keep h.1 fun b hb => (hk b ((h.1.lt b hb).2) (h.2 b hb)).1, fun b hb => (hk b ((h.1.lt b hb).2) (h.2 b hb)).2⟩

/-- What the block 0 keeps. -/
structure Kp (d : Nd) (l : List ByteArray) : Prop where
  B : d.B = 16
  P : d.P = 8
  few : l.length ≤ 8
  next : d.next 0 = l.length
  worn : d.worn 0 = 0
  bad : d.bad 0 = false
  txt : ∀ (i : Nat) t, l[i]? = some t → d.txt i = t
theorem Kp.suffer {d : Nd} {l : List ByteArray} (h : Kp d l) {b : Nat} (hb : b ≠ 0) (c : Int) : Kp (d.suffer b c) l := by
  unfold Nd.suffer
  split
  · exact ⟨h.B, h.P, h.few, h.next, h.worn, h.bad, h.txt⟩
  · split
    · exact ⟨h.B, h.P, h.few, h.next, h.worn, by show put d.bad b true 0 = false; rw [put_other _ _ (Ne.symm hb)]; exact h.bad, h.txt⟩
    · exact h
theorem Kp.counted {d : Nd} {l : List ByteArray} (h : Kp d l) : Kp d.counted l := ⟨h.B, h.P, h.few, h.next, h.worn, h.bad, h.txt⟩
theorem Kp.program {d : Nd} {l : List ByteArray} (h : Kp d l) (p : Int) (hp : ¬ p < 8) (s : ByteArray) : Kp (d.program p s).1 l := by
  unfold Nd.program
  split
  · exact h
  · have hq : p.toNat / d.P ≠ 0 := by rw [h.P]; omega
    refine Kp.suffer ?_ hq _
    refine ⟨h.B, h.P, h.few, ?_, h.worn, h.bad, fun i t hi => ?_⟩
    · show put d.next (p.toNat / d.P) _ 0 = _
      rw [put_other _ _ (Ne.symm hq)]; exact h.next
    · show put d.txt p.toNat _ i = t
      have := h.few
      have hil : i < l.length := (List.getElem?_eq_some_iff.1 hi).1
      rw [put_other _ _ (by omega)]; exact h.txt i t hi
theorem Kp.erase {d : Nd} {l : List ByteArray} (h : Kp d l) (p : Int) (hp : ¬ p < 1) : Kp (d.erase p).1 l := by
  unfold Nd.erase
  split
  · exact h
  · have hq : p.toNat ≠ 0 := by omega
    refine Kp.suffer ?_ hq _
    have hf : ∀ (t : ByteArray) (i : Nat) (x : ByteArray), l[i]? = some x → ((d.counted).fill p.toNat t).txt i = x := fun t i x hi => by
      have := h.few
      have hil : i < l.length := (List.getElem?_eq_some_iff.1 hi).1
      show (if i / d.P = p.toNat then t else d.txt i) = x
      rw [if_neg (by rw [h.P]; omega)]; exact h.txt i x hi
    unfold Nd.erased
    split
    · refine ⟨h.B, h.P, h.few, ?_, ?_, h.bad, hf _⟩
      · show put d.next p.toNat 0 0 = _
        rw [put_other _ _ (Ne.symm hq)]; exact h.next
      · show put d.worn p.toNat _ 0 = 0
        rw [put_other _ _ (Ne.symm hq)]; exact h.worn
    · split
      · refine ⟨h.B, h.P, h.few, ?_, h.worn, h.bad, hf _⟩
        show put d.next p.toNat d.P 0 = _
        rw [put_other _ _ (Ne.symm hq)]; exact h.next
      · exact h.counted
theorem Kp.planned {d : Nd} {l : List ByteArray} (h : Kp d l) (x : List Mis) : Kp (d.planned x) l := ⟨h.B, h.P, h.few, h.next, h.worn, h.bad, h.txt⟩
theorem Kp.up {d : Nd} {l : List ByteArray} (h : Kp d l) : Kp d.up l := ⟨h.B, h.P, h.few, h.next, h.worn, h.bad, h.txt⟩
/-- No mishap waits, and the power is there. -/
def Quiet (d : Nd) : Prop := d.down = false ∧ d.plan = fun _ => none
theorem Kp.more {d : Nd} {l : List ByteArray} (h : Kp d l) (hq : Quiet d) (hl : l.length < 8) {t : ByteArray} (ht : t.size ≤ 128) :
    ∃ d', d.program (l.length : Nat) t = (d', 0) ∧ Kp d' (l ++ [t]) ∧ Quiet d' ∧ d'.ops = d.ops + 1 := by
  have e0 : l.length / d.P = 0 := by rw [h.P]; omega
  have e1 : l.length % d.P = l.length := by rw [h.P]; omega
  have hm : d.mis = Mis.zero := by unfold Nd.mis; rw [hq.2]; rfl
  have hb : brings d.mis 2 = 0 := by rw [hm]; rfl
  have := program_eq (d := d) (p := l.length) (s := t) hq.1 (by rw [h.B, h.P]; omega) ht (by rw [e0]; exact h.bad) (by rw [e0, e1]; exact h.next)
  rw [hb, e0] at this
  refine ⟨_, this, ?_, ⟨hq.1, ?_⟩, rfl⟩
  · refine ⟨h.B, h.P, by simp; omega, ?_, h.worn, h.bad, fun i x hi => ?_⟩
    · show put d.next (l.length / d.P) (d.next (l.length / d.P) + 1) 0 = _
      rw [e0, put_same, h.next]; simp
    · show put d.txt l.length (d.takes t) i = x
      have htk : d.takes t = t := by unfold Nd.takes; rw [if_pos hb]
      rw [htk]
      by_cases h1 : i = l.length
      · subst h1
        rw [put_same]
        simpa using hi
      · rw [put_other _ _ h1]
        have : i < (l ++ [t]).length := (List.getElem?_eq_some_iff.1 hi).1
        rw [List.getElem?_append_left (by simp at this; omega)] at hi
        exact h.txt i x hi
  · show (fun k => if k = d.due then none else d.plan k) = fun _ => none
    rw [hq.2]; funext k; split <;> rfl
theorem Kp.read {d : Nd} {l : List ByteArray} (h : Kp d l) (hd : d.down = false) {i : Nat} {t : ByteArray} (hi : l[i]? = some t) : d.read (i : Nat) = (t, 0) := by
  have hil : i < l.length := (List.getElem?_eq_some_iff.1 hi).1
  have := h.few
  have e0 : i / d.P = 0 := by rw [h.P]; omega
  rw [read_eq hd (by rw [h.B, h.P]; omega) (by rw [e0, h.next, h.P]; omega), h.txt i t hi]
end ND
end Go.Proofs.YtnbfejombealiabDoor
