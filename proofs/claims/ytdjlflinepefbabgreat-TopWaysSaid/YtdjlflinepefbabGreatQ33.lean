/- 3 texts laid together: each says at its head what it proves. No condition but those that each theorem names. -/
import Derived.Test.YtdjlflinepefbabGreatQ32
import Derived.Test.YtdjlflinepefbabGreatQ28
import Derived.Test.YtdjlflinepefbabGreatQ10
import Derived.Test.YtdjlflinepefbabGreatQ04
import Derived.Maps.OwnSet

/- scoriatop.alike of two lists that are the same; a row beside a tree that changes. No condition but those that each theorem names. -/

namespace Go.Proofs.YtdjlflinepefbabGreat
open Go.RowKit MM LF EX
namespace TR
set_option linter.unusedVariables false
set_option linter.unusedSimpArgs false

theorem exs_at {w : World} {A : Option Addr} {l : List Ext} (h : Exs w A l) {k : Nat} {x : Ext} (hx : l[k]? = some x) : ∃ b off, A = some ⟨b, off, none⟩ ∧ Cells4 w b (off + k * 4) x := by
  rcases h with h | ⟨b, off, h1, h2, h3⟩
  · rw [h] at hx; simp at hx
  · exact ⟨b, off, h1, h3 k x hx⟩
set_option maxHeartbeats 1000000 in
theorem talike_yes (L : List Ext) (len ca cb : Nat) (hlen : len = L.length) (hm : len ≤ 100000000) (a b : Option Addr) (w : World) (h1 : Exs w a L) (h2 : Exs w b L) :
    Calls Tryz.prog 37 #[.slice a len ca, .slice b len cb] w fun r w' => r = .returned (.bool true) ∧ Below w.heap.size w w' := by
  have H1 := Lib.hid h1
  have H2 := Lib.hid h2
  have HL := Lib.hid hlen
  clear h1 h2 hlen
  go_enter Tryz.func37, Tryz.ntmps37
  go_wp2
  go_loopw [5] (fun i wr => ∃ k : Nat, k ≤ len ∧ i = .int .i64 k ∧ Below w.heap.size w wr) (fun i _ => len - (intOf i).toNat)
  case atStart => exact ⟨0, Nat.zero_le _, rfl, Below.refl _ _⟩
  case round =>
    obtain ⟨k, hk, rfl, hbel⟩ := hrel
    by_cases hlt : k < len
    · obtain ⟨e, he⟩ : ∃ e, L[k]? = some e := ⟨_, List.getElem?_eq_getElem (by rw [← HL.out]; exact hlt)⟩
      obtain ⟨b1, o1, rfl, p0, p1, p2, p3⟩ := exs_at (H1.out.below hbel) he
      obtain ⟨b2, o2, rfl, q0, q1, q2, q3⟩ := exs_at (H2.out.below hbel) he
      have t1 : (k : Int) < (len : Int) := by omega
      have t2 : (0 : Int) ≤ (k : Int) := by omega
      have HD : Hid (∀ n, Below w.heap.size w (wr.drewN n)) := Lib.hid fun n => drewN_below hbel n
      clear he hbel
      go_wp2
      go_quiet (fail)
      go_wp2
      go_roundw
      case rel => exact ⟨k + 1, by omega, by go_num, HD.out _⟩
      case measure => simp [intOf]; omega
    · obtain rfl : k = len := by omega
      have i0 : ¬ (k : Int) < (k : Int) := by omega
      go_wp2
      go_ret
      exact ⟨rfl, hbel⟩

theorem exs_but {w w' : World} {A : Option Addr} {l : List Ext} {g : Nat} (h : Exs w A l) (hg : ∀ o x, w.cell? ⟨g, o, none⟩ ≠ some (.int .i64 x)) (hb : But g w w') : Exs w' A l := by
  rcases h with h | ⟨b, off, h1, h2, h3⟩
  · exact .inl h
  · cases l with
    | nil => exact .inl rfl
    | cons e r =>
      have hn : b ≠ g := fun he => hg _ _ (he ▸ (h3 0 e rfl).1)
      have hc : ∀ o, w'.cell? ⟨b, o, none⟩ = w.cell? ⟨b, o, none⟩ := fun o => World.cell?_of_block (a := ⟨b, o, none⟩) (hb.block b hn h2)
      refine .inr ⟨b, off, h1, Nat.lt_of_lt_of_le h2 hb.size, fun i x hx => ?_⟩
      obtain ⟨q0, q1, q2, q3⟩ := h3 i x hx
      exact ⟨(hc _).trans q0, (hc _).trans q1, (hc _).trans q2, (hc _).trans q3⟩
theorem cut_valid {M : List Ext} {f n : Int} (hv : Valid M) (hg : Rng f n 16777216) : Valid (cut M f n) := by
  obtain ⟨A, B, _, _, _, h, _⟩ := does_cut hv hg.1 hg.2.1 hg.2.2
  exact h
theorem cut_few' {M : List Ext} {f n : Int} (hv : Valid M) (hg : Rng f n 16777216) : (cut M f n).length ≤ M.length + 3 := (does_cut hv hg.1 hg.2.1 hg.2.2).len
theorem over_few' {M : List Ext} {e : Ext} (hv : Valid M) (h : One e) : (over M e).length ≤ M.length + 3 := (does_over hv h).len
/-- A tree of the call's own and a list that has the same. -/
structure Pair (w : World) (g : Nat) (A : Option Addr) (n k : Nat) (M : List Ext) (wr : World) : Prop where
  tree : TreeAt [g] wr g M
  valid : Valid M
  few : M.length ≤ 3 * k
  len : n = M.length
  row : Exs wr A M
  low : w.heap.size ≤ g
  bel : Below w.heap.size w wr
theorem Pair.below {w : World} {g : Nat} {A : Option Addr} {n k : Nat} {M : List Ext} {wr w' : World} (h : Pair w g A n k M wr) (hb : Below wr.heap.size wr w') : Pair w g A n k M w' := ⟨h.tree.below hb, h.valid, h.few, h.len, h.row.below hb, h.low, bkept h.bel hb⟩
theorem Pair.up {w : World} {g : Nat} {A : Option Addr} {n k : Nat} {M : List Ext} {wr : World} (h : Pair w g A n k M wr) : Pair w g A n (k + 1) M wr := ⟨h.tree, h.valid, by have := h.few; omega, h.len, h.row, h.low, h.bel⟩
theorem Pair.hI {w : World} {g : Nat} {A : Option Addr} {n k : Nat} {M : List Ext} {wr : World} (h : Pair w g A n k M wr) : ∀ b ∈ [g], b < wr.heap.size ∧ ∀ o x, wr.cell? ⟨b, o, none⟩ ≠ some (.int .i64 x) := by
  intro b hb
  rw [List.mem_singleton.1 hb]
  exact ⟨h.tree.lt, h.tree.not_int⟩
theorem Pair.next {w : World} {g : Nat} {A A' : Option Addr} {n n' k : Nat} {M M' : List Ext} {wr w1 w2 : World} (h : Pair w g A n k M wr) (hb : Below wr.heap.size wr w1) (hx : Exs w1 A' M') (hn : n' = M'.length) (hv : Valid M') (hf : M'.length ≤ M.length + 3) (hbut : But g w1 w2) (ht : TreeAt [g] w2 g M') : Pair w g A' n' (k + 1) M' w2 :=
  ⟨ht, hv, by have := h.few; omega, hn, exs_but hx ((h.below hb).tree.not_int) hbut, h.low, (bkept h.bel hb).trans (hbut.below h.low (bkept h.bel hb).size)⟩
end TR
end Go.Proofs.YtdjlflinepefbabGreat

/- An array of pages, as plain numbers and texts. Plain mathematics, no program. -/
namespace Go.Proofs.YtdjlflinepefbabGreat
namespace ND
set_option linter.unusedVariables false

/-- A mishap. -/
structure Mis where
  at_ : Int
  kind : Int
  keep : Int
  junk : ByteArray

def Mis.zero : Mis := ⟨0, 0, 0, ByteArray.empty⟩

/-- An array: its geometry, its pages' texts, of each block how many pages were programmed, how often it was erased, whether it is bad; the operations, when the plan was laid, the plan, whether it is down. -/
structure Nd where
  B : Nat
  P : Nat
  txt : Nat → ByteArray
  next : Nat → Nat
  worn : Nat → Nat
  bad : Nat → Bool
  ops : Nat
  laid : Nat
  plan : Int → Option Mis
  down : Bool

def put {α : Type} (f : Nat → α) (i : Nat) (v : α) : Nat → α := fun k => if k = i then v else f k
theorem put_same {α : Type} (f : Nat → α) (i : Nat) (v : α) : put f i v i = v := if_pos rfl
theorem put_other {α : Type} (f : Nat → α) {i k : Nat} (v : α) (h : k ≠ i) : put f i v k = f k := if_neg h

def cut (s : ByteArray) : ByteArray := s.extract 0 (min s.size 128)
def keepOf (m : Mis) (s : ByteArray) : Nat := (min (max m.keep 0) (s.size : Int)).toNat
def spoilt (m : Mis) (s : ByteArray) : ByteArray := cut (s.extract 0 (keepOf m s) ++ m.junk)

theorem cut_size (s : ByteArray) : (cut s).size ≤ 128 := by
  unfold cut
  rw [ByteArray.size_extract]
  omega
theorem spoilt_size (m : Mis) (s : ByteArray) : (spoilt m s).size ≤ 128 := cut_size _

/-- The mishap that waits for the next operation. -/
def Nd.due (d : Nd) : Int := ((d.ops : Int) + 1) - d.laid
def Nd.mis (d : Nd) : Mis := (d.plan d.due).getD Mis.zero
/-- An operation counted. -/
def Nd.counted (d : Nd) : Nd := { d with ops := d.ops + 1, plan := fun k => if k = d.due then none else d.plan k }
/-- What number a mishap brings: fail is the kind by which the operation fails. -/
def brings (m : Mis) (fail : Int) : Int := if m.kind = 1 then 9 else if m.kind = fail then 41 else 0

def Nd.suffer (d : Nd) (b : Nat) (c : Int) : Nd := if c = 9 then { d with down := true } else if c = 41 then { d with bad := put d.bad b true } else d

def Nd.hasPage (d : Nd) (p : Int) : Bool := decide (0 ≤ p) && decide (p < (d.B * d.P : Nat))
def Nd.hasBlock (d : Nd) (b : Int) : Bool := decide (0 ≤ b) && decide (b < (d.B : Int))

def Nd.mayProgram (d : Nd) (p : Int) (s : ByteArray) : Int :=
  if d.down then 9
  else if d.hasPage p = false ∨ 128 < s.size then 1
  else if d.bad (p.toNat / d.P) then 41
  else if d.next (p.toNat / d.P) ≠ p.toNat % d.P then 40
  else 0
def Nd.mayErase (d : Nd) (b : Int) : Int :=
  if d.down then 9
  else if d.hasBlock b = false then 1
  else if d.bad b.toNat then 41
  else 0

/-- What a page takes. -/
def Nd.takes (d : Nd) (s : ByteArray) : ByteArray := if brings d.mis 2 = 0 then s else spoilt d.mis s
def Nd.wrote (d : Nd) (p : Nat) (s : ByteArray) : Nd := { d with txt := put d.txt p s, next := put d.next (p / d.P) (d.next (p / d.P) + 1) }
def Nd.fill (d : Nd) (b : Nat) (s : ByteArray) : Nd := { d with txt := fun k => if k / d.P = b then s else d.txt k }

def Nd.program (d : Nd) (p : Int) (s : ByteArray) : Nd × Int :=
  if d.mayProgram p s ≠ 0 then (d, d.mayProgram p s)
  else (((d.counted).wrote p.toNat (d.takes s)).suffer (p.toNat / d.P) (brings d.mis 2), brings d.mis 2)

def Nd.erased (d : Nd) (b : Nat) (m : Mis) (c : Int) : Nd :=
  if c = 0 then { d.fill b ByteArray.empty with next := put d.next b 0, worn := put d.worn b (d.worn b + 1) }
  else if c = 9 ∧ 0 < m.keep then { d.fill b (spoilt m ByteArray.empty) with next := put d.next b d.P }
  else d
def Nd.erase (d : Nd) (b : Int) : Nd × Int :=
  if d.mayErase b ≠ 0 then (d, d.mayErase b)
  else (((d.counted).erased b.toNat d.mis (brings d.mis 3)).suffer b.toNat (brings d.mis 3), brings d.mis 3)

def Nd.read (d : Nd) (p : Int) : ByteArray × Int :=
  if d.down then (ByteArray.empty, 9)
  else if d.hasPage p = false then (ByteArray.empty, 1)
  else if d.next (p.toNat / d.P) ≤ p.toNat % d.P then (ByteArray.empty, 42)
  else (d.txt p.toNat, 0)

/-- What waits, of a list of mishaps: at each time the first one, its junk cut. -/
def planOf (l : List Mis) (k : Int) : Option Mis :=
  if k < 1 then none else (l.find? fun m => m.at_ == k).map fun m => { m with junk := cut m.junk }
def Nd.planned (d : Nd) (l : List Mis) : Nd := { d with laid := d.ops, plan := planOf l }
def Nd.up (d : Nd) : Nd := { d with down := false, plan := fun _ => none }

theorem planOf_nil : planOf [] = fun _ => none := by
  funext k
  unfold planOf
  split <;> rfl
theorem planOf_low (l : List Mis) (m : Mis) (h : m.at_ < 1) : planOf (l ++ [m]) = planOf l := by
  funext k
  unfold planOf
  split
  · rfl
  · have hk : (m.at_ == k) = false := beq_eq_false_iff_ne.2 (by omega)
    rw [List.find?_append]
    simp [hk]
theorem planOf_there (l : List Mis) (m : Mis) (h : (planOf l m.at_).isSome = true) : planOf (l ++ [m]) = planOf l := by
  funext k
  unfold planOf at h ⊢
  split
  · rfl
  · rw [List.find?_append]
    by_cases hk : m.at_ = k
    · subst hk
      rename_i h1
      rw [if_neg h1] at h
      cases hf : l.find? fun x => x.at_ == m.at_ with
      | none => rw [hf] at h; simp at h
      | some x => rfl
    · have hk : (m.at_ == k) = false := beq_eq_false_iff_ne.2 hk
      simp [hk]
theorem planOf_new (l : List Mis) (m : Mis) (h1 : 1 ≤ m.at_) (h : (planOf l m.at_).isSome = false) : planOf (l ++ [m]) = fun k => if k = m.at_ then some { m with junk := cut m.junk } else planOf l k := by
  funext k
  unfold planOf at h ⊢
  rw [if_neg (by omega)] at h
  rw [List.find?_append]
  by_cases hk : k = m.at_
  · subst hk
    rw [if_neg (by omega), if_pos rfl]
    cases hf : l.find? fun x => x.at_ == m.at_ with
    | none => simp
    | some x => rw [hf] at h; simp at h
  · have hk' : (m.at_ == k) = false := beq_eq_false_iff_ne.2 (Ne.symm hk)
    rw [if_neg hk]
    simp [hk']

/-- What holds of every array that was made. -/
structure Nd.Ok (d : Nd) : Prop where
  b1 : 16 ≤ d.B
  b2 : d.B ≤ 64
  p1 : 8 ≤ d.P
  p2 : d.P ≤ 32
  next : ∀ b, d.next b ≤ d.P
  worn : ∀ b, d.worn b ≤ d.ops
  laid : d.laid ≤ d.ops
  junk : ∀ k m, d.plan k = some m → m.junk.size ≤ 128

theorem Nd.Ok.mis {d : Nd} (h : d.Ok) : d.mis.junk.size ≤ 128 := by
  unfold Nd.mis
  cases hp : d.plan d.due with
  | none => exact Nat.zero_le _
  | some m => exact h.junk _ _ hp
theorem Nd.Ok.counted {d : Nd} (h : d.Ok) : d.counted.Ok where
  b1 := h.b1
  b2 := h.b2
  p1 := h.p1
  p2 := h.p2
  next := h.next
  worn b := Nat.le_succ_of_le (h.worn b)
  laid := Nat.le_succ_of_le h.laid
  junk k m hk := by
    simp only [Nd.counted] at hk
    split at hk
    · cases hk
    · exact h.junk k m hk
theorem Nd.Ok.suffer {d : Nd} (h : d.Ok) (b : Nat) (c : Int) : (d.suffer b c).Ok := by
  unfold Nd.suffer
  split
  · exact ⟨h.b1, h.b2, h.p1, h.p2, h.next, h.worn, h.laid, h.junk⟩
  · split
    · exact ⟨h.b1, h.b2, h.p1, h.p2, h.next, h.worn, h.laid, h.junk⟩
    · exact h
theorem Nd.Ok.wrote {d : Nd} (h : d.Ok) (p : Nat) (s : ByteArray) (hn : d.next (p / d.P) < d.P) : (d.wrote p s).Ok := by
  refine ⟨h.b1, h.b2, h.p1, h.p2, fun b => ?_, h.worn, h.laid, h.junk⟩
  show put d.next (p / d.P) (d.next (p / d.P) + 1) b ≤ d.P
  unfold put
  split
  · exact hn
  · exact h.next b
theorem may_zero {d : Nd} {p : Int} {s : ByteArray} (h : d.mayProgram p s = 0) : d.down = false ∧ d.hasPage p = true ∧ s.size ≤ 128 ∧ d.bad (p.toNat / d.P) = false ∧ d.next (p.toNat / d.P) = p.toNat % d.P := by
  unfold Nd.mayProgram at h
  cases h1 : d.down <;> rw [h1] at h
  · cases h2 : d.hasPage p <;> simp [h2] at h
    by_cases h3 : 128 < s.size
    · simp [h3] at h
    · simp [h3] at h
      cases h4 : d.bad (p.toNat / d.P) <;> simp [h4] at h
      exact ⟨rfl, rfl, by omega, rfl, h⟩
  · simp at h
theorem mayE_zero {d : Nd} {b : Int} (h : d.mayErase b = 0) : d.down = false ∧ d.hasBlock b = true ∧ d.bad b.toNat = false := by
  unfold Nd.mayErase at h
  cases h1 : d.down <;> rw [h1] at h
  · cases h2 : d.hasBlock b <;> simp [h2] at h
    exact ⟨rfl, rfl, h⟩
  · simp at h
theorem Nd.Ok.program {d : Nd} (h : d.Ok) (p : Int) (s : ByteArray) : (d.program p s).1.Ok := by
  unfold Nd.program
  split
  · exact h
  · rename_i h0
    have h0 : d.mayProgram p s = 0 := Classical.byContradiction h0
    refine ((h.counted).wrote _ _ ?_).suffer _ _
    show d.next (p.toNat / d.P) < d.P
    rw [(may_zero h0).2.2.2.2]
    exact Nat.mod_lt _ (by have := h.p1; omega)
theorem Nd.Ok.fill {d : Nd} (h : d.Ok) (b : Nat) (s : ByteArray) : (d.fill b s).Ok := ⟨h.b1, h.b2, h.p1, h.p2, h.next, h.worn, h.laid, h.junk⟩
theorem Nd.Ok.erase {d : Nd} (h : d.Ok) (b : Int) : (d.erase b).1.Ok := by
  unfold Nd.erase
  split
  · exact h
  · refine Nd.Ok.suffer ?_ _ _
    have hc := h.counted
    unfold Nd.erased
    split
    · refine ⟨hc.b1, hc.b2, hc.p1, hc.p2, fun k => ?_, fun k => ?_, hc.laid, hc.junk⟩
      · show put d.counted.next b.toNat 0 k ≤ _
        unfold put
        split
        · exact Nat.zero_le _
        · exact hc.next k
      · show put d.counted.worn b.toNat (d.counted.worn b.toNat + 1) k ≤ d.ops + 1
        unfold put
        split
        · exact Nat.succ_le_succ (h.worn _)
        · exact hc.worn k
    · split
      · refine ⟨hc.b1, hc.b2, hc.p1, hc.p2, fun k => ?_, hc.worn, hc.laid, hc.junk⟩
        show put d.counted.next b.toNat d.P k ≤ d.P
        unfold put
        split
        · exact Nat.le_refl _
        · exact hc.next k
      · exact hc
theorem Nd.Ok.planned {d : Nd} (h : d.Ok) (l : List Mis) : (d.planned l).Ok := by
  refine ⟨h.b1, h.b2, h.p1, h.p2, h.next, h.worn, Nat.le_refl _, fun k m hk => ?_⟩
  simp only [Nd.planned, planOf] at hk
  split at hk
  · cases hk
  · cases hf : l.find? (fun m => m.at_ == k) with
    | none => rw [hf] at hk; cases hk
    | some x =>
      rw [hf] at hk
      injection hk with hk
      rw [← hk]
      exact cut_size _
theorem Nd.Ok.up {d : Nd} (h : d.Ok) : d.up.Ok := ⟨h.b1, h.b2, h.p1, h.p2, h.next, h.worn, h.laid, fun k m hk => by simp [Nd.up] at hk⟩

theorem suffer_ops (d : Nd) (b : Nat) (c : Int) : (d.suffer b c).ops = d.ops := by
  unfold Nd.suffer
  split
  · rfl
  · split <;> rfl
theorem erased_ops (d : Nd) (b : Nat) (m : Mis) (c : Int) : (d.erased b m c).ops = d.ops := by
  unfold Nd.erased
  split
  · rfl
  · split <;> rfl
theorem program_ops (d : Nd) (p : Int) (s : ByteArray) : (d.program p s).1.ops ≤ d.ops + 1 := by
  unfold Nd.program
  split
  · exact Nat.le_succ _
  · rw [suffer_ops]; exact Nat.le_refl _
theorem erase_ops (d : Nd) (b : Int) : (d.erase b).1.ops ≤ d.ops + 1 := by
  unfold Nd.erase
  split
  · exact Nat.le_succ _
  · rw [suffer_ops, erased_ops]; exact Nat.le_refl _

/-- A new array. -/
def fresh (B P : Nat) : Nd := ⟨B, P, fun _ => ByteArray.empty, fun _ => 0, fun _ => 0, fun _ => false, 0, 0, fun _ => none, false⟩
theorem fresh_ok {B P : Nat} (h1 : 16 ≤ B) (h2 : B ≤ 64) (h3 : 8 ≤ P) (h4 : P ≤ 32) : (fresh B P).Ok :=
  ⟨h1, h2, h3, h4, fun _ => Nat.zero_le _, fun _ => Nat.le_refl _, Nat.le_refl _, fun k m hk => by simp [fresh] at hk⟩
end ND
end Go.Proofs.YtdjlflinepefbabGreat

/- A map keyed by an int, of whatever values, as a function of its keys. No program. -/
namespace Go.Proofs.YtdjlflinepefbabGreat
namespace MM
open Go.RowKit Go.Maps Go.MapKept
set_option linter.unusedVariables false

/-- An element read as itself. -/
def self (v : Value) : Option (DataW Value × List MemPlace) := some (.held v, [])
def heldOf : Option Value → DataW Value
  | none => .nil
  | some v => .held v
/-- The block b is a map of at most n entries; at the key a it holds g a. -/
def MapAt (P : Program) (k : TypeId) (w : World) (b n : Nat) (g : Int → Option Value) : Prop :=
  ∃ D : DataW Value, w.ownsMap P k self b n D ∧ ∀ a, (Lit.int .i64 a).wf = true → D.atKey (.int .i64 a) .nil = heldOf (g a)

section
variable {P : Program} {k t e : TypeId} {w : World} {b n : Nat} {g : Int → Option Value}
theorem MapAt.lt (h : MapAt P k w b n g) : b < w.heap.size := by obtain ⟨D, h, _⟩ := h; exact h.lt
theorem MapAt.made (P : Program) (k : TypeId) (w : World) : MapAt P k (w.alloc (.map #[] 0)) w.heap.size 0 fun _ => none :=
  ⟨_, World.ownsMap_made w P k self, fun a _ => rfl⟩
theorem MapAt.block {w' : World} (h : MapAt P k w b n g) (hb : w'.heap[b]? = w.heap[b]?) : MapAt P k w' b n g := by
  obtain ⟨D, ⟨es, clock, hh, r⟩, hg⟩ := h
  exact ⟨D, ⟨es, clock, hb.trans hh, r⟩, hg⟩
theorem MapAt.ne {cs : Array Value} {T : TypeId} {f : Nat × Nat} {q : Nat} (h : MapAt P k w b n g) (hq : w.heap[q]? = some (.cells cs T f)) : b ≠ q := by
  rintro rfl
  obtain ⟨D, ⟨es, clock, hh, r⟩, hg⟩ := h
  rw [hh] at hq
  cases hq
theorem MapAt.look (c : Bool) (h : MapAt P k w b n g) (hk : P.underlying k = some (.int .i64)) (ht : P.underlying t = some (.map k e)) {z : Value} (hz : (zeroValue e).run P w = .ok z w) {a : Int} (ha : (Lit.int .i64 a).wf = true) :
    (Instr.lookup t (.map (some b)) (.int .i64 a) c).run P w = .ok (if c then .tuple #[(g a).getD z, .bool (g a).isSome] else (g a).getD z) w := by
  obtain ⟨D, ⟨es, clock, hh, F, hs, rfl⟩, hg⟩ := h
  have hat := hg a ha
  rcases Maps.fit_look c (int_keyed hk) ht hz hh F (keyOf_int_mk hk ha) with ⟨hrun, _, h2⟩ | ⟨e0, y, _, _, hrun, hRv, h2, _⟩
  · rw [h2] at hat
    cases hga : g a with
    | none => rw [hrun]; rfl
    | some v => rw [hga] at hat; cases hat
  · rw [h2] at hat
    simp only [self, Option.some.injEq] at hRv
    rw [← hRv] at hat
    cases hga : g a with
    | none => rw [hga] at hat; cases hat
    | some v =>
      rw [hga] at hat
      injection hat with hat
      rw [hrun, hat]
      rfl
theorem MapAt.drop (h : MapAt P k w b n g) (hk : P.underlying k = some (.int .i64)) (ht : P.underlying t = some (.map k e)) {a : Int} (ha : (Lit.int .i64 a).wf = true) (ty : TypeId) :
    ∃ w', (Builtin.delete_ #[t, k] ty #[.map (some b), .int .i64 a]).run P w = .ok (.tuple #[]) w' ∧ MapAt P k w' b n (fun x => if x = a then none else g x) ∧ w.grownBy w' (some b) := by
  obtain ⟨D, hown, hg⟩ := h
  obtain ⟨w', hrun, ho, hm⟩ := hown.drop (int_keyed hk) ht (keyOf_int_mk hk ha) ty
  refine ⟨w', hrun, ⟨_, ho, fun x hx => ?_⟩, hm.grown⟩
  show _ = heldOf (if x = a then none else g x)
  by_cases hxa : x = a
  · subst hxa
    rw [if_pos rfl]
    exact atKey_del_same _
  · rw [if_neg hxa, atKey_del_other (fun e => hxa (by injection e))]
    exact hg x hx
theorem MapAt.store (h : MapAt P k w b n g) (hk : P.underlying k = some (.int .i64)) (ht : P.underlying t = some (.map k e)) (hn : n < maxLen) {a : Int} (ha : (Lit.int .i64 a).wf = true) (v : Value) :
    ∃ w', (Instr.mapUpdate t (.map (some b)) (.int .i64 a) v).run P w = .ok () w' ∧ MapAt P k w' b (n + 1) (fun x => if x = a then some v else g x) ∧ w.grownBy w' (some b) := by
  obtain ⟨D, hown, hg⟩ := h
  obtain ⟨w', hrun, ho, hm⟩ := hown.store (val := v) (d := .held v) (ps := []) (int_keyed hk) ht hn (keyOf_int_mk hk ha) rfl
  refine ⟨w', hrun, ⟨_, ho, fun x hx => ?_⟩, hm.grown⟩
  show _ = heldOf (if x = a then some v else g x)
  by_cases hxa : x = a
  · subst hxa
    rw [if_pos rfl]
    exact atKey_put_same hown.isMap ((int_keyed hk).key (keyOf_int_mk hk hx)) _ _
  · rw [if_neg hxa, atKey_put_other (fun e => hxa (by injection e))]
    exact hg x hx
end
/-- .. at a nil map. -/
theorem look_nil_at {P : Program} {k t e : TypeId} {w : World} (c : Bool) (hk : P.underlying k = some (.int .i64)) (ht : P.underlying t = some (.map k e)) {z : Value} (hz : (zeroValue e).run P w = .ok z w) {a : Int} (ha : (Lit.int .i64 a).wf = true) :
    (Instr.lookup t (.map none) (.int .i64 a) c).run P w = .ok (if c then .tuple #[z, .bool false] else z) w := Maps.look_nil c (int_keyed hk) ht hz (keyOf_int_mk hk ha)
theorem drop_nil_at {P : Program} {k t e : TypeId} {w : World} (hk : P.underlying k = some (.int .i64)) (ht : P.underlying t = some (.map k e)) {a : Int} (ha : (Lit.int .i64 a).wf = true) (ty : TypeId) :
    (Builtin.delete_ #[t, k] ty #[.map none, .int .i64 a]).run P w = .ok (.tuple #[]) w := Maps.drop_nil (int_keyed hk) ht (keyOf_int_mk hk ha) ty
end MM
end Go.Proofs.YtdjlflinepefbabGreat
