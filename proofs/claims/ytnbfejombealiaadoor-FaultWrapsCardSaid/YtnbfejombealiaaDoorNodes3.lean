/- The document's trees of errors (scoriaref03.Node) as they lie in memory, how they stand to errors as trees, and what scoriaref03's functions answer of them. No condition but those that each theorem names. -/
import Derived.Test.YtnbfejombealiaaDoorErBase
import Derived.Test.YtnbfejombealiaaDoorMem
import Derived.WalkSpells
import Derived.WalkLawsBesides
import Derived.Outline
namespace Go.Proofs.YtnbfejombealiaaDoor
namespace ER
open Go.RowKit MM
set_option linter.unusedVariables false
set_option linter.unusedSimpArgs false

structure Nd where
  kind : Int
  code : Int
  op : ByteArray
  at_ : Int
  kids : List Nat

/-- A node's five cells. -/
def NdC (w : World) (P : Nat → Prop) (nd : Nd) (c : Nat → Option Value) : Prop :=
  c 0 = some (.int .i64 nd.kind) ∧ c 1 = some (.int .i64 nd.code) ∧ c 2 = some (.string nd.op) ∧ c 3 = some (.int .i64 nd.at_) ∧
  ∃ ka kc, c 4 = some (.slice ka nd.kids.length kc) ∧ (nd.kids ≠ [] → ∃ g, ka = some ⟨g, 0, none⟩ ∧ P g ∧ ∀ j q : Nat, nd.kids[j]? = some q → w.cell? ⟨g, j, none⟩ = some (.int .i64 (q : Int)))
theorem NdC.keep {w w' : World} {P P' : Nat → Prop} {nd : Nd} {c : Nat → Option Value} (h : NdC w P nd c) (hP : ∀ k, P k → P' k) (hk : ∀ k, P k → w'.heap[k]? = w.heap[k]?) : NdC w' P' nd c := by
  obtain ⟨h0, h1, h2, h3, ka, kc, h4, h5⟩ := h
  refine ⟨h0, h1, h2, h3, ka, kc, h4, fun hne => ?_⟩
  obtain ⟨g, hg, hPg, hc⟩ := h5 hne
  exact ⟨g, hg, hP g hPg, fun j q hq => by rw [World.cell?_of_block (a := ⟨g, j, none⟩) (hk g hPg)]; exact hc j q hq⟩

/-- A slice of nodes. -/
def NodesAt (w : World) (B : Nat) (a : Option Addr) (ns : List Nd) : Prop :=
  ns = [] ∨ ∃ g, a = some ⟨g, 0, none⟩ ∧ g < B ∧ ∀ i nd, ns[i]? = some nd → NdC w (fun b => b < B) nd (fun j => w.cell? ⟨g, i * 5 + j, none⟩)
theorem NodesAt.below {w w' : World} {B : Nat} {a : Option Addr} {ns : List Nd} (h : NodesAt w B a ns) (hb : Below B w w') : NodesAt w' B a ns := by
  rcases h with h | ⟨g, rfl, hg, hn⟩
  · exact .inl h
  · refine .inr ⟨g, rfl, hg, fun i nd hi => ?_⟩
    have e : (fun j => w'.cell? ⟨g, i * 5 + j, none⟩) = fun j => w.cell? ⟨g, i * 5 + j, none⟩ := funext fun j => hb.cell (p := ⟨g, i * 5 + j, none⟩) hg
    rw [e]
    exact (hn i nd hi).keep (fun _ h => h) hb.block
theorem NodesAt.more {w : World} {B B' : Nat} {a : Option Addr} {ns : List Nd} (h : NodesAt w B a ns) (hB : B ≤ B') : NodesAt w B' a ns := by
  rcases h with h | ⟨g, rfl, hg, hn⟩
  · exact .inl h
  · exact .inr ⟨g, rfl, by omega, fun i nd hi => (hn i nd hi).keep (fun k hk => Nat.lt_of_lt_of_le hk hB) (fun _ _ => rfl)⟩

/-- The node at the place i says the error E, where those ahead say es. -/
def OkNd (es : List Er) (i : Nat) (nd : Nd) (E : Er) : Prop :=
  (nd.kind = 0 ∧ nd.kids = [] ∧ E = .num nd.code) ∨
  (nd.kind = 1 ∧ ∃ j e, nd.kids = [j] ∧ j < i ∧ es[j]? = some e ∧ E = .fault nd.op nd.at_ e) ∨
  (nd.kind = 2 ∧ ∃ j1 j2 e1 e2, nd.kids = [j1, j2] ∧ j1 < i ∧ j2 < i ∧ es[j1]? = some e1 ∧ es[j2]? = some e2 ∧ E = .join 2 fun q => [e1, e2].getD q .str) ∨
  (nd.kind = 3 ∧ nd.kids = [] ∧ E = .str)
def Match (ns : List Nd) (es : List Er) : Prop := ns.length = es.length ∧ ∀ i nd E, ns[i]? = some nd → es[i]? = some E → OkNd es i nd E

/-- What a node has inside, by its kids. -/
structure View (es : List Er) (i : Nat) (nd : Nd) (E : Er) (ks : List Er) : Prop where
  len : ks.length = nd.kids.length
  kid : ∀ j q : Nat, nd.kids[j]? = some q → q < i ∧ ∃ e, ks[j]? = some e ∧ es[q]? = some e
  code0 : nd.kind = 0 → E.code = some nd.code
  has0 : ∀ x, nd.kind = 0 → E.has x = (nd.code == x)
  code : nd.kind ≠ 0 → E.code = ks.findSome? Er.code
  has : ∀ x, nd.kind ≠ 0 → E.has x = ks.any (Er.has x)
  first1 : nd.kind = 1 → ∃ j e, nd.kids = [j] ∧ j < i ∧ es[j]? = some e ∧ E.first = some (nd.op, nd.at_, e)
  first : nd.kind ≠ 1 → E.first = ks.findSome? Er.first
  few : nd.kids.length ≤ 2
theorem view {es : List Er} {i : Nat} {nd : Nd} {E : Er} (h : OkNd es i nd E) : ∃ ks, View es i nd E ks := by
  rcases h with ⟨hk, hs, rfl⟩ | ⟨hk, j, e, hs, hj, he, rfl⟩ | ⟨hk, j1, j2, e1, e2, hs, h1, h2, g1, g2, rfl⟩ | ⟨hk, hs, rfl⟩
  · exact ⟨[], {
      len := by rw [hs]; rfl
      kid := fun j q h => by rw [hs] at h; simp at h
      code0 := fun _ => rfl
      has0 := fun _ _ => rfl
      code := fun h => absurd hk h
      has := fun _ h => absurd hk h
      first1 := fun h => by rw [hk] at h; cases h
      first := fun _ => rfl
      few := by rw [hs]; simp }⟩
  · exact ⟨[e], {
      len := by rw [hs]; rfl
      kid := fun q r h => by
        rw [hs] at h
        cases q with
        | zero => simp at h; subst h; exact ⟨hj, e, rfl, he⟩
        | succ q => simp at h
      code0 := fun h => by rw [hk] at h; cases h
      has0 := fun _ h => by rw [hk] at h; cases h
      code := fun _ => by show e.code = _; simp [List.findSome?]; cases e.code <;> rfl
      has := fun x _ => by show e.has x = _; simp
      first1 := fun _ => ⟨j, e, hs, hj, he, rfl⟩
      first := fun h => absurd hk h
      few := by rw [hs]; simp }⟩
  · exact ⟨[e1, e2], {
      len := by rw [hs]; rfl
      kid := fun q r h => by
        rw [hs] at h
        match q, h with
        | 0, h => simp at h; subst h; exact ⟨h1, e1, rfl, g1⟩
        | 1, h => simp at h; subst h; exact ⟨h2, e2, rfl, g2⟩
        | q + 2, h => simp at h
      code0 := fun h => by rw [hk] at h; cases h
      has0 := fun _ h => by rw [hk] at h; cases h
      code := fun _ => rfl
      has := fun x _ => rfl
      first1 := fun h => by rw [hk] at h; cases h
      first := fun _ => rfl
      few := by rw [hs]; simp }⟩
  · exact ⟨[], {
      len := by rw [hs]; rfl
      kid := fun j q h => by rw [hs] at h; simp at h
      code0 := fun h => by rw [hk] at h; cases h
      has0 := fun _ h => by rw [hk] at h; cases h
      code := fun _ => rfl
      has := fun _ _ => rfl
      first1 := fun h => by rw [hk] at h; cases h
      first := fun _ => rfl
      few := by rw [hs]; simp }⟩

theorem findSome_upto {α β : Type} (f : α → Option β) (l : List α) (j : Nat) (x : α) (y : β) (hx : l[j]? = some x) (hn : ∀ (i : Nat) (a : α), i < j → l[i]? = some a → f a = none) (hy : f x = some y) : l.findSome? f = some y := by
  induction l generalizing j with
  | nil => simp at hx
  | cons a l ih =>
    cases j with
    | zero => simp at hx; subst hx; simp [hy]
    | succ j =>
      have h0 := hn 0 a (Nat.succ_pos _) rfl
      simp [h0]
      exact ih j (by simpa using hx) (fun i b hi hb => hn (i + 1) b (Nat.succ_lt_succ hi) (by simpa using hb))
theorem findSome_all {α β : Type} (f : α → Option β) (l : List α) (hn : ∀ (i : Nat) (a : α), l[i]? = some a → f a = none) : l.findSome? f = none := by
  refine List.findSome?_eq_none_iff.2 fun a ha => ?_
  obtain ⟨i, hi⟩ := List.mem_iff_getElem?.1 ha
  exact hn i a hi
theorem any_upto {α : Type} (f : α → Bool) (l : List α) (j : Nat) (x : α) (hx : l[j]? = some x) (hy : f x = true) : l.any f = true :=
  List.any_eq_true.2 ⟨x, List.mem_of_getElem? hx, hy⟩
theorem any_none {α : Type} (f : α → Bool) (l : List α) (hn : ∀ (i : Nat) (a : α), l[i]? = some a → f a = false) : l.any f = false := by
  rw [List.any_eq_false]
  intro a ha
  obtain ⟨i, hi⟩ := List.mem_iff_getElem?.1 ha
  simp [hn i a hi]

set_option maxRecDepth 100000 in
set_option maxHeartbeats 400000 in
theorem rcode_any (ns : List Nd) (es : List Er) (hm : Match ns es) (hlen : ns.length ≤ 1000) (a : Option Addr) (c : Nat) (i : Nat) : ∀ (w : World) (B : Nat) (E : Er), NodesAt w B a ns → B ≤ w.heap.size → es[i]? = some E →
    Calls Tryd.prog 13 #[.slice a ns.length c, .int .i64 (i : Int)] w fun e w' => e = .returned (.tuple #[.int .i64 (E.code.getD 0), .bool E.code.isSome]) ∧ Below w.heap.size w w' := by
  induction i using Nat.strongRecOn with
  | _ i ih =>
  intro w B E hN hB hE
  have HIH := Lib.hid ih
  clear ih
  have hi : i < ns.length := by rw [hm.1]; exact (List.getElem?_eq_some_iff.1 hE).1
  rcases hN with h0 | ⟨g, rfl, hg, hat⟩
  · rw [h0] at hi; simp at hi
  obtain ⟨nd, hnd⟩ : ∃ nd, ns[i]? = some nd := ⟨ns[i], List.getElem?_eq_getElem hi⟩
  obtain ⟨ks, hv⟩ := view (hm.2 i nd E hnd hE)
  have hN' : NodesAt w B (some ⟨g, 0, none⟩) ns := .inr ⟨g, rfl, hg, hat⟩
  obtain ⟨c0, c1, c2, c3, ka, kc, c4, c5⟩ := hat i nd hnd
  have HN := Lib.hid hN'
  have HV := Lib.hid hv
  have HK := Lib.hid c5
  have hfew := hv.few
  have hil : (i : Int) < (ns.length : Int) := by omega
  have hi0 : (0 : Int) ≤ (i : Int) := by omega
  have d0 : w.cell? ⟨g, i * 5, none⟩ = some (.int .i64 nd.kind) := c0
  have d1 : w.cell? ⟨g, i * 5 + 1, none⟩ = some (.int .i64 nd.code) := c1
  have d2 : w.cell? ⟨g, i * 5 + 1 + 1, none⟩ = some (.string nd.op) := c2
  have d3 : w.cell? ⟨g, i * 5 + 1 + 1 + 1, none⟩ = some (.int .i64 nd.at_) := c3
  have d4 : w.cell? ⟨g, i * 5 + 1 + 1 + 1 + 1, none⟩ = some (.slice ka nd.kids.length kc) := c4
  clear hat hnd hN' hv c5 hE c0 c1 c2 c3 c4
  by_cases hk : nd.kind = 0
  · have hk' : (nd.kind == 0) = true := by simp [hk]
    have HC := Lib.hid (HV.out.code0 hk)
    clear hk
    go_enter Tryd.func13, Tryd.ntmps13
    go_wp2
    go_ret2
    exact ⟨by rw [HC.out]; rfl, (Below.refl _ _).alloc (Nat.le_refl _) _⟩
  · have hk' : (nd.kind == 0) = false := by simp [hk]
    have HC := Lib.hid (HV.out.code hk)
    clear hk
    go_enter Tryd.func13, Tryd.ntmps13
    go_wp2
    go_loopw [7] (fun s wr => ∃ j : Nat, j ≤ nd.kids.length ∧ s = .int .i64 j ∧ Below (w.heap.size + 1) (w.alloc (.cells #[.int .i64 nd.kind, .int .i64 nd.code, .string nd.op, .int .i64 nd.at_, .slice ka nd.kids.length kc] 44)) wr ∧ Hid (∀ (q : Nat) (e : Er), q < j → ks[q]? = some e → e.code = none)) (fun s _ => nd.kids.length - (intOf s).toNat)
    case atStart => exact ⟨0, Nat.zero_le _, rfl, Below.refl _ _, fun q e h => absurd h (Nat.not_lt_zero _)⟩
    case round =>
      obtain ⟨j, hj, rfl, hb, hnone⟩ := hrel
      have hbl : Below w.heap.size w wr := ((Below.refl _ _).alloc (Nat.le_refl _) _).trans (hb.mono (Nat.le_succ _))
      have e4 : wr.cell? ⟨w.heap.size, 4, none⟩ = some (.slice ka nd.kids.length kc) := by rw [hb.cell (p := ⟨w.heap.size, 4, none⟩) (Nat.lt_succ_self _), cell_of_row _ _ _ _ _ _ (heap_alloc_new w _)]; rfl
      have HB := Lib.hid hbl
      have HB' := Lib.hid hb
      have hsz := hbl.size
      clear hb hbl
      by_cases hlt : j < nd.kids.length
      · obtain ⟨gk, rfl, hgk, hck⟩ := HK.out (fun e => by rw [e] at hlt; simp at hlt)
        obtain ⟨q, hq⟩ : ∃ q, nd.kids[j]? = some q := ⟨_, List.getElem?_eq_getElem hlt⟩
        obtain ⟨hqi, e', hke, hes⟩ := HV.out.kid j q hq
        have hgk' : gk < w.heap.size := Nat.lt_of_lt_of_le hgk hB
        have cq : wr.cell? ⟨gk, j, none⟩ = some (.int .i64 (q : Int)) := by rw [HB.out.cell (p := ⟨gk, j, none⟩) hgk']; exact hck j q hq
        have IH := Lib.hid (HIH.out q hqi wr B e' (HN.out.below (HB.out.mono hB)) (by omega) hes)
        clear hck hq
        cases hce : e'.code with
        | none =>
          rw [hce] at IH
          have HNE : Hid (∀ (q : Nat) (e : Er), q < j + 1 → ks[q]? = some e → e.code = none) := fun r e hr hre => by
            by_cases h : r = j
            · subst h; rw [hke] at hre; cases hre; exact hce
            · exact hnone.out r e (by omega) hre
          clear hce
          go_wp2_with fail
          refine IH.out.mono ?_
          rintro e w1 ⟨rfl, hb1⟩
          have HB1 := Lib.hid hb1
          clear hb1
          go_wp2
          go_roundw
          case rel => exact ⟨j + 1, by omega, by go_num, HB'.out.trans (HB1.out.mono (by have := HB'.out.size; simpa using this)), HNE⟩
          case measure => simp [intOf]; omega
        | some x =>
          rw [hce] at IH
          have HX : Hid (E.code = some x) := by show _ = _; rw [HC.out]; exact findSome_upto Er.code ks j e' x hke (fun i a hi ha => hnone.out i a hi ha) hce
          clear hce
          go_wp2_with fail
          refine IH.out.mono ?_
          rintro e w1 ⟨rfl, hb1⟩
          have HB1 := Lib.hid hb1
          clear hb1
          go_wp2
          go_ret2
          exact ⟨by rw [HX.out]; rfl, HB.out.trans (HB1.out.mono hsz)⟩
      · obtain rfl : j = nd.kids.length := by omega
        have HX : Hid (E.code = none) := by
          show _ = _
          rw [HC.out]
          refine findSome_all Er.code ks fun i a ha => hnone.out i a ?_ ha
          rw [← HV.out.len]
          exact (List.getElem?_eq_some_iff.1 ha).1
        go_wp2
        go_ret2
        exact ⟨by rw [HX.out]; rfl, HB.out⟩
theorem ret_bool' {a b : Bool} (h : a = b) : Ending.returned (.bool a) = Ending.returned (.bool b) := by rw [h]

set_option maxRecDepth 100000 in
set_option maxHeartbeats 400000 in
theorem rhas_any (ns : List Nd) (es : List Er) (hm : Match ns es) (hlen : ns.length ≤ 1000) (a : Option Addr) (c : Nat) (i : Nat) : ∀ (w : World) (B : Nat) (E : Er) (x : Int), NodesAt w B a ns → B ≤ w.heap.size → es[i]? = some E →
    Calls Tryd.prog 15 #[.slice a ns.length c, .int .i64 (i : Int), .int .i64 x] w fun e w' => e = .returned (.bool (E.has x)) ∧ Below w.heap.size w w' := by
  induction i using Nat.strongRecOn with
  | _ i ih =>
  intro w B E x hN hB hE
  have HIH := Lib.hid ih
  clear ih
  have hi : i < ns.length := by rw [hm.1]; exact (List.getElem?_eq_some_iff.1 hE).1
  rcases hN with h0 | ⟨g, rfl, hg, hat⟩
  · rw [h0] at hi; simp at hi
  obtain ⟨nd, hnd⟩ : ∃ nd, ns[i]? = some nd := ⟨ns[i], List.getElem?_eq_getElem hi⟩
  obtain ⟨ks, hv⟩ := view (hm.2 i nd E hnd hE)
  have hN' : NodesAt w B (some ⟨g, 0, none⟩) ns := .inr ⟨g, rfl, hg, hat⟩
  obtain ⟨c0, c1, c2, c3, ka, kc, c4, c5⟩ := hat i nd hnd
  have HN := Lib.hid hN'
  have HV := Lib.hid hv
  have HK := Lib.hid c5
  have hfew := hv.few
  have hil : (i : Int) < (ns.length : Int) := by omega
  have hi0 : (0 : Int) ≤ (i : Int) := by omega
  have d0 : w.cell? ⟨g, i * 5, none⟩ = some (.int .i64 nd.kind) := c0
  have d1 : w.cell? ⟨g, i * 5 + 1, none⟩ = some (.int .i64 nd.code) := c1
  have d2 : w.cell? ⟨g, i * 5 + 1 + 1, none⟩ = some (.string nd.op) := c2
  have d3 : w.cell? ⟨g, i * 5 + 1 + 1 + 1, none⟩ = some (.int .i64 nd.at_) := c3
  have d4 : w.cell? ⟨g, i * 5 + 1 + 1 + 1 + 1, none⟩ = some (.slice ka nd.kids.length kc) := c4
  clear hat hnd hN' hv c5 hE c0 c1 c2 c3 c4
  by_cases hk : nd.kind = 0
  · have hk' : (nd.kind == 0) = true := by simp [hk]
    have HC := Lib.hid (HV.out.has0 x hk)
    clear hk
    go_enter Tryd.func15, Tryd.ntmps15
    go_wp2
    go_ret
    exact ⟨ret_bool' HC.out.symm, (Below.refl _ _).alloc (Nat.le_refl _) _⟩
  · have hk' : (nd.kind == 0) = false := by simp [hk]
    have HC := Lib.hid (HV.out.has x hk)
    clear hk
    go_enter Tryd.func15, Tryd.ntmps15
    go_wp2
    go_loopw [8] (fun s wr => ∃ j : Nat, j ≤ nd.kids.length ∧ s = .int .i64 j ∧ Below (w.heap.size + 1) (w.alloc (.cells #[.int .i64 nd.kind, .int .i64 nd.code, .string nd.op, .int .i64 nd.at_, .slice ka nd.kids.length kc] 44)) wr ∧ Hid (∀ (q : Nat) (e : Er), q < j → ks[q]? = some e → e.has x = false)) (fun s _ => nd.kids.length - (intOf s).toNat)
    case atStart => exact ⟨0, Nat.zero_le _, rfl, Below.refl _ _, fun q e h => absurd h (Nat.not_lt_zero _)⟩
    case round =>
      obtain ⟨j, hj, rfl, hb, hnone⟩ := hrel
      have hbl : Below w.heap.size w wr := ((Below.refl _ _).alloc (Nat.le_refl _) _).trans (hb.mono (Nat.le_succ _))
      have e4 : wr.cell? ⟨w.heap.size, 4, none⟩ = some (.slice ka nd.kids.length kc) := by rw [hb.cell (p := ⟨w.heap.size, 4, none⟩) (Nat.lt_succ_self _), cell_of_row _ _ _ _ _ _ (heap_alloc_new w _)]; rfl
      have HB := Lib.hid hbl
      have HB' := Lib.hid hb
      have hsz := hbl.size
      clear hb hbl
      by_cases hlt : j < nd.kids.length
      · obtain ⟨gk, rfl, hgk, hck⟩ := HK.out (fun e => by rw [e] at hlt; simp at hlt)
        obtain ⟨q, hq⟩ : ∃ q, nd.kids[j]? = some q := ⟨_, List.getElem?_eq_getElem hlt⟩
        obtain ⟨hqi, e', hke, hes⟩ := HV.out.kid j q hq
        have hgk' : gk < w.heap.size := Nat.lt_of_lt_of_le hgk hB
        have cq : wr.cell? ⟨gk, j, none⟩ = some (.int .i64 (q : Int)) := by rw [HB.out.cell (p := ⟨gk, j, none⟩) hgk']; exact hck j q hq
        have IH := Lib.hid (HIH.out q hqi wr B e' x (HN.out.below (HB.out.mono hB)) (by omega) hes)
        clear hck hq
        cases hce : (e'.has x) with
        | false =>
          rw [hce] at IH
          have HNE : Hid (∀ (q : Nat) (e : Er), q < j + 1 → ks[q]? = some e → e.has x = false) := fun r e hr hre => by
            by_cases h : r = j
            · subst h; rw [hke] at hre; cases hre; exact hce
            · exact hnone.out r e (by omega) hre
          clear hce
          go_wp2_with fail
          refine IH.out.mono ?_
          rintro e w1 ⟨rfl, hb1⟩
          have HB1 := Lib.hid hb1
          clear hb1
          go_wp2
          go_roundw
          case rel => exact ⟨j + 1, by omega, by go_num, HB'.out.trans (HB1.out.mono (by have := HB'.out.size; simpa using this)), HNE⟩
          case measure => simp [intOf]; omega
        | true =>
          rw [hce] at IH
          have HX : Hid (E.has x = true) := by show _ = _; rw [HC.out]; exact any_upto (Er.has x) ks j e' hke hce
          clear hce
          go_wp2_with fail
          refine IH.out.mono ?_
          rintro e w1 ⟨rfl, hb1⟩
          have HB1 := Lib.hid hb1
          clear hb1
          go_wp2
          go_ret
          exact ⟨ret_bool' HX.out.symm, HB.out.trans (HB1.out.mono hsz)⟩
      · obtain rfl : j = nd.kids.length := by omega
        have HX : Hid (E.has x = false) := by
          show _ = _
          rw [HC.out]
          refine any_none (Er.has x) ks fun i a ha => hnone.out i a ?_ ha
          rw [← HV.out.len]
          exact (List.getElem?_eq_some_iff.1 ha).1
        go_wp2
        go_ret
        exact ⟨ret_bool' HX.out.symm, HB.out⟩

/-- What first answers: none below 0, else the place of the first step's node. -/
def RFirst (es : List Er) (ns : List Nd) (i : Nat) (E : Er) (r : Int) : Prop :=
  (E.first = none → r = -1) ∧ ∀ op m e, E.first = some (op, m, e) → ∃ (q : Nat) (nd : Nd) (j : Nat), r = (q : Int) ∧ q ≤ i ∧ ns[q]? = some nd ∧ nd.op = op ∧ nd.at_ = m ∧ nd.kids = [j] ∧ j < q ∧ es[j]? = some e

set_option maxRecDepth 100000 in
set_option maxHeartbeats 400000 in
theorem rfirst_any (ns : List Nd) (es : List Er) (hm : Match ns es) (hlen : ns.length ≤ 1000) (a : Option Addr) (c : Nat) (i : Nat) : ∀ (w : World) (B : Nat) (E : Er), NodesAt w B a ns → B ≤ w.heap.size → es[i]? = some E →
    Calls Tryd.prog 26 #[.slice a ns.length c, .int .i64 (i : Int)] w fun e w' => ∃ r, e = .returned (.int .i64 r) ∧ RFirst es ns i E r ∧ Below w.heap.size w w' := by
  induction i using Nat.strongRecOn with
  | _ i ih =>
  intro w B E hN hB hE
  have HIH := Lib.hid ih
  clear ih
  have hi : i < ns.length := by rw [hm.1]; exact (List.getElem?_eq_some_iff.1 hE).1
  rcases hN with h0 | ⟨g, rfl, hg, hat⟩
  · rw [h0] at hi; simp at hi
  obtain ⟨nd, hnd⟩ : ∃ nd, ns[i]? = some nd := ⟨ns[i], List.getElem?_eq_getElem hi⟩
  obtain ⟨ks, hv⟩ := view (hm.2 i nd E hnd hE)
  have hN' : NodesAt w B (some ⟨g, 0, none⟩) ns := .inr ⟨g, rfl, hg, hat⟩
  obtain ⟨c0, c1, c2, c3, ka, kc, c4, c5⟩ := hat i nd hnd
  have HN := Lib.hid hN'
  have HV := Lib.hid hv
  have HK := Lib.hid c5
  have hfew := hv.few
  have hil : (i : Int) < (ns.length : Int) := by omega
  have hi0 : (0 : Int) ≤ (i : Int) := by omega
  have d0 : w.cell? ⟨g, i * 5, none⟩ = some (.int .i64 nd.kind) := c0
  have d1 : w.cell? ⟨g, i * 5 + 1, none⟩ = some (.int .i64 nd.code) := c1
  have d2 : w.cell? ⟨g, i * 5 + 1 + 1, none⟩ = some (.string nd.op) := c2
  have d3 : w.cell? ⟨g, i * 5 + 1 + 1 + 1, none⟩ = some (.int .i64 nd.at_) := c3
  have d4 : w.cell? ⟨g, i * 5 + 1 + 1 + 1 + 1, none⟩ = some (.slice ka nd.kids.length kc) := c4
  have HND := Lib.hid hnd
  clear hat hnd hN' hv c5 hE c0 c1 c2 c3 c4
  by_cases hk : nd.kind = 1
  · have hk' : (nd.kind == 1) = true := by simp [hk]
    have HF : Hid (RFirst es ns i E (i : Int)) := by
      obtain ⟨j, e, hs, hj, he, hf⟩ := HV.out.first1 hk
      refine ⟨fun h => (by rw [hf] at h; cases h), fun op m e' h => ?_⟩
      rw [hf] at h
      cases h
      exact ⟨i, nd, j, rfl, Nat.le_refl _, HND.out, rfl, rfl, hs, hj, he⟩
    clear hk
    go_enter Tryd.func26, Tryd.ntmps26
    go_wp2
    go_ret
    exact ⟨_, rfl, HF.out, (Below.refl _ _).alloc (Nat.le_refl _) _⟩
  · have hk' : (nd.kind == 1) = false := by simp [hk]
    have HC := Lib.hid (HV.out.first hk)
    clear hk
    go_enter Tryd.func26, Tryd.ntmps26
    go_wp2
    go_loopw [6] (fun s wr => ∃ j : Nat, j ≤ nd.kids.length ∧ s = .int .i64 j ∧ Below (w.heap.size + 1) (w.alloc (.cells #[.int .i64 nd.kind, .int .i64 nd.code, .string nd.op, .int .i64 nd.at_, .slice ka nd.kids.length kc] 44)) wr ∧ Hid (∀ (q : Nat) (e : Er), q < j → ks[q]? = some e → e.first = none)) (fun s _ => nd.kids.length - (intOf s).toNat)
    case atStart => exact ⟨0, Nat.zero_le _, rfl, Below.refl _ _, fun q e h => absurd h (Nat.not_lt_zero _)⟩
    case round =>
      obtain ⟨j, hj, rfl, hb, hnone⟩ := hrel
      have hbl : Below w.heap.size w wr := ((Below.refl _ _).alloc (Nat.le_refl _) _).trans (hb.mono (Nat.le_succ _))
      have e4 : wr.cell? ⟨w.heap.size, 4, none⟩ = some (.slice ka nd.kids.length kc) := by rw [hb.cell (p := ⟨w.heap.size, 4, none⟩) (Nat.lt_succ_self _), cell_of_row _ _ _ _ _ _ (heap_alloc_new w _)]; rfl
      have HB := Lib.hid hbl
      have HB' := Lib.hid hb
      have hsz := hbl.size
      clear hb hbl
      by_cases hlt : j < nd.kids.length
      · obtain ⟨gk, rfl, hgk, hck⟩ := HK.out (fun e => by rw [e] at hlt; simp at hlt)
        obtain ⟨q, hq⟩ : ∃ q, nd.kids[j]? = some q := ⟨_, List.getElem?_eq_getElem hlt⟩
        obtain ⟨hqi, e', hke, hes⟩ := HV.out.kid j q hq
        have hgk' : gk < w.heap.size := Nat.lt_of_lt_of_le hgk hB
        have cq : wr.cell? ⟨gk, j, none⟩ = some (.int .i64 (q : Int)) := by rw [HB.out.cell (p := ⟨gk, j, none⟩) hgk']; exact hck j q hq
        have IH := Lib.hid (HIH.out q hqi wr B e' (HN.out.below (HB.out.mono hB)) (by omega) hes)
        clear hck hq
        cases hce : e'.first with
        | none =>
          have HNE : Hid (∀ (q : Nat) (e : Er), q < j + 1 → ks[q]? = some e → e.first = none) := fun r e hr hre => by
            by_cases h : r = j
            · subst h; rw [hke] at hre; cases hre; exact hce
            · exact hnone.out r e (by omega) hre
          have HCE := Lib.hid hce
          clear hce
          go_wp2_with fail
          refine IH.out.mono ?_
          rintro e w1 ⟨r, rfl, hr, hb1⟩
          obtain rfl : r = -1 := hr.1 HCE.out
          have HB1 := Lib.hid hb1
          clear hb1 hr
          go_wp2
          go_roundw
          case rel => exact ⟨j + 1, by omega, by go_num, HB'.out.trans (HB1.out.mono (by have := HB'.out.size; simpa using this)), HNE⟩
          case measure => simp [intOf]; omega
        | some z =>
          obtain ⟨op, m, e1⟩ := z
          have HX : Hid (E.first = some (op, m, e1)) := by show _ = _; rw [HC.out]; exact findSome_upto Er.first ks j e' _ hke (fun i a hi ha => hnone.out i a hi ha) hce
          have HCE := Lib.hid hce
          clear hce
          go_wp2_with fail
          refine IH.out.mono ?_
          rintro e w1 ⟨r, rfl, hr, hb1⟩
          obtain ⟨q', nd', j', rfl, hq', hnd', hop, hm', hs', hj', he'⟩ := hr.2 op m e1 HCE.out
          have HF : Hid (RFirst es ns i E (q' : Int)) := by
            refine ⟨fun h => (by rw [HX.out] at h; cases h), fun op2 m2 e2 h => ?_⟩
            rw [HX.out] at h
            cases h
            exact ⟨q', nd', j', rfl, by omega, hnd', hop, hm', hs', hj', he'⟩
          have HB1 := Lib.hid hb1
          clear hb1 hr hnd' hop hm' hs' he'
          go_wp2
          go_ret
          exact ⟨_, rfl, HF.out, HB.out.trans (HB1.out.mono hsz)⟩
      · obtain rfl : j = nd.kids.length := by omega
        have HX : Hid (E.first = none) := by
          show _ = _
          rw [HC.out]
          refine findSome_all Er.first ks fun i a ha => hnone.out i a ?_ ha
          rw [← HV.out.len]
          exact (List.getElem?_eq_some_iff.1 ha).1
        go_wp2
        go_ret
        exact ⟨-1, rfl, ⟨fun _ => rfl, fun op m e h => by rw [HX.out] at h; cases h⟩, HB.out⟩

theorem match_dep {ns : List Nd} {es : List Er} (hm : Match ns es) : ∀ (i : Nat) (E : Er), es[i]? = some E → E.dep ≤ i := by
  intro i
  induction i using Nat.strongRecOn with
  | _ i ih =>
    intro E hE
    have hi : i < ns.length := by rw [hm.1]; exact (List.getElem?_eq_some_iff.1 hE).1
    rcases hm.2 i ns[i] E (List.getElem?_eq_getElem hi) hE with ⟨_, _, rfl⟩ | ⟨_, j, e, _, hj, he, rfl⟩ | ⟨_, j1, j2, e1, e2, _, h1, h2, g1, g2, rfl⟩ | ⟨_, _, rfl⟩
    · exact Nat.zero_le _
    · have := ih j hj e he
      show e.dep + 1 ≤ i
      omega
    · have a1 := ih j1 h1 e1 g1
      have a2 := ih j2 h2 e2 g2
      have : (Er.join 2 fun q => [e1, e2].getD q .str).dep = max e1.dep (max e2.dep 0) + 1 := rfl
      rw [this]
      omega
    · exact Nat.zero_le _

theorem info_int : (Tryd.prog.info? 3).map (fun i => (i.zero, i.size, i.bytes)) = some (some (.int .i64 0), 1, 8) := by kernel_rfl
/-- The places ts are those of the steps tr, in order. -/
def Places (ns : List Nd) (ts : List Nat) (tr : List (ByteArray × Int)) : Prop :=
  ts.length = tr.length ∧ ∀ (j q : Nat), ts[j]? = some q → ∃ nd, ns[q]? = some nd ∧ tr[j]? = some (nd.op, nd.at_)
theorem Places.snoc {ns : List Nd} {ts : List Nat} {tr : List (ByteArray × Int)} (h : Places ns ts tr) {q : Nat} {nd : Nd} (hq : ns[q]? = some nd) : Places ns (ts ++ [q]) (tr ++ [(nd.op, nd.at_)]) := by
  refine ⟨by simp [h.1], fun j r hr => ?_⟩
  by_cases hj : j < ts.length
  · rw [List.getElem?_append_left hj] at hr
    obtain ⟨nd', h1, h2⟩ := h.2 j r hr
    exact ⟨nd', h1, by rw [List.getElem?_append_left (by rw [← h.1]; exact hj)]; exact h2⟩
  · have hjl : j = ts.length := by
      have := (List.getElem?_eq_some_iff.1 hr).1
      simp at this
      omega
    subst hjl
    rw [List.getElem?_append_right (Nat.le_refl _)] at hr
    simp at hr
    subst hr
    exact ⟨nd, hq, by rw [h.1, List.getElem?_append_right (Nat.le_refl _)]; simp⟩
def intCells (ts : List Nat) : List Value := ts.map fun (q : Nat) => Value.int .i64 (q : Int)

set_option maxRecDepth 100000 in
set_option maxHeartbeats 1000000 in
theorem rtrail_any (ns : List Nd) (es : List Er) (hm : Match ns es) (hlen : ns.length ≤ 1000) (a : Option Addr) (c : Nat) (i : Nat) (w : World) (B : Nat) (E : Er) (hN : NodesAt w B a ns) (hB : B ≤ w.heap.size) (hE : es[i]? = some E) :
    Calls Tryd.prog 17 #[.slice a ns.length c, .int .i64 (i : Int)] w fun e w' => ∃ v ts, e = .returned v ∧ w'.ownsRow w.heap.size 3 1 v ts.length (intCells ts) ∧ Places ns ts E.trail ∧ Below w.heap.size w w' := by
  obtain ⟨i0, hi, hz0, hz1, hz2⟩ := info_parts info_int
  have hil : i < ns.length := by rw [hm.1]; exact (List.getElem?_eq_some_iff.1 hE).1
  have hdep : E.dep ≤ 1000 := by have := match_dep hm i E hE; omega
  have HM := Lib.hid hm
  have HN := Lib.hid hN
  have H1 := Lib.hid (rfirst_any ns es hm hlen a c i w B E hN hB hE)
  have HE := Lib.hid hE
  have HD := Lib.hid hdep
  clear hm hN hE hdep
  go_enter Tryd.func17, Tryd.ntmps17
  go_wp2_with fail
  refine H1.out.mono ?_
  rintro e w1 ⟨r, rfl, hr, hb1⟩
  have HR := Lib.hid hr
  have HB1 := Lib.hid hb1
  clear hr hb1
  go_wp2
  go_loopg [5, 6] E.dep (fun g s5 s6 wr => ∃ (ts : List Nat) (done : List (ByteArray × Int)) (E' : Er) (i' : Nat) (x : Int), g = E'.dep ∧ s6 = .int .i64 x ∧ i' < ns.length ∧ RFirst es ns i' E' x ∧ Hid (E.trail = done ++ E'.trail) ∧ Places ns ts done ∧ ts.length + E'.dep ≤ 1000 ∧ wr.ownsRow w.heap.size 3 1 s5 ts.length (intCells ts) ∧ Below w.heap.size w wr)
  case atStart => exact ⟨[], [], E, i, r, rfl, rfl, hil, HR.out, rfl, ⟨rfl, fun j q h => by simp at h⟩, by simpa using HD.out, World.ownsRow_nil _ _ _ _, HB1.out⟩
  case round =>
    obtain ⟨ts, done, E', i', x, rfl, rfl, hi', hrf, htr, hpl, htl, hown, hbel⟩ := hrel
    have hsz := hbel.size
    have HRF := Lib.hid hrf
    have HPL := Lib.hid hpl
    have HO := Lib.hid hown
    have HB := Lib.hid hbel
    clear hrf hpl hown hbel
    cases hc : E'.first with
    | none =>
      obtain rfl : x = -1 := HRF.out.1 hc
      have hfin : Hid (E.trail = done) := by show _ = _; rw [htr.out, trail_first, hc]; simp
      clear hc
      go_wp2
      go_ret
      exact ⟨_, ts, rfl, HO.out, by rw [hfin.out]; exact HPL.out, HB.out⟩
    | some z =>
      obtain ⟨op, m, e1⟩ := z
      obtain ⟨q, nd, j, rfl, hqi, hnd, hop, hat, hkids, hjq, hej⟩ := HRF.out.2 op m e1 hc
      have hdp := first_dep E' hc
      have HTR : Hid (E.trail = (done ++ [(nd.op, nd.at_)]) ++ e1.trail) := by show _ = _; rw [htr.out, trail_first, hc, hop, hat]; simp
      have HPL2 := Lib.hid (HPL.out.snoc hnd)
      rcases HN.out with h0 | ⟨g, rfl, hg, hcells⟩
      · rw [h0] at hil; simp at hil
      obtain ⟨_, _, _, _, ka, kc, c4, c5⟩ := hcells q nd hnd
      obtain ⟨gk, rfl, hgk, hck⟩ := c5 (by rw [hkids]; simp)
      have hk0 := hck 0 j (by rw [hkids]; rfl)
      rw [hkids] at c4
      have c4' : w.cell? ⟨g, q * 5 + 4, none⟩ = some (.slice (some ⟨gk, 0, none⟩) 1 kc) := c4
      have hgw : g < w.heap.size := Nat.lt_of_lt_of_le hg hB
      have hgkw : gk < w.heap.size := Nat.lt_of_lt_of_le hgk hB
      have hq1 : (q : Int) < (ns.length : Int) := by omega
      have hq0 : (0 : Int) ≤ (q : Int) := by omega
      have HC4 := Lib.hid c4'
      have HK0 := Lib.hid hk0
      have HEJ := Lib.hid hej
      clear hc hnd hop hat hkids c4 c5 hck hk0 c4' hcells hej
      go_wp2_with (at_builtin; refine wpList_append_own _ rfl _ _ 39 rfl w.heap.size 3 i0 (.int .i64 0) 1 8 Tryd.underlying39 hi hz0 hz1 hz2 rfl (by decide) _ _ _ rfl (HO.out.alloc _) ⟨wr.heap.size, 0, none⟩ 1 1 [.int .i64 (q : Int)] rfl rfl ?c1 ?c2 ?c3 ?c4 ?c5 ?_)
      case c2 => rfl
      case c3 => unfold maxLen; omega
      case c4 => omega
      case c5 => omega
      intro v' w3 hown3 hgrow _
      have hb3 : Below w.heap.size w w3 := (HB.out.alloc (by omega) _).grown hgrow (by simp; omega) (fun j hj => (HO.out.lt j hj).1)
      have e4 : w3.cell? ⟨g, q * 5 + 4, none⟩ = some (.slice (some ⟨gk, 0, none⟩) 1 kc) := by rw [hb3.cell (p := ⟨g, q * 5 + 4, none⟩) hgw]; exact HC4.out
      have e0 : w3.cell? ⟨gk, 0, none⟩ = some (.int .i64 (j : Int)) := by rw [hb3.cell (p := ⟨gk, 0, none⟩) hgkw]; exact HK0.out
      have hs3 := hb3.size
      have H2 := Lib.hid (rfirst_any ns es HM.out hlen (some ⟨g, 0, none⟩) c j w3 B e1 (HN.out.below (hb3.mono hB)) (by omega) HEJ.out)
      have HO3 : Hid (w3.ownsRow w.heap.size 3 1 v' (ts ++ [q]).length (intCells (ts ++ [q]))) := by
        show World.ownsRow _ _ _ _ _ _ _
        rw [intCells, List.map_append, List.length_append]
        exact hown3
      have HB3 := Lib.hid hb3
      clear hown3 hgrow hb3
      go_wp2_with fail
      refine H2.out.mono ?_
      rintro e w4 ⟨r2, rfl, hr2, hb4⟩
      have HR2 := Lib.hid hr2
      have HO4 := Lib.hid (own_kept HO3.out hb4)
      have HB4 := Lib.hid (HB3.out.trans (hb4.mono hs3))
      clear hr2 hb4
      go_wp2
      go_roundg e1.dep
      case measure => exact hdp
      case rel => exact ⟨ts ++ [q], done ++ [(nd.op, nd.at_)], e1, j, r2, rfl, rfl, by omega, HR2.out, HTR.out, HPL2.out, by simp; omega, HO4.out, HB4.out⟩
end ER
end Go.Proofs.YtnbfejombealiaaDoor
