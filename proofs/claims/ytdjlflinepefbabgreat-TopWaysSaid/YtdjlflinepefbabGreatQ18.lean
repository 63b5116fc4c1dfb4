/- tree.mended: of nodes of one height each that is too small is joined with one next to it, if tree.joined does what it says at that height. No condition but those that each theorem names. -/
import Derived.Test.YtdjlflinepefbabGreatQ17
import Derived.Deep.RegionHeld3

namespace Go.Proofs.YtdjlflinepefbabGreat
open Go.RowKit
namespace TR
open MM EX LF
set_option linter.unusedVariables false
set_option linter.unusedSimpArgs false

/-- All blocks but one stay. -/
structure But (g : Nat) (w w' : World) : Prop where
  os : w'.os = w.os
  tape : w'.tape = w.tape
  output : w'.output = w.output
  size : w.heap.size ≤ w'.heap.size
  block : ∀ k, k ≠ g → k < w.heap.size → w'.heap[k]? = w.heap[k]?
theorem But.refl (g : Nat) (w : World) : But g w w := ⟨rfl, rfl, rfl, Nat.le_refl _, fun _ _ _ => rfl⟩
theorem But.trans {g : Nat} {w w1 w2 : World} (a : But g w w1) (b : But g w1 w2) : But g w w2 := ⟨b.os.trans a.os, b.tape.trans a.tape, b.output.trans a.output, Nat.le_trans a.size b.size, fun k hk hl => (b.block k hk (Nat.lt_of_lt_of_le hl a.size)).trans (a.block k hk hl)⟩
theorem But.of_only {g : Nat} {w w' : World} (a : Only g w w') : But g w w' := ⟨a.os, a.tape, a.output, Nat.le_of_eq a.size.symm, fun k hk _ => a.block k hk⟩
theorem But.of_below {g : Nat} {w w' : World} (a : Below w.heap.size w w') : But g w w' := ⟨a.os, a.tape, a.output, a.size, fun k _ hl => a.block k hl⟩
theorem But.below {g B : Nat} {w w' : World} (a : But g w w') (h : B ≤ g) (h2 : B ≤ w.heap.size) : Below B w w' := ⟨a.os, a.tape, a.output, a.size, fun k hk => a.block k (by omega) (by omega)⟩
/-- What tree.joined says. -/
def JoinEnd (P : Nat → Prop) (h : Nat) (a b : Tr h) (w : World) (r : Ending) (w' : World) : Prop :=
  ∃ vb vo c J m, r = .returned (.slice (some ⟨vb, vo, none⟩) m c) ∧ m = J.length ∧ 1 ≤ m ∧ m ≤ 2 ∧ m ≤ c ∧ NdsP (fun b => P b ∨ w.heap.size ≤ b) h w' (some ⟨vb, vo, none⟩) J ∧ Res h J ∧ flats h J = flats h [a, b] ∧ Mk w.heap.size h [a, b] J ∧ Below w.heap.size w w'
def JoinedOk (h : Nat) : Prop := ∀ (P : Nat → Prop) (a b : Tr h) (w : World), Weak h a → Weak h b → RepP P h w a → RepP P h w b →
  Calls Tryz.prog 165 #[vl h a, vl h b] w (JoinEnd P h a b w)
/-- What tree.mended says. -/
def MendEnd (P : Nat → Prop) (base g cap h : Nat) (l : List (Tr h)) (w : World) (r : Ending) (w' : World) : Prop :=
  ∃ R m, r = .returned (.slice (some ⟨g, 0, none⟩) m cap) ∧ m = R.length ∧ w'.ownsRow base 80 1 (.slice (some ⟨g, 0, none⟩) m cap) m (R.map (vl h)) ∧ (∀ k ∈ R, RepP (fun b => P b ∨ w.heap.size ≤ b) h w' k) ∧ Res h R ∧ flats h R = flats h l ∧ R.length ≤ l.length ∧ Mk w.heap.size h l R ∧ But g w w'
/-- Where tree.mended stands. -/
structure Mend (P : Nat → Prop) (base g cap h : Nat) (l : List (Tr h)) (w wr : World) (i : Nat) (R : List (Tr h)) : Prop where
  own : wr.ownsRow base 80 1 (.slice (some ⟨g, 0, none⟩) R.length cap) R.length (R.map (vl h))
  rep : ∀ k ∈ R, RepP (fun b => P b ∨ w.heap.size ≤ b) h wr k
  weak : ∀ k ∈ R, Weak h k
  big : ∀ j k, j < i → R[j]? = some k → 4 ≤ size h k
  flat : flats h R = flats h l
  len : R.length ≤ l.length
  made : Mk w.heap.size h l R
  but : But g w wr
theorem cut3 {X : Type} {R : List X} {p : Nat} (h : p + 2 ≤ R.length) : ∃ a b, R = R.take p ++ [a, b] ++ R.drop (p + 2) ∧ R[p]? = some a ∧ R[p + 1]? = some b := by
  refine ⟨R[p], R[p + 1], ?_, List.getElem?_eq_getElem _, List.getElem?_eq_getElem _⟩
  have h1 : R.drop p = R[p] :: R.drop (p + 1) := List.drop_eq_getElem_cons (by omega)
  have h2 : R.drop (p + 1) = R[p + 1] :: R.drop (p + 2) := List.drop_eq_getElem_cons (by omega)
  calc R = R.take p ++ R.drop p := (List.take_append_drop p R).symm
    _ = _ := by rw [h1, h2]; simp
theorem Mend.start {P : Nat → Prop} {base g cap h : Nat} {l : List (Tr h)} {w : World} (ho : w.ownsRow base 80 1 (.slice (some ⟨g, 0, none⟩) l.length cap) l.length (l.map (vl h))) (hr : ∀ k ∈ l, RepP P h w k) (hw : ∀ k ∈ l, Weak h k) : Mend P base g cap h l w w 0 l :=
  ⟨ho, fun k hk => (hr k hk).mono (fun _ hp _ => .inl hp), hw, fun j k hj => absurd hj (Nat.not_lt_zero _), rfl, Nat.le_refl _, Mk.refl _ _ _, But.refl _ _⟩
theorem Mend.next {P : Nat → Prop} {base g cap h : Nat} {l R : List (Tr h)} {w wr : World} {i : Nat} (x : Mend P base g cap h l w wr i R) {k : Tr h} (hk : R[i]? = some k) (h4 : 4 ≤ size h k) : Mend P base g cap h l w wr (i + 1) R :=
  ⟨x.own, x.rep, x.weak, fun j k' hj hk' => by
      rcases Nat.lt_or_ge j i with h' | h'
      · exact x.big j k' h' hk'
      · obtain rfl : j = i := by omega
        rw [hk] at hk'; cases hk'; exact h4, x.flat, x.len, x.made, x.but⟩
theorem Mend.res {P : Nat → Prop} {base g cap h : Nat} {l R : List (Tr h)} {w wr : World} {i : Nat} (x : Mend P base g cap h l w wr i R) (hi : R.length ≤ i ∨ R.length ≤ 1) : Res h R := by
  rcases hi with hi | hi
  · refine .inl fun t ht => ?_
    obtain ⟨j, hj, rfl⟩ := List.mem_iff_getElem.1 ht
    exact (x.weak _ ht).ok (x.big j _ (by omega) (List.getElem?_eq_getElem hj))
  · match R, hi, x with
    | [], _, _ => exact .inl fun t ht => (List.not_mem_nil ht).elim
    | [t], _, x => exact .inr ⟨t, rfl, x.weak t List.mem_cons_self⟩
theorem Mend.lt {P : Nat → Prop} {base g cap h : Nat} {l R : List (Tr h)} {w wr : World} {i : Nat} (x : Mend P base g cap h l w wr i R) : ∀ b ∈ blocksL h R, b < wr.heap.size := by
  intro b hb
  obtain ⟨k, hk, hb⟩ := List.mem_flatMap.1 hb
  exact (x.rep k hk).rep.lt b hb
theorem Mend.join {P : Nat → Prop} {base g cap h : Nat} {l R : List (Tr h)} {w wr w1 w2 : World} {i p : Nat} (x : Mend P base g cap h l w wr i R) (hp : p + 2 ≤ R.length) (hpi : p ≤ i) (hPg : ∀ b, P b → b ≠ g) (hgw : g < w.heap.size)
    {a b : Tr h} (ha : R[p]? = some a) (hb : R[p + 1]? = some b) {J : List (Tr h)} {A : Option Addr} (hJ : NdsP (fun b => (P b ∨ w.heap.size ≤ b) ∨ wr.heap.size ≤ b) h w1 A J) (hres : Res h J) (hfl : flats h J = flats h [a, b]) (hmk : Mk wr.heap.size h [a, b] J) (hb1 : Below wr.heap.size wr w1)
    (ho : Only g w1 w2) (hown : w2.ownsRow base 80 1 (.slice (some ⟨g, 0, none⟩) (R.length - 2 + J.length) cap) (R.length - 2 + J.length) ((R.map (vl h)).take p ++ J.map (vl h) ++ (R.map (vl h)).drop (p + 2))) (hJ2 : J.length ≤ 2) :
    Mend P base g cap h l w w2 p (R.take p ++ J ++ R.drop (p + 2)) := by
  obtain ⟨a', b', e, ha', hb'⟩ := cut3 hp
  rw [ha] at ha'; rw [hb] at hb'
  cases ha'; cases hb'
  have hsz := x.but.size
  have hl : (R.take p ++ J ++ R.drop (p + 2)).length = R.length - 2 + J.length := by simp; omega
  have hk1 : ∀ b, (P b ∨ w.heap.size ≤ b) → b < wr.heap.size → w2.heap[b]? = wr.heap[b]? := fun b hb hlt => by
    have hne : b ≠ g := by
      rcases hb with hb | hb
      · exact hPg b hb
      · omega
    rw [ho.block b hne, hb1.block b hlt]
  have hk2 : ∀ b, ((P b ∨ w.heap.size ≤ b) ∨ wr.heap.size ≤ b) → b < w1.heap.size → w2.heap[b]? = w1.heap[b]? := fun b hb _ => by
    refine ho.block b ?_
    rcases hb with (hb | hb) | hb
    · exact hPg b hb
    · omega
    · omega
  have hz1 : wr.heap.size ≤ w2.heap.size := by rw [ho.size]; exact hb1.size
  refine ⟨?_, fun k hk => ?_, fun k hk => ?_, fun j k hj hk => ?_, ?_, ?_, ?_, ?_⟩
  · rw [hl, List.map_append, List.map_append, List.map_take, List.map_drop]; exact hown
  · rcases List.mem_append.1 hk with hk | hk
    · rcases List.mem_append.1 hk with hk | hk
      · exact (x.rep k (List.mem_of_mem_take hk)).keep hz1 hk1
      · exact ((hJ.reps k hk).keep (Nat.le_of_eq ho.size.symm) hk2).mono (fun b hb _ => by
          rcases hb with hb | hb
          · exact hb
          · exact .inr (by omega))
    · exact (x.rep k (List.mem_of_mem_drop hk)).keep hz1 hk1
  · rcases List.mem_append.1 hk with hk | hk
    · rcases List.mem_append.1 hk with hk | hk
      · exact x.weak k (List.mem_of_mem_take hk)
      · exact hres.weak k hk
    · exact x.weak k (List.mem_of_mem_drop hk)
  · rw [List.append_assoc, List.getElem?_append_left (by simp; omega), List.getElem?_take, if_pos hj] at hk
    exact x.big j k (by omega) hk
  · rw [← x.flat, flats_append, flats_append, hfl, ← flats_append, ← flats_append, ← e]
  · rw [hl]; have := x.len; omega
  · have hm : Mk wr.heap.size h R (R.take p ++ J ++ R.drop (p + 2)) := by
      have := hmk.mid (x := R.take p) (y := R.drop (p + 2))
      rwa [← e] at this
    exact x.made.trans hm hsz x.lt
  · exact (x.but.trans (But.of_below hb1)).trans (But.of_only ho)
-- THE WALK (gen_tr6.py)
/-- How many extents, or kids, a node in memory has. -/
def szAt (w : World) : Value → Nat
  | .iface _ (.pointer (some a)) => match w.cell? ⟨a.block, 1, none⟩ with
    | some (.slice _ n _) => n
    | _ => 0
  | _ => 0
theorem szAt_rep : ∀ {h : Nat} {w : World} {t : Tr h}, Rep h w t → szAt w (vl h t) = size h t
  | 0, w, t, ⟨A, c, h1, h2, h3⟩ => by have := (cells2t h2).2; simp only [szAt, vl, blk]; rw [this]; rfl
  | h + 1, w, t, ⟨A, c, h1, h2, h3, h4⟩ => by have := (cells2t h2).2; simp only [szAt, vl, blk]; rw [this]; rfl
/-- What is left to do. -/
def meas (g : Nat) (s i : Value) (w : World) : Nat := match s with
  | .slice _ m _ => 2 * (m + ((List.range m).filter fun j => decide (szAt w ((w.cell? ⟨g, j, none⟩).getD .nilIface) < 4)).length) + (m - (intOf i).toNat)
  | _ => 0
theorem meas_is {P : Nat → Prop} {base g cap h : Nat} {l R : List (Tr h)} {w wr : World} {i m : Nat} (x : Mend P base g cap h l w wr i R) (hm : m = R.length) (A : Option Addr) (c : Nat) (k : Nat) :
    meas g (.slice A m c) (.int .i64 (k : Int)) wr = 2 * (m + smalls h R) + (m - k) := by
  subst hm
  have e : ((List.range R.length).filter fun j => decide (szAt wr ((wr.cell? ⟨g, j, none⟩).getD .nilIface) < 4)).length = smalls h R := by
    unfold smalls
    have key : ∀ k, k ≤ R.length → ((List.range k).filter fun j => decide (szAt wr ((wr.cell? ⟨g, j, none⟩).getD .nilIface) < 4)).length = ((R.take k).filter fun t => decide (size h t < 4)).length := by
      intro k
      induction k with
      | zero => intro _; rfl
      | succ k ih =>
        intro hk
        obtain ⟨t, ht⟩ : ∃ t, R[k]? = some t := ⟨_, List.getElem?_eq_getElem (by omega)⟩
        have hc : wr.cell? ⟨g, k, none⟩ = some (vl h t) := own_cells x.own k _ (by rw [List.getElem?_map, ht]; rfl)
        have hs := szAt_rep (x.rep t (List.mem_of_getElem? ht)).rep
        rw [List.range_succ, List.take_add_one, ht, List.filter_append, List.filter_append, List.length_append, List.length_append, ih (by omega)]
        congr 1
        simp only [List.filter_cons, List.filter_nil, Option.toList, hc, Option.getD_some, hs]
        split <;> rfl
    have := key R.length (Nat.le_refl _)
    rwa [List.take_length] at this
  show 2 * (R.length + _) + (R.length - (intOf (.int .i64 (k : Int))).toNat) = _
  rw [e]
  simp [intOf]
theorem own_same {w w' : World} {B : Nat} {e : TypeId} {g n cap : Nat} {xs : List Value} (h : w.ownsRow B e 1 (.slice (some ⟨g, 0, none⟩) n cap) n xs) (hs : w'.heap[g]? = w.heap[g]?) : w'.ownsRow B e 1 (.slice (some ⟨g, 0, none⟩) n cap) n xs := by
  obtain ⟨cur, hg, hcl, hcx, hnc, hcm, hB⟩ := own_open h
  rw [← hcx]; exact own_shut (hs.trans hg) hcl hnc hcm hB
theorem Mend.drew {P : Nat → Prop} {base g cap h : Nat} {l R : List (Tr h)} {w wr : World} {i : Nat} (x : Mend P base g cap h l w wr i R) : Mend P base g cap h l w wr.drew i R :=
  ⟨own_same x.own rfl, fun k hk => RepP.keep (w := wr) (w' := wr.drew) (Nat.le_refl _) (fun _ _ _ => rfl) (x.rep k hk), x.weak, x.big, x.flat, x.len, x.made, x.but.trans ⟨rfl, rfl, rfl, Nat.le_refl _, fun _ _ _ => rfl⟩⟩
/-- What tree.joined answered takes the place of the two. -/
theorem Mend.replace {P : Nat → Prop} {base g cap h : Nat} {l R : List (Tr h)} {w wr : World} {k m p q : Nat} (x : Mend P base g cap h l w wr k R) (hm : m = R.length) (hm2 : m ≤ 100) (hq : q = p + 2) (hp : p + 2 ≤ R.length) (hpk : p ≤ k) (hkp : k ≤ p + 1) (hPg : ∀ b, P b → b ≠ g) (hgw : g < w.heap.size)
    {a b K : Tr h} (ha : R[p]? = some a) (hb : R[p + 1]? = some b) (hK : R[k]? = some K) (hs : size h K < 4) {r : Ending} {w1 : World} (hj : JoinEnd (fun b => P b ∨ w.heap.size ≤ b) h a b wr r w1) :
    ∃ vb vo c mJ, r = .returned (.slice (some ⟨vb, vo, none⟩) mJ c) ∧ Hid (Calls Tryz.prog 164 #[.slice (some ⟨g, 0, none⟩) m cap, .int .i64 (p : Int), .int .i64 (q : Int), .slice (some ⟨vb, vo, none⟩) mJ c] w1 fun r w' =>
      ∃ R2 m2, r = .returned (.slice (some ⟨g, 0, none⟩) m2 cap) ∧ Hid (m2 = R2.length) ∧ m2 ≤ m ∧ p ≤ m2 ∧ Mend P base g cap h l w w' p R2 ∧ R2.length + smalls h R2 + 1 ≤ R.length + smalls h R) := by
  obtain ⟨vb, vo, c, J, mJ, rfl, hmJ, h1, h2, hc, hnd, hres, hfl, hmk, hbl⟩ := hj
  have hsz := x.but.size
  obtain ⟨a', b', e, ha', hb'⟩ := cut3 hp
  rw [ha] at ha'; rw [hb] at hb'
  cases ha'; cases hb'
  refine ⟨vb, vo, c, mJ, rfl, Lib.hid ?_⟩
  obtain ⟨hne, hvs⟩ : vb ≠ g ∧ ∀ (j : Nat) (u : Value), (J.map (vl h))[j]? = some u → w1.cell? ⟨vb, vo + j, none⟩ = some u := by
    rcases hnd.vals with h0 | ⟨b0, o0, h0, _, h9, h3⟩
    · rw [List.map_eq_nil_iff] at h0; rw [h0] at hmJ; simp at hmJ; omega
    · cases h0
      refine ⟨?_, h3⟩
      rcases h9 with (h9 | h9) | h9
      · exact hPg _ h9
      · omega
      · omega
  have h1v : ∀ (L : List (Tr h)), ∀ u ∈ L.map (vl h), u.oneCell' = true := fun L u hu => by
    obtain ⟨t, _, rfl⟩ := List.mem_map.1 hu; rfl
  have hr := replace_any g m cap p mJ q vb vo c base (R.map (vl h)) (J.map (vl h)) w1 (by omega) hq (by omega) h1 h2 (own_same (by rw [hm]; exact x.own) (hbl.block g (by omega))) (by rw [List.length_map, hmJ]) hne hvs (h1v J) (h1v R)
  refine hr.mono ?_
  rintro r w2 ⟨rfl, ho, hown⟩
  have hJ : NdsP (fun b => (P b ∨ w.heap.size ≤ b) ∨ wr.heap.size ≤ b) h w1 (some ⟨vb, vo, none⟩) J := hnd
  have hsm : size h a < 4 ∨ size h b < 4 := by
    rcases Nat.lt_or_ge p k with h9 | h9
    · obtain rfl : k = p + 1 := by omega
      rw [hb] at hK; cases hK; exact .inr hs
    · obtain rfl : k = p := by omega
      rw [ha] at hK; cases hK; exact .inl hs
  have hl : (R.take p ++ J ++ R.drop (p + 2)).length = R.length - 2 + J.length := by simp; omega
  have hless := join_less (h := h) (X := R.take p) (J := J) (Y := R.drop (p + 2)) hres (by omega) hsm
  rw [← e] at hless
  refine ⟨R.take p ++ J ++ R.drop (p + 2), m - 2 + mJ, rfl, Lib.hid (by rw [hl, hm, hmJ]), by omega, by omega, x.join hp hpk hPg hgw ha hb hJ hres hfl hmk hbl ho ?_ (by omega), hless.2⟩
  rw [← hmJ, ← hm]; exact hown
set_option maxRecDepth 100000 in
set_option maxHeartbeats 8000000 in
theorem mended0_any (hj : JoinedOk 0) (P : Nat → Prop) (base g n cap : Nat) (l : List (Tr 0)) (w : World) (hn : n = l.length) (hm : n ≤ 100) (hPg : ∀ b, P b → b ≠ g) (hgw : g < w.heap.size)
    (ho : w.ownsRow base 80 1 (.slice (some ⟨g, 0, none⟩) n cap) n (l.map (vl 0))) (hr : ∀ k ∈ l, RepP P 0 w k) (hw : ∀ k ∈ l, Weak 0 k) :
    Calls Tryz.prog 112 #[.slice (some ⟨g, 0, none⟩) n cap] w (MendEnd P base g cap 0 l w) := by
  have HM0 : Hid (Mend P base g cap 0 l w w 0 l) := Lib.hid (Mend.start (by rw [← hn]; exact ho) hr hw)
  have HNL := Lib.hid hn
  have HJ := Lib.hid hj
  have HPG := Lib.hid hPg
  have HGW := Lib.hid hgw
  clear hn ho hr hw hj hPg hgw
  go_enter Tryz.func112, Tryz.ntmps112
  go_wp2
  go_loopw [0, 3] (fun s i wr => ∃ (k m : Nat) (R : List (Tr 0)), k ≤ m ∧ m ≤ n ∧ i = .int .i64 k ∧ s = .slice (some ⟨g, 0, none⟩) m cap ∧ Hid (m = R.length) ∧ Hid (Mend P base g cap 0 l w wr k R)) (fun s i wr => meas g s i wr)
  case atStart => exact ⟨0, n, l, Nat.zero_le _, Nat.le_refl _, rfl, rfl, HNL, HM0⟩
  case round =>
    obtain ⟨k, m, R, hk, hmn, rfl, rfl, HR, HMD⟩ := hrel
    have t0 : (0 : Int) ≤ (k : Int) := by omega
    rcases Nat.lt_or_ge k m with hkm | hkm
    · have t1 : (k : Int) < (m : Int) := by omega
      rcases Nat.lt_or_ge 1 m with h1m | h1m
      · have t2 : (1 : Int) < (m : Int) := by omega
        obtain ⟨K, hK⟩ : ∃ K, R[k]? = some K := ⟨_, List.getElem?_eq_getElem (by rw [← HR.out]; exact hkm)⟩
        have hKm := List.mem_of_getElem? hK
        have hrK := (HMD.out.rep K hKm).rep
        have hsz := size_any 0 K wr hrK
        have hcell : wr.cell? ⟨g, k, none⟩ = some (vl 0 K) := own_cells HMD.out.own k _ (by rw [List.getElem?_map, hK]; rfl)
        obtain ⟨B, hB⟩ : ∃ B, B = blk 0 K := ⟨_, rfl⟩
        obtain ⟨z, hz⟩ : ∃ z, z = size 0 K := ⟨_, rfl⟩
        have hcell2 : wr.cell? ⟨g, k, none⟩ = some (.iface 156 (.pointer (some ⟨B, 0, none⟩))) := by rw [hB]; exact hcell
        have HSZ : Hid (Calls Tryz.prog 227 #[.pointer (some ⟨B, 0, none⟩)] wr fun r w' => r = .returned (.int .i64 (z : Nat)) ∧ wr = w') := Lib.hid (by rw [hB, hz]; exact hsz)
        have HK := Lib.hid hK
        have HZ := Lib.hid hz
        clear hK hKm hrK hsz hcell hB hz
        go_wp2_with fail
        refine HSZ.out.mono ?_
        rintro r w1 ⟨rfl, rfl⟩
        rcases Nat.lt_or_ge z 4 with hz4 | hz4
        · have t3 : decide ((4 : Int) ≤ (z : Int)) = false := by simp; omega
          have hfr : ∀ i, i < m → ∃ v b, wr.cell? ⟨g, i, none⟩ = some v ∧ Calls Tryz.prog 57 #[v] wr fun r w' => r = .returned (.bool b) ∧ wr = w' := fun i hi => by
            obtain ⟨X, hX⟩ : ∃ X, R[i]? = some X := ⟨_, List.getElem?_eq_getElem (by rw [← HR.out]; exact hi)⟩
            exact ⟨_, _, own_cells HMD.out.own i _ (by rw [List.getElem?_map, hX]; rfl), isfresh_any 0 X wr (HMD.out.rep X (List.mem_of_getElem? hX)).rep⟩
          have HP := Lib.hid (pair_any g m cap k wr (by omega) (by omega) hkm hfr)
          clear hfr
          go_wp2_with fail
          refine HP.out.mono ?_
          rintro r w2 ⟨p, rfl, hpm, hpk, hkp, rfl⟩
          have hpm' : p + 2 ≤ R.length := by rw [← HR.out]; exact hpm
          obtain ⟨a, b, hcut, ha, hb⟩ := cut3 hpm'
          have ham := List.mem_of_getElem? ha
          have hbm := List.mem_of_getElem? hb
          have hca : wr.cell? ⟨g, p, none⟩ = some (vl 0 a) := own_cells HMD.out.own p _ (by rw [List.getElem?_map, ha]; rfl)
          have hcb : wr.cell? ⟨g, p + 1, none⟩ = some (vl 0 b) := own_cells HMD.out.own (p + 1) _ (by rw [List.getElem?_map, hb]; rfl)
          have HJC : Hid (∀ W, W = wr.drew → Calls Tryz.prog 165 #[vl 0 a, vl 0 b] W fun r w1 => ∃ vb vo c mJ, r = .returned (.slice (some ⟨vb, vo, none⟩) mJ c) ∧ Hid (Calls Tryz.prog 164 #[.slice (some ⟨g, 0, none⟩) m cap, .int .i64 (p : Int), .int .i64 ((p + 2 : Nat) : Int), .slice (some ⟨vb, vo, none⟩) mJ c] w1 fun r w' =>
              ∃ R2 m2, r = .returned (.slice (some ⟨g, 0, none⟩) m2 cap) ∧ Hid (m2 = R2.length) ∧ m2 ≤ m ∧ p ≤ m2 ∧ Mend P base g cap 0 l w w' p R2 ∧ R2.length + smalls 0 R2 + 1 ≤ R.length + smalls 0 R)) := Lib.hid fun W hW9 => by
            subst hW9
            have x := HMD.out.drew
            exact (HJ.out (fun b => P b ∨ w.heap.size ≤ b) a b wr.drew (x.weak a ham) (x.weak b hbm) (x.rep a ham) (x.rep b hbm)).mono fun r w1 hj => x.replace HR.out (by omega) rfl hpm' hpk hkp HPG.out HGW.out ha hb HK.out (by rw [← HZ.out]; exact hz4) hj
          have e2 : IntKind.i64.wrap ((p : Int) + 2) = ((p + 2 : Nat) : Int) := by rw [IntWalk.i64_in _ (by omega)]; omega
          have e3 : IntKind.i64.wrap ((p : Int) + 1) = ((p + 1 : Nat) : Int) := by rw [IntWalk.i64_in _ (by omega)]; omega
          obtain ⟨q, hq⟩ : ∃ q, q = p + 2 := ⟨_, rfl⟩
          obtain ⟨p1, hp1⟩ : ∃ q, q = p + 1 := ⟨_, rfl⟩
          rw [← hq] at e2 HJC
          rw [← hp1] at e3 hcb
          have t4 : (0 : Int) ≤ (p : Int) := by omega
          have t5 : (p : Int) < (m : Int) := by omega
          have t6 : (0 : Int) ≤ (p1 : Int) := by omega
          have t7 : (p1 : Int) < (m : Int) := by omega
          obtain ⟨va, hva⟩ : ∃ v, v = vl 0 a := ⟨_, rfl⟩
          obtain ⟨vb, hvb⟩ : ∃ v, v = vl 0 b := ⟨_, rfl⟩
          rw [← hva] at hca
          rw [← hvb] at hcb
          rw [← hva, ← hvb] at HJC
          have HQ := Lib.hid hq
          have HC := Lib.hid hcut
          have HA := Lib.hid ha
          have HB := Lib.hid hb
          clear hpm' hcut ham hbm ha hb hva hvb hq hp1 HP
          go_wp2_with fail
          first | (go_region_with (first | (go_at_call 165; refine (HJC.out _ rfl).mono ?_; rintro r w3 ⟨jb, jo, jc, mJ, rfl, HRP⟩) | (go_at_call 164; refine HRP.out.mono ?_; rintro r w4 ⟨R2, m2, rfl, HM2, hmm, hp2, hmd, hls⟩))) | fail
          all_goals
            have HLS := Lib.hid hls
            have HMD2 := Lib.hid hmd
            clear hls hmd
            (try go_simp)
            go_wp2
            go_roundw
            case rel => exact ⟨p, m2, R2, hp2, by omega, rfl, rfl, HM2, HMD2⟩
            case measure =>
              rw [meas_is HMD2.out HM2.out, meas_is HMD.out HR.out]
              have h1 := HLS.out
              rw [← HM2.out, ← HR.out] at h1
              omega
        · have t3 : (4 : Int) ≤ (z : Int) := by omega
          go_wp2
          go_roundw
          case rel => exact ⟨k + 1, m, R, by omega, hmn, by go_num, rfl, HR, Lib.hid (HMD.out.next HK.out (by rw [← HZ.out]; exact hz4))⟩
          case measure =>
            rw [show ((k : Int) + 1) = ((k + 1 : Nat) : Int) from by omega, meas_is HMD.out HR.out, meas_is HMD.out HR.out]; omega
      · have t2 : ¬ ((1 : Int) < (m : Int)) := by omega
        go_wp2
        go_ret
        refine ⟨R, m, rfl, HR.out, by rw [HR.out]; exact HMD.out.own, HMD.out.rep, HMD.out.res (by have := HR.out; omega), HMD.out.flat, HMD.out.len, HMD.out.made, HMD.out.but⟩
    · obtain rfl : k = m := by omega
      have t1 : ¬ ((k : Int) < (k : Int)) := by omega
      go_wp2
      go_ret
      refine ⟨R, k, rfl, HR.out, by rw [HR.out]; exact HMD.out.own, HMD.out.rep, HMD.out.res (by have := HR.out; omega), HMD.out.flat, HMD.out.len, HMD.out.made, HMD.out.but⟩
set_option maxRecDepth 100000 in
set_option maxHeartbeats 8000000 in
theorem mended1_any {h : Nat} (hj : JoinedOk (h + 1)) (P : Nat → Prop) (base g n cap : Nat) (l : List (Tr (h + 1))) (w : World) (hn : n = l.length) (hm : n ≤ 100) (hPg : ∀ b, P b → b ≠ g) (hgw : g < w.heap.size)
    (ho : w.ownsRow base 80 1 (.slice (some ⟨g, 0, none⟩) n cap) n (l.map (vl (h + 1)))) (hr : ∀ k ∈ l, RepP P (h + 1) w k) (hw : ∀ k ∈ l, Weak (h + 1) k) :
    Calls Tryz.prog 112 #[.slice (some ⟨g, 0, none⟩) n cap] w (MendEnd P base g cap (h + 1) l w) := by
  have HM0 : Hid (Mend P base g cap (h + 1) l w w 0 l) := Lib.hid (Mend.start (by rw [← hn]; exact ho) hr hw)
  have HNL := Lib.hid hn
  have HJ := Lib.hid hj
  have HPG := Lib.hid hPg
  have HGW := Lib.hid hgw
  clear hn ho hr hw hj hPg hgw
  go_enter Tryz.func112, Tryz.ntmps112
  go_wp2
  go_loopw [0, 3] (fun s i wr => ∃ (k m : Nat) (R : List (Tr (h + 1))), k ≤ m ∧ m ≤ n ∧ i = .int .i64 k ∧ s = .slice (some ⟨g, 0, none⟩) m cap ∧ Hid (m = R.length) ∧ Hid (Mend P base g cap (h + 1) l w wr k R)) (fun s i wr => meas g s i wr)
  case atStart => exact ⟨0, n, l, Nat.zero_le _, Nat.le_refl _, rfl, rfl, HNL, HM0⟩
  case round =>
    obtain ⟨k, m, R, hk, hmn, rfl, rfl, HR, HMD⟩ := hrel
    have t0 : (0 : Int) ≤ (k : Int) := by omega
    rcases Nat.lt_or_ge k m with hkm | hkm
    · have t1 : (k : Int) < (m : Int) := by omega
      rcases Nat.lt_or_ge 1 m with h1m | h1m
      · have t2 : (1 : Int) < (m : Int) := by omega
        obtain ⟨K, hK⟩ : ∃ K, R[k]? = some K := ⟨_, List.getElem?_eq_getElem (by rw [← HR.out]; exact hkm)⟩
        have hKm := List.mem_of_getElem? hK
        have hrK := (HMD.out.rep K hKm).rep
        have hsz := size_any (h + 1) K wr hrK
        have hcell : wr.cell? ⟨g, k, none⟩ = some (vl (h + 1) K) := own_cells HMD.out.own k _ (by rw [List.getElem?_map, hK]; rfl)
        obtain ⟨B, hB⟩ : ∃ B, B = blk (h + 1) K := ⟨_, rfl⟩
        obtain ⟨z, hz⟩ : ∃ z, z = size (h + 1) K := ⟨_, rfl⟩
        have hcell2 : wr.cell? ⟨g, k, none⟩ = some (.iface 161 (.pointer (some ⟨B, 0, none⟩))) := by rw [hB]; exact hcell
        have HSZ : Hid (Calls Tryz.prog 108 #[.pointer (some ⟨B, 0, none⟩)] wr fun r w' => r = .returned (.int .i64 (z : Nat)) ∧ wr = w') := Lib.hid (by rw [hB, hz]; exact hsz)
        have HK := Lib.hid hK
        have HZ := Lib.hid hz
        clear hK hKm hrK hsz hcell hB hz
        go_wp2_with fail
        refine HSZ.out.mono ?_
        rintro r w1 ⟨rfl, rfl⟩
        rcases Nat.lt_or_ge z 4 with hz4 | hz4
        · have t3 : decide ((4 : Int) ≤ (z : Int)) = false := by simp; omega
          have hfr : ∀ i, i < m → ∃ v b, wr.cell? ⟨g, i, none⟩ = some v ∧ Calls Tryz.prog 57 #[v] wr fun r w' => r = .returned (.bool b) ∧ wr = w' := fun i hi => by
            obtain ⟨X, hX⟩ : ∃ X, R[i]? = some X := ⟨_, List.getElem?_eq_getElem (by rw [← HR.out]; exact hi)⟩
            exact ⟨_, _, own_cells HMD.out.own i _ (by rw [List.getElem?_map, hX]; rfl), isfresh_any (h + 1) X wr (HMD.out.rep X (List.mem_of_getElem? hX)).rep⟩
          have HP := Lib.hid (pair_any g m cap k wr (by omega) (by omega) hkm hfr)
          clear hfr
          go_wp2_with fail
          refine HP.out.mono ?_
          rintro r w2 ⟨p, rfl, hpm, hpk, hkp, rfl⟩
          have hpm' : p + 2 ≤ R.length := by rw [← HR.out]; exact hpm
          obtain ⟨a, b, hcut, ha, hb⟩ := cut3 hpm'
          have ham := List.mem_of_getElem? ha
          have hbm := List.mem_of_getElem? hb
          have hca : wr.cell? ⟨g, p, none⟩ = some (vl (h + 1) a) := own_cells HMD.out.own p _ (by rw [List.getElem?_map, ha]; rfl)
          have hcb : wr.cell? ⟨g, p + 1, none⟩ = some (vl (h + 1) b) := own_cells HMD.out.own (p + 1) _ (by rw [List.getElem?_map, hb]; rfl)
          have HJC : Hid (∀ W, W = wr.drew → Calls Tryz.prog 165 #[vl (h + 1) a, vl (h + 1) b] W fun r w1 => ∃ vb vo c mJ, r = .returned (.slice (some ⟨vb, vo, none⟩) mJ c) ∧ Hid (Calls Tryz.prog 164 #[.slice (some ⟨g, 0, none⟩) m cap, .int .i64 (p : Int), .int .i64 ((p + 2 : Nat) : Int), .slice (some ⟨vb, vo, none⟩) mJ c] w1 fun r w' =>
              ∃ R2 m2, r = .returned (.slice (some ⟨g, 0, none⟩) m2 cap) ∧ Hid (m2 = R2.length) ∧ m2 ≤ m ∧ p ≤ m2 ∧ Mend P base g cap (h + 1) l w w' p R2 ∧ R2.length + smalls (h + 1) R2 + 1 ≤ R.length + smalls (h + 1) R)) := Lib.hid fun W hW9 => by
            subst hW9
            have x := HMD.out.drew
            exact (HJ.out (fun b => P b ∨ w.heap.size ≤ b) a b wr.drew (x.weak a ham) (x.weak b hbm) (x.rep a ham) (x.rep b hbm)).mono fun r w1 hj => x.replace HR.out (by omega) rfl hpm' hpk hkp HPG.out HGW.out ha hb HK.out (by rw [← HZ.out]; exact hz4) hj
          have e2 : IntKind.i64.wrap ((p : Int) + 2) = ((p + 2 : Nat) : Int) := by rw [IntWalk.i64_in _ (by omega)]; omega
          have e3 : IntKind.i64.wrap ((p : Int) + 1) = ((p + 1 : Nat) : Int) := by rw [IntWalk.i64_in _ (by omega)]; omega
          obtain ⟨q, hq⟩ : ∃ q, q = p + 2 := ⟨_, rfl⟩
          obtain ⟨p1, hp1⟩ : ∃ q, q = p + 1 := ⟨_, rfl⟩
          rw [← hq] at e2 HJC
          rw [← hp1] at e3 hcb
          have t4 : (0 : Int) ≤ (p : Int) := by omega
          have t5 : (p : Int) < (m : Int) := by omega
          have t6 : (0 : Int) ≤ (p1 : Int) := by omega
          have t7 : (p1 : Int) < (m : Int) := by omega
          obtain ⟨va, hva⟩ : ∃ v, v = vl (h + 1) a := ⟨_, rfl⟩
          obtain ⟨vb, hvb⟩ : ∃ v, v = vl (h + 1) b := ⟨_, rfl⟩
          rw [← hva] at hca
          rw [← hvb] at hcb
          rw [← hva, ← hvb] at HJC
          have HQ := Lib.hid hq
          have HC := Lib.hid hcut
          have HA := Lib.hid ha
          have HB := Lib.hid hb
          clear hpm' hcut ham hbm ha hb hva hvb hq hp1 HP
          go_wp2_with fail
          first | (go_region_with (first | (go_at_call 165; refine (HJC.out _ rfl).mono ?_; rintro r w3 ⟨jb, jo, jc, mJ, rfl, HRP⟩) | (go_at_call 164; refine HRP.out.mono ?_; rintro r w4 ⟨R2, m2, rfl, HM2, hmm, hp2, hmd, hls⟩))) | fail
          all_goals
            have HLS := Lib.hid hls
            have HMD2 := Lib.hid hmd
            clear hls hmd
            (try go_simp)
            go_wp2
            go_roundw
            case rel => exact ⟨p, m2, R2, hp2, by omega, rfl, rfl, HM2, HMD2⟩
            case measure =>
              rw [meas_is HMD2.out HM2.out, meas_is HMD.out HR.out]
              have h1 := HLS.out
              rw [← HM2.out, ← HR.out] at h1
              omega
        · have t3 : (4 : Int) ≤ (z : Int) := by omega
          go_wp2
          go_roundw
          case rel => exact ⟨k + 1, m, R, by omega, hmn, by go_num, rfl, HR, Lib.hid (HMD.out.next HK.out (by rw [← HZ.out]; exact hz4))⟩
          case measure =>
            rw [show ((k : Int) + 1) = ((k + 1 : Nat) : Int) from by omega, meas_is HMD.out HR.out, meas_is HMD.out HR.out]; omega
      · have t2 : ¬ ((1 : Int) < (m : Int)) := by omega
        go_wp2
        go_ret
        refine ⟨R, m, rfl, HR.out, by rw [HR.out]; exact HMD.out.own, HMD.out.rep, HMD.out.res (by have := HR.out; omega), HMD.out.flat, HMD.out.len, HMD.out.made, HMD.out.but⟩
    · obtain rfl : k = m := by omega
      have t1 : ¬ ((k : Int) < (k : Int)) := by omega
      go_wp2
      go_ret
      refine ⟨R, k, rfl, HR.out, by rw [HR.out]; exact HMD.out.own, HMD.out.rep, HMD.out.res (by have := HR.out; omega), HMD.out.flat, HMD.out.len, HMD.out.made, HMD.out.but⟩
end TR
end Go.Proofs.YtdjlflinepefbabGreat
