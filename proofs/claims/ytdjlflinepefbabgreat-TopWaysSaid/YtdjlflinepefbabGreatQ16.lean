/- slices.Replace of two nodes by one or two, in a row of the call's own: only that row turns. No condition but those that each theorem names. -/
import Derived.Test.YtdjlflinepefbabGreatQ12
import Derived.Laws.CopyOwn
import Derived.Lib.SliceRun

namespace Go.Proofs.YtdjlflinepefbabGreat
open Go.RowKit
namespace TR
open MM EX LF
set_option linter.unusedVariables false
set_option linter.unusedSimpArgs false

/-- Only one block turns. -/
structure Only (g : Nat) (w w' : World) : Prop where
  os : w'.os = w.os
  tape : w'.tape = w.tape
  output : w'.output = w.output
  size : w'.heap.size = w.heap.size
  block : ∀ k, k ≠ g → w'.heap[k]? = w.heap[k]?
theorem Only.refl (g : Nat) (w : World) : Only g w w := ⟨rfl, rfl, rfl, rfl, fun _ _ => rfl⟩
theorem Only.trans {g : Nat} {w w1 w2 : World} (a : Only g w w1) (b : Only g w1 w2) : Only g w w2 := ⟨b.os.trans a.os, b.tape.trans a.tape, b.output.trans a.output, b.size.trans a.size, fun k hk => (b.block k hk).trans (a.block k hk)⟩
theorem Only.below {g B : Nat} {w w' : World} (a : Only g w w') (h : B ≤ g) : Below B w w' := ⟨a.os, a.tape, a.output, Nat.le_of_eq a.size.symm, fun k hk => a.block k (by omega)⟩
theorem only_setRow (w : World) (g : Nat) (cs : Array Value) : Only g w (w.setRow g cs) := ⟨rfl, rfl, rfl, by simp [World.setRow], fun k hk => setRow_other w g k cs hk⟩
theorem only_setCell (w : World) (g i : Nat) (v : Value) : Only g w (w.setCell ⟨g, i, none⟩ v) := ⟨rfl, rfl, rfl, by simp, fun k hk => heap_setCell_other w _ k v hk⟩
theorem Only.cell {g : Nat} {w w' : World} (a : Only g w w') {b o : Nat} (hb : b ≠ g) : w'.cell? ⟨b, o, none⟩ = w.cell? ⟨b, o, none⟩ := World.cell?_of_block (a := ⟨b, o, none⟩) (a.block b hb)
section
variable {P : Program} {ops : Array Oper} {rest : List Oper} {o : Oper} {a : Act} {w : World} {Q : Exit → Act → World → Prop}
theorem run_copy_only (w : World) (d s : Operand) (dT sT ty : TypeId) (elem : TypeId) (hu : P.underlying dT = some (.slice elem)) (hsz : (P.info? elem).map (·.size) = some 1)
    (dp sp : Option Addr) (dLen dCap sLen sCap : Nat) (g off : Nat) (cur : List Value) (t : TypeId) (hg : w.heap[g]? = some (.cells cur.toArray t (0, 0))) (cs : List Value) (hn : cs.length = Nat.min sLen dLen)
    (hpos : 0 < cs.length → dp = some ⟨g, off, none⟩ ∧ ∃ ad, sp = some ad ∧ ∀ j v, cs[j]? = some v → w.cell? (ad.add j) = some v)
    (hfit : off + cs.length ≤ cur.length) (h1 : ∀ v ∈ cs, v.oneCell' = true) :
    ∃ w', (Builtin.copy_ #[dT, sT] ty #[.slice dp dLen dCap, .slice sp sLen sCap]).run P w = .ok (goInt cs.length) w' ∧ w'.heap[g]? = some (.cells (splice cur off cs).toArray t (0, 0)) ∧ Only g w w' := by
  by_cases h0 : cs.length = 0
  · obtain rfl : cs = [] := List.eq_nil_of_length_eq_zero h0
    exact ⟨w, run_copy_none (P := P) w dT sT ty elem dp sp dLen dCap sLen sCap hu hsz (by simpa using hn.symm), by simpa [splice] using hg, Only.refl _ _⟩
  · obtain ⟨rfl, ad, rfl, hsrc⟩ := hpos (by omega)
    exact ⟨_, run_copy_row (P := P) w dT sT ty elem g off dLen dCap ad sLen sCap cur.toArray t cs hu hsz hg hn hsrc (by simpa using hfit) h1, by rw [setRow_heap w g _ _ t _ hg]; simp [splice], only_setRow w g _⟩
theorem wpList_copy_only (hgd : o.guard = none) (d s : Operand) (dT sT : TypeId)
    (ho : o.op = .call { callee := .builtin .copy, args := #[d, s], argTypes := #[dT, sT] }) (elem : TypeId) (hu : P.underlying dT = some (.slice elem)) (hsz : (P.info? elem).map (·.size) = some 1)
    (dp sp : Option Addr) (dLen dCap sLen sCap : Nat) (hd : a.eval d = .slice dp dLen dCap) (hs : a.eval s = .slice sp sLen sCap)
    (g off : Nat) (cur : List Value) (t : TypeId) (hg : w.heap[g]? = some (.cells cur.toArray t (0, 0))) (cs : List Value) (hn : cs.length = Nat.min sLen dLen)
    (hpos : 0 < cs.length → dp = some ⟨g, off, none⟩ ∧ ∃ ad, sp = some ad ∧ ∀ j v, cs[j]? = some v → w.cell? (ad.add j) = some v)
    (hfit : off + cs.length ≤ cur.length) (h1 : ∀ v ∈ cs, v.oneCell' = true)
    (h : ∀ w', Hid (w'.heap[g]? = some (.cells (splice cur off cs).toArray t (0, 0))) → Hid (Only g w w') → wpList P ops Q rest (a.put o.dst (goInt cs.length)) w') :
    wpList P ops Q (o :: rest) a w := by
  refine wpList_plain hgd fun K hK => ?_
  obtain ⟨w', hrun, r1, r2⟩ := run_copy_only (P := P) w d s dT sT o.type elem hu hsz dp sp dLen dCap sLen sCap g off cur t hg cs hn hpos hfit h1
  unfold Oper.wp
  simp [execOp, ho, resolve, invoke, builtin, hd, hs, hrun, Result.andThen]
  exact hK _ _ (h w' (Lib.hid r1) (Lib.hid r2))
theorem step_copy_only {K : Act → World → Prop} {E : Prop} (hgd : o.guard = none) (d s : Operand) (dT sT : TypeId)
    (ho : o.op = .call { callee := .builtin .copy, args := #[d, s], argTypes := #[dT, sT] }) (elem : TypeId) (hu : P.underlying dT = some (.slice elem)) (hsz : (P.info? elem).map (·.size) = some 1)
    (dp sp : Option Addr) (dLen dCap sLen sCap : Nat) (hd : a.eval d = .slice dp dLen dCap) (hs : a.eval s = .slice sp sLen sCap)
    (g off : Nat) (cur : List Value) (t : TypeId) (hg : w.heap[g]? = some (.cells cur.toArray t (0, 0))) (cs : List Value) (hn : cs.length = Nat.min sLen dLen)
    (hpos : 0 < cs.length → dp = some ⟨g, off, none⟩ ∧ ∃ ad, sp = some ad ∧ ∀ j v, cs[j]? = some v → w.cell? (ad.add j) = some v)
    (hfit : off + cs.length ≤ cur.length) (h1 : ∀ v ∈ cs, v.oneCell' = true)
    (h : ∀ w', RowKit.Hid (w'.heap[g]? = some (.cells (splice cur off cs).toArray t (0, 0))) → RowKit.Hid (Only g w w') → K (a.put o.dst (goInt cs.length)) w') :
    if Region.wanted o (yielded ops a.tmps) = true then Oper.wp P o a w K Q else E := by
  have hw : Region.wanted o (yielded ops a.tmps) = true := by simp [Region.wanted, hgd]
  rw [if_pos hw]
  obtain ⟨w', hrun, r1, r2⟩ := run_copy_only (P := P) w d s dT sT o.type elem hu hsz dp sp dLen dCap sLen sCap g off cur t hg cs hn hpos hfit h1
  unfold Oper.wp
  simp [execOp, ho, resolve, invoke, builtin, hd, hs, hrun, Result.andThen]
  exact h w' (Lib.hid r1) (Lib.hid r2)
theorem wpList_append_only (hgd : o.guard = none) (s x : Operand) (t : TypeId) (hop : o.op = Op.call { callee := Callee.builtin Builtin.append, args := #[s, x], argTypes := #[t, t] })
    (e : TypeId) (i : TypeInfo) (h1 : P.underlying t = some (.slice e)) (h2 : P.info? e = some i) (h4 : i.size = 1)
    (g k cap : Nat) (cur : List Value) (hs : a.eval s = .slice (some ⟨g, 0, none⟩) k cap) (hg : w.heap[g]? = some (.cells cur.toArray e (0, 0))) (hcl : cur.length = cap) (ad : Addr) (m c : Nat) (news : List Value) (hx : a.eval x = .slice (some ad) m c) (hn : news.length = m)
    (hc : ∀ j u, news[j]? = some u → w.cell? (ad.add j) = some u) (h1c : ∀ u ∈ news, u.oneCell' = true) (b1 : k + m ≤ cap)
    (hK : ∀ w', Hid (w'.heap[g]? = some (.cells (splice cur k news).toArray e (0, 0))) → Hid (Only g w w') → wpList P ops Q rest (a.put o.dst (.slice (some ⟨g, 0, none⟩) (k + m) cap)) w') :
    wpList P ops Q (o :: rest) a w := by
  refine wpList_plain hgd fun K hK' => ?_
  have hr := run_append_room (P := P) w t o.type e i h1 h2 g k cap cur.toArray hg ad m c news (by rw [h4, Nat.mul_one]; exact hn) hc h1c b1 (by rw [h4]; simp; omega)
  unfold Oper.wp
  simp [execOp, hop, resolve, invoke, builtin, hs, hx, hr, Result.andThen]
  refine hK' _ _ (hK _ (Lib.hid ?_) (Lib.hid (only_setRow w g _)))
  rw [setRow_heap w g _ _ e _ hg]
  simp [splice, h4]
/-- clear of at most one cell at the end of a row. -/
theorem run_clear_only (w : World) (t e : TypeId) (z : Value)
    (ht : P.underlying t = some (.slice e)) (hv : ∀ w, (zeroValue e).run P w = .ok z w) (hz : z.cells = #[z]) (h1 : z.oneCell' = true)
    (A : Option Addr) (k c g off : Nat) (hk : k ≤ 1) (hA : k = 1 → A = some ⟨g, off, none⟩)
    (cur : List Value) (hg : w.heap[g]? = some (.cells cur.toArray e (0, 0))) (hoff : off + k ≤ cur.length) :
    ∃ (w' : World) (cur' : List Value), (∀ ty, (Builtin.clear_ #[t] ty #[.slice A k c]).run P w = .ok (.tuple #[]) w') ∧ w'.heap[g]? = some (.cells cur'.toArray e (0, 0)) ∧ cur'.length = cur.length ∧ cur'.take off = cur.take off ∧ Only g w w' := by
  rcases Nat.eq_zero_or_pos k with h0 | hp
  · subst h0
    exact ⟨w, cur, fun ty => by cases A <;> simp [Builtin.clear_, run_underlying ht, hv, hz, Builtin.zeroCells, storeCells], hg, rfl, rfl, Only.refl _ _⟩
  · obtain rfl : k = 1 := by omega
    obtain rfl := hA rfl
    have hcell : w.cell? ⟨g, off, none⟩ = cur[off]? := by simp [World.cell?, hg]
    refine ⟨_, cur.set off z, fun ty => Lib.run_clear_slice (P := P) w t e ty z ht hv hz h1 g off 1 c (by omega)
      (fun j hj => by obtain rfl : j = 0 := by omega
                      rw [Nat.add_zero, hcell, List.getElem?_eq_getElem (by omega)]; rfl)
      (fun j hj => by simp [World.frozen?, hg]), ?_, by simp, by rw [List.take_set_of_le (Nat.le_refl _)], only_setCell w g off z⟩
    simp only [World.setCells, List.replicate]
    rw [heap_setCell_same w g off cur.toArray e z hg]
    simp
end
/-- A row of the call's own, laid open. -/
theorem own_open {w : World} {B : Nat} {e : TypeId} {g n cap : Nat} {xs : List Value} (h : w.ownsRow B e 1 (.slice (some ⟨g, 0, none⟩) n cap) n xs) :
    ∃ cur : List Value, w.heap[g]? = some (.cells cur.toArray e (0, 0)) ∧ cur.length = cap ∧ cur.take n = xs ∧ n ≤ cap ∧ cap ≤ maxLen ∧ B ≤ g := by
  rcases h.2 with ⟨h0, _⟩ | ⟨g', cap', cur, h0, hB, hg, hnc, hcm, hcs, ht⟩
  · cases h0
  · cases h0
    exact ⟨cur.toList, by simpa using hg, by simpa using hcs, by simpa using ht, hnc, hcm, hB⟩
theorem own_shut {w : World} {B : Nat} {e : TypeId} {g n cap : Nat} {cur : List Value} (hg : w.heap[g]? = some (.cells cur.toArray e (0, 0))) (hl : cur.length = cap) (hn : n ≤ cap) (hm : cap ≤ maxLen) (hB : B ≤ g) :
    w.ownsRow B e 1 (.slice (some ⟨g, 0, none⟩) n cap) n (cur.take n) :=
  ⟨by simp [hl]; omega, .inr ⟨g, cap, cur.toArray, rfl, hB, hg, hn, hm, by simpa using hl, by simp⟩⟩
theorem take_splice2 {cur news tl : List Value} {i n m : Nat} (hin : i + 2 ≤ n) (hm1 : 1 ≤ m) (hm2 : m ≤ 2) (hl : news.length = m) (hc : n ≤ cur.length) (htl : tl = (cur.take n).drop (i + 2)) :
    (splice (splice cur i news) (i + m) tl).take (n - 2 + m) = (cur.take n).take i ++ news ++ (cur.take n).drop (i + 2) := by
  have h1 : tl.length = n - (i + 2) := by rw [htl]; simp; omega
  obtain ⟨A, hA⟩ : ∃ A, A = cur.take i ++ news := ⟨_, rfl⟩
  have hAl : A.length = i + m := by rw [hA, List.length_append, List.length_take, hl]; omega
  have h2 : splice cur i news = A ++ cur.drop (i + m) := by rw [hA]; unfold splice; rw [hl, List.append_assoc]
  rw [h2]
  unfold splice
  rw [List.take_left' hAl, ← List.append_assoc, List.take_left' (by rw [List.length_append, hAl, h1]; omega), ← htl, hA, List.take_take, Nat.min_eq_left (by omega)]

theorem take_splice1 {cur news : List Value} {i n m : Nat} (hin : i + 2 = n) (hl : news.length = m) (hc : n ≤ cur.length) :
    (splice cur i news).take (i + m) = (cur.take n).take i ++ news ++ (cur.take n).drop (i + 2) := by
  have h1 : (cur.take n).drop (i + 2) = [] := List.drop_eq_nil_of_le (by simp; omega)
  rw [h1, List.append_nil, List.take_take, Nat.min_eq_left (by omega)]
  unfold splice
  rw [← List.append_assoc, List.take_left' (by rw [List.length_append, List.length_take, hl]; omega)]
theorem add_none (b o j : Nat) : (⟨b, o, none⟩ : Addr).add j = ⟨b, o + j, none⟩ := by unfold Addr.add; split <;> simp_all
set_option maxRecDepth 100000 in
theorem replace_tail (g n cap i m vb vo vc B : Nat) (xs news : List Value) (w : World) (hn : n ≤ 1000) (hi : i + 2 = n) (hm1 : 1 ≤ m) (hm2 : m ≤ 2)
    (hown : w.ownsRow B 80 1 (.slice (some ⟨g, 0, none⟩) n cap) n xs) (hl : news.length = m) (hvb : vb ≠ g) (hnew : ∀ (j : Nat) (u : Value), news[j]? = some u → w.cell? ⟨vb, vo + j, none⟩ = some u) (hone : ∀ u ∈ news, u.oneCell' = true) :
    Calls Tryz.prog 164 #[.slice (some ⟨g, 0, none⟩) n cap, .int .i64 (i : Int), .int .i64 (n : Int), .slice (some ⟨vb, vo, none⟩) m vc] w fun r w' =>
      r = .returned (.slice (some ⟨g, 0, none⟩) (n - 2 + m) cap) ∧ Only g w w' ∧ w'.ownsRow B 80 1 (.slice (some ⟨g, 0, none⟩) (n - 2 + m) cap) (n - 2 + m) (xs.take i ++ news ++ xs.drop (i + 2)) := by
  obtain ⟨cur, hg, hcl, hcx, hnc, hcm, hB⟩ := own_open hown
  obtain ⟨i0, hi0, hz0, hz1, hz2⟩ := info_parts info_node
  have hown2 : w.ownsRow B 80 1 (.slice (some ⟨g, 0, none⟩) i cap) i (cur.take i) := own_shut hg hcl (by omega) hcm hB
  have t1 : (0 : Int) ≤ (i : Int) := by omega
  have t2 : (i : Int) ≤ (n : Int) := by omega
  have t3 : (n : Int) ≤ (cap : Int) := by omega
  have t4 : ((i : Int) == (n : Int)) = false := beq_eq_false_iff_ne.2 (by omega)
  have t6 : (i : Int) ≤ (cap : Int) := by omega
  have t7 : ¬ ((cap : Int) = (i : Int)) := by omega
  have t8 : ¬ (cap = i) := by omega
  have HG := Lib.hid hg
  have HOW := Lib.hid hown2
  have HN : Hid (∀ (j : Nat) (u : Value), news[j]? = some u → w.cell? ((⟨vb, vo, none⟩ : Addr).add j) = some u) := Lib.hid fun j u h => by rw [add_none]; exact hnew j u h
  have HONE := Lib.hid hone
  have HI := Lib.hid hi
  have HCX := Lib.hid hcx
  have HCL := Lib.hid hcl
  clear hg hown2 hnew hone  hcx hcl hown
  have HV := Lib.hid (Tryz.zeroValue80)
  rcases Nat.lt_or_ge m 2 with hmm | hmm
  · have t9 : (i : Int) + (m : Int) < (n : Int) := by omega
    have t10 : (0 : Int) ≤ (i : Int) + (m : Int) := by omega
    have t11 : (i : Int) + (m : Int) ≤ (n : Int) := by omega
    have t12 : ¬ (cap = i + m) := by omega
    have hk : n - (i + m) = 1 := by omega
    have e1 : ((i : Int) + (m : Int)).toNat = i + m := by omega
    have HK := Lib.hid hk
    clear hk
    go_enter Tryz.func164, Tryz.ntmps164
    go_wp2_with (at_builtin; go_loud (refine wpList_append_only rfl _ _ 86 rfl 80 i0 Tryz.underlying86 hi0 hz1 g i cap cur rfl HG.out HCL.out ⟨vb, vo, none⟩ m vc news rfl hl HN.out HONE.out (by have := HI.out; omega) ?_))
    intro w1 HG1 HO1
    have hl1 : (splice cur i news).length = cap := by rw [length_splice _ _ _ (by rw [hl, HCL.out]; have := HI.out; omega), HCL.out]
    obtain ⟨w2, cur2, hrun, hg2, h1, h2, ho2⟩ := run_clear_only (P := Tryz.prog) w1 86 80 .nilIface Tryz.underlying86 HV.out rfl rfl (some ⟨g, i + m, none⟩) (n - (i + m)) (cap - (i + m)) g (i + m) (by have := HK.out; omega) (fun _ => rfl) (splice cur i news) HG1.out (by have := HK.out; omega)
    have HG2 := Lib.hid hg2
    have HO2 := Lib.hid ho2
    have HC2 := Lib.hid (And.intro h1 h2)
    clear hg2 ho2 h1 h2
    go_wp2
    go_ret
    have hi' := HI.out
    obtain ⟨h1, h2⟩ := HC2.out
    rw [show n - 2 + m = i + m by omega]
    refine ⟨rfl, HO1.out.trans HO2.out, ?_⟩
    have hx : cur2.take (i + m) = xs.take i ++ news ++ xs.drop (i + 2) := by rw [h2, take_splice1 hi' hl (by rw [HCL.out]; exact hnc), HCX.out]
    rw [← hx]
    exact own_shut HG2.out (by rw [h1, hl1]) (by omega) hcm hB
  · have hi' := hi
    have t9 : ¬ ((i : Int) + (m : Int) < (n : Int)) := by omega
    go_enter Tryz.func164, Tryz.ntmps164
    go_wp2_with (at_builtin; go_loud (refine wpList_append_only rfl _ _ 86 rfl 80 i0 Tryz.underlying86 hi0 hz1 g i cap cur rfl HG.out HCL.out ⟨vb, vo, none⟩ m vc news rfl hl HN.out HONE.out (by have := HI.out; omega) ?_))
    intro w1 HG1 HO1
    go_wp2_with fail
    go_ret
    rw [show n - 2 + m = i + m by omega]
    refine ⟨rfl, HO1.out, ?_⟩
    have hx : (splice cur i news).take (i + m) = xs.take i ++ news ++ xs.drop (i + 2) := by rw [take_splice1 hi' hl (by rw [HCL.out]; exact hnc), HCX.out]
    rw [← hx]
    exact own_shut HG1.out (by rw [length_splice _ _ _ (by rw [hl, HCL.out]; omega), HCL.out]) (by omega) hcm hB
set_option maxHeartbeats 4000000 in
set_option maxRecDepth 100000 in
theorem replace_mid (g n cap i m q vb vo vc B : Nat) (xs news : List Value) (w : World) (hn : n ≤ 1000) (hq : q = i + 2) (hi : q < n) (hm1 : 1 ≤ m) (hm2 : m ≤ 2)
    (hown : w.ownsRow B 80 1 (.slice (some ⟨g, 0, none⟩) n cap) n xs) (hl : news.length = m) (hvb : vb ≠ g) (hnew : ∀ (j : Nat) (u : Value), news[j]? = some u → w.cell? ⟨vb, vo + j, none⟩ = some u) (hone : ∀ u ∈ news, u.oneCell' = true) (honx : ∀ u ∈ xs, u.oneCell' = true) :
    Calls Tryz.prog 164 #[.slice (some ⟨g, 0, none⟩) n cap, .int .i64 (i : Int), .int .i64 (q : Int), .slice (some ⟨vb, vo, none⟩) m vc] w fun r w' =>
      r = .returned (.slice (some ⟨g, 0, none⟩) (n - 2 + m) cap) ∧ Only g w w' ∧ w'.ownsRow B 80 1 (.slice (some ⟨g, 0, none⟩) (n - 2 + m) cap) (n - 2 + m) (xs.take i ++ news ++ xs.drop (i + 2)) := by
  obtain ⟨cur, hg, hcl, hcx, hnc, hcm, hB⟩ := own_open hown
  obtain ⟨T, hT⟩ : ∃ T, T = n - 2 + m := ⟨_, rfl⟩
  rw [← hT]
  have t1 : (0 : Int) ≤ (i : Int) := by omega
  have t2 : (i : Int) ≤ (q : Int) := by omega
  have t3 : (q : Int) ≤ (cap : Int) := by omega
  have t4 : ((i : Int) == (q : Int)) = false := beq_eq_false_iff_ne.2 (by omega)
  have t5 : ((q : Int) == (n : Int)) = false := beq_eq_false_iff_ne.2 (by omega)
  have t6 : (i : Int) ≤ (cap : Int) := by omega
  have t7 : (0 : Int) ≤ (q : Int) := by omega
  have t7' : (q : Int) ≤ (n : Int) := by omega
  have t8 : ¬ (cap = i) := by omega
  have t9 : ¬ (cap = q) := by omega
  have t10 : (i : Int) ≤ (T : Int) := by omega
  have t11 : (T : Int) ≤ (cap : Int) := by omega
  have t12 : ¬ ((cap : Int) < (T : Int)) := by omega
  have t16 : (0 : Int) ≤ (T : Int) := by omega
  have t17 : (T : Int) ≤ (n : Int) := by omega
  obtain ⟨u, hu⟩ : ∃ u, u = i + m := ⟨_, rfl⟩
  have t18 : ¬ (cap = u) := by omega
  have e2 : IntKind.i64.wrap ((i : Int) + (m : Int)) = (u : Int) := by rw [IntWalk.i64_in _ (by omega)]; omega
  have t19 : (u : Int) ≤ (T : Int) := by omega
  have e1 : (u : Int) + ((n - q : Nat) : Int) = (T : Int) := by omega
  have t13 : (u : Int) ≤ (q : Int) := by omega
  have t20 : (0 : Int) ≤ (u : Int) := by omega
  have HU := Lib.hid hu
  clear hu
  have HG := Lib.hid hg
  have HN : Hid (∀ (j : Nat) (u : Value), news[j]? = some u → w.cell? ((⟨vb, vo, none⟩ : Addr).add j) = some u) := Lib.hid fun j u h => by rw [add_none]; exact hnew j u h
  have HONE := Lib.hid hone
  have HONX := Lib.hid honx
  have HI := Lib.hid hi
  have HQ := Lib.hid hq
  have HT := Lib.hid hT
  have HCX := Lib.hid hcx
  have HCL := Lib.hid hcl
  have HHL := Lib.hid hl
  clear hg hnew hone hcx hcl hown honx hq hT hl
  have HV := Lib.hid (Tryz.zeroValue80)
  go_enter Tryz.func164, Tryz.ntmps164
  go_wp2_with fail
  go_quiet (fail)
  obtain ⟨W, hW⟩ : ∃ W, W = w.drewN nq := ⟨_, rfl⟩
  rw [← hW]
  have hOW : Only g w W := by rw [hW]; exact ⟨rfl, rfl, rfl, rfl, fun _ _ => rfl⟩
  have hGW : W.heap[g]? = some (.cells cur.toArray 80 (0, 0)) := by rw [hW]; exact HG.out
  have hNW : ∀ (j : Nat) (u : Value), news[j]? = some u → W.cell? ((⟨vb, vo, none⟩ : Addr).add j) = some u := by rw [hW]; exact HN.out
  clear hW
  obtain ⟨w1, hrun1, hg1, ho1⟩ := run_copy_only (P := Tryz.prog) W (.tmp 0) (.tmp 0) 86 86 3 80 Tryz.underlying86 (by kernel_rfl) (some ⟨g, i, none⟩) (some ⟨vb, vo, none⟩) (T - i) (cap - i) m vc g i cur 80 hGW news (by have := HHL.out; have := HQ.out; have := HT.out; rw [HHL.out]; simp only [Nat.min_def]; split <;> omega) (fun _ => ⟨rfl, _, rfl, hNW⟩) (by rw [HHL.out, HCL.out]; have := HQ.out; omega) HONE.out
  have HG1 := Lib.hid hg1
  have HO1 := Lib.hid (hOW.trans ho1)
  have hl1 : (splice cur i news).length = cap := by rw [length_splice _ _ _ (by rw [HHL.out, HCL.out]; have := HQ.out; omega), HCL.out]
  have HL1 := Lib.hid hl1
  clear hg1 ho1 hOW hGW hNW hl1
  have H2 : Hid (∀ (W2 : World), W2.heap[g]? = w1.heap[g]? → ∀ (j : Nat) (v : Value), (xs.drop q)[j]? = some v → W2.cell? ((⟨g, q, none⟩ : Addr).add j) = some v) := Lib.hid fun W2 h2 j v hj => by
    rw [add_none, World.cell?_of_block (a := ⟨g, q + j, none⟩) h2]
    have hx : xs[q + j]? = some v := by rw [← hj, List.getElem?_drop]
    rw [← HCX.out] at hx
    obtain ⟨hlt, hx⟩ : q + j < n ∧ cur[q + j]? = some v := by
      rw [List.getElem?_take] at hx
      split at hx
      · exact ⟨by assumption, hx⟩
      · cases hx
    simp only [World.cell?, HG1.out]
    simp only [List.getElem?_toArray]
    unfold splice
    rw [← List.append_assoc, List.getElem?_append_right (by rw [List.length_append, List.length_take, HHL.out, HCL.out]; have := HQ.out; omega), List.getElem?_drop, ← hx, List.length_append, List.length_take, HHL.out, HCL.out]
    have hidx : i + m + (q + j - (min i cap + m)) = q + j := by have := HQ.out; omega
    rw [hidx]; rfl
  have hxl : xs.length = n := by rw [← HCX.out, List.length_take, HCL.out]; omega
  have HX : Hid ((xs.drop q).length = n - q) := Lib.hid (by rw [List.length_drop, hxl])
  have HX2 : Hid (∀ v ∈ xs.drop q, v.oneCell' = true) := Lib.hid fun v hv => HONX.out v (List.mem_of_mem_drop hv)
  clear hxl
  obtain ⟨w2, hrun2, hg2, ho2⟩ := run_copy_only (P := Tryz.prog) w1.drew (.tmp 0) (.tmp 0) 86 86 3 80 Tryz.underlying86 (by kernel_rfl) (some ⟨g, u, none⟩) (some ⟨g, q, none⟩) (T - u) (cap - u) (n - q) (cap - q) g u (splice cur i news) 80 HG1.out (xs.drop q) (by rw [HX.out]; simp only [Nat.min_def]; split <;> omega) (fun _ => ⟨rfl, _, rfl, H2.out w1.drew rfl⟩) (by rw [HX.out, HL1.out]; omega) HX2.out
  have hl2 : (splice (splice cur i news) u (xs.drop q)).length = cap := by rw [length_splice _ _ _ (by rw [HX.out, HL1.out]; omega), HL1.out]
  have HD : Only g w1 w1.drew := ⟨rfl, rfl, rfl, rfl, fun _ _ => rfl⟩
  have HO2 := Lib.hid ((HO1.out.trans HD).trans ho2)
  have HG2 := Lib.hid hg2
  have HL2 := Lib.hid hl2
  have hcs : (splice (splice cur i news) u (xs.drop q)).take T = xs.take i ++ news ++ xs.drop (i + 2) := by
    have h := take_splice2 (cur := cur) (news := news) (tl := xs.drop q) (i := i) (n := n) (m := m) (by have := HQ.out; omega) hm1 hm2 HHL.out (by rw [HCL.out]; exact hnc) (by rw [HCX.out, HQ.out])
    rw [HT.out, HU.out, h, HCX.out]
  have HCS := Lib.hid hcs
  clear ho2 hg2 hl2 HD hcs H2
  go_wp2_with fail
  go_region
  rcases Nat.lt_or_ge m 2 with hmm | hmm
  · have hqq := HQ.out
    have hii := HI.out
    have htt := HT.out
    have t21 : ¬ (cap = T) := by omega
    clear hqq hii htt
    obtain ⟨w3, cur3, hrun3, hg3, h1, h2, ho3⟩ := run_clear_only (P := Tryz.prog) w2 86 80 .nilIface Tryz.underlying86 HV.out rfl rfl (some ⟨g, T, none⟩) (n - T) (cap - T) g T (by have := HT.out; have := HQ.out; have := HI.out; omega) (fun _ => rfl) (splice (splice cur i news) u (xs.drop q)) HG2.out (by rw [HL2.out]; have := HT.out; have := HQ.out; have := HI.out; omega)
    have HG3 := Lib.hid hg3
    have HO3 := Lib.hid ho3
    have HC3 := Lib.hid (And.intro h1 h2)
    clear hg3 ho3 h1 h2
    go_wp2
    go_ret
    obtain ⟨h1, h2⟩ := HC3.out
    refine ⟨rfl, HO2.out.trans HO3.out, ?_⟩
    rw [← HCS.out, ← h2]
    exact own_shut HG3.out (by rw [h1, HL2.out]) (by have := HT.out; have := HQ.out; have := HI.out; omega) hcm hB
  · obtain rfl : T = n := by have := HT.out; omega
    have hrun3 : ∀ (ty : TypeId) (A : Option Addr) (c : Nat), (Builtin.clear_ #[86] ty #[.slice A 0 c]).run Tryz.prog w2 = .ok (.tuple #[]) w2 := fun ty A c => by
      have hv := HV.out
      cases A <;> simp [Builtin.clear_, run_underlying Tryz.underlying86, hv, Builtin.zeroCells, storeCells]
    go_wp2
    all_goals go_ret
    all_goals refine ⟨rfl, HO2.out, ?_⟩
    all_goals rw [← List.append_assoc, ← HCS.out]
    all_goals first | exact own_shut HG2.out HL2.out (by omega) hcm hB | (obtain rfl : cap = T := by omega
                                                                          exact own_shut HG2.out HL2.out (by omega) hcm hB)
theorem replace_any (g n cap i m q vb vo vc B : Nat) (xs news : List Value) (w : World) (hn : n ≤ 1000) (hq : q = i + 2) (hi : q ≤ n) (hm1 : 1 ≤ m) (hm2 : m ≤ 2)
    (hown : w.ownsRow B 80 1 (.slice (some ⟨g, 0, none⟩) n cap) n xs) (hl : news.length = m) (hvb : vb ≠ g) (hnew : ∀ (j : Nat) (u : Value), news[j]? = some u → w.cell? ⟨vb, vo + j, none⟩ = some u) (hone : ∀ u ∈ news, u.oneCell' = true) (honx : ∀ u ∈ xs, u.oneCell' = true) :
    Calls Tryz.prog 164 #[.slice (some ⟨g, 0, none⟩) n cap, .int .i64 (i : Int), .int .i64 (q : Int), .slice (some ⟨vb, vo, none⟩) m vc] w fun r w' =>
      r = .returned (.slice (some ⟨g, 0, none⟩) (n - 2 + m) cap) ∧ Only g w w' ∧ w'.ownsRow B 80 1 (.slice (some ⟨g, 0, none⟩) (n - 2 + m) cap) (n - 2 + m) (xs.take i ++ news ++ xs.drop (i + 2)) := by
  rcases Nat.lt_or_ge q n with h | h
  · exact replace_mid g n cap i m q vb vo vc B xs news w hn hq h hm1 hm2 hown hl hvb hnew hone honx
  · obtain rfl : q = n := by omega
    exact replace_tail g q cap i m vb vo vc B xs news w hn hq.symm hm1 hm2 hown hl hvb hnew hone
end TR
end Go.Proofs.YtdjlflinepefbabGreat
