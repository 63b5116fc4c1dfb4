/- 2 texts laid together: each says at its head what it proves. No condition but those that each theorem names. -/
import Derived.Test.YtdjlflinepefbabGreatQ28
import Derived.Test.YtdjlflinepefbabGreatQ31
import Derived.Test.YtdjlflinepefbabGreatQ30
import Derived.Test.YtdjlflinepefbabGreatQ25

/- What package ext's Count and Pages answer, of any list. No condition but those that each theorem names. -/
namespace Go.Proofs.YtdjlflinepefbabGreat
open Go.RowKit
namespace EX
open MM
set_option linter.unusedVariables false
set_option linter.unusedSimpArgs false

theorem info_int : (Tryz.prog.info? 3).map (fun i => (i.zero, i.size, i.bytes)) = some (some (.int .i64 0), 1, 8) := by kernel_rfl
/-- A slice of integers that reads as a list. -/
def Ins (w : World) (a : Option Addr) (l : List Int) : Prop := l = [] ∨ ∃ b off, a = some ⟨b, off, none⟩ ∧ b < w.heap.size ∧ ∀ (i : Nat) (x : Int), l[i]? = some x → w.cell? ⟨b, off + i, none⟩ = some (.int .i64 x)
theorem Ins.below {w w' : World} {a : Option Addr} {l : List Int} (h : Ins w a l) (hb : Below w.heap.size w w') : Ins w' a l := by
  rcases h with h | ⟨b, off, rfl, hlt, hc⟩
  · exact .inl h
  · exact .inr ⟨b, off, rfl, Nat.lt_of_lt_of_le hlt hb.size, fun i x hi => (hb.cell (p := ⟨b, off + i, none⟩) hlt).trans (hc i x hi)⟩
def inCells (l : List Int) : List Value := l.map (Value.int .i64)
theorem own_ins {w : World} {base : Nat} {e : TypeId} {v : Value} {n : Nat} {l : List Int} (h : w.ownsRow base e 1 v n (inCells l)) :
    ∃ A c, v = .slice A n c ∧ n = l.length ∧ Ins w A l := by
  have hl : n = l.length := by have := h.1; simp [inCells] at this; omega
  rcases h.2 with ⟨hv, h0⟩ | ⟨g, cap, cur, hv, hg, hh, r⟩
  · exact ⟨none, 0, by rw [hv, h0], hl, .inl (List.eq_nil_of_length_eq_zero (by omega))⟩
  · refine ⟨_, _, hv, hl, .inr ⟨g, 0, rfl, (Array.getElem?_eq_some_iff.1 hh).1, fun i x hi => ?_⟩⟩
    rw [Nat.zero_add]
    subst hv
    exact own_cells h i _ (by simp [inCells, hi])
/-- The pages of an extent, of a list. -/
def pagesOf (e : Ext) (n : Nat) : List Int := (List.range n).map fun (i : Nat) => e.at_ + (i : Int)
def pages (l : List Ext) : List Int := l.flatMap fun e => if e.kind = 2 then pagesOf e e.n.toNat else []
theorem pages_take {l : List Ext} {k : Nat} {e : Ext} (h : l[k]? = some e) : pages (l.take (k + 1)) = pages (l.take k) ++ (if e.kind = 2 then pagesOf e e.n.toNat else []) := by
  rw [take_snoc h]; simp [pages]
theorem pagesOf_succ (e : Ext) (n : Nat) : pagesOf e (n + 1) = pagesOf e n ++ [e.at_ + (n : Int)] := by simp [pagesOf, List.range_succ]
theorem pages_len {l : List Ext} (h : ∀ e ∈ l, One e) : ((pages l).length : Int) ≤ count l := by
  induction l with
  | nil => simp [pages, count]
  | cons a l ih =>
    have h1 := (h a (List.mem_cons_self ..)).pos
    have h2 := ih fun e he => h e (List.mem_cons_of_mem _ he)
    have e1 : pages (a :: l) = (if a.kind = 2 then pagesOf a a.n.toNat else []) ++ pages l := rfl
    rw [e1, count_cons, List.length_append]
    split
    · simp [pagesOf]; omega
    · simp; omega
theorem count_take {l : List Ext} {k : Nat} {e : Ext} (h : l[k]? = some e) : count (l.take (k + 1)) = count (l.take k) + e.n := by
  rw [take_snoc h, count_append]; simp [count]

set_option maxHeartbeats 2000000 in
theorem count_bad (L : List Ext) (len cap : Nat) (hlen : len = L.length) (hm : len ≤ maxLen) (a : Option Addr) (w : World) (hr : Exs w a L) (hwf : ∀ e ∈ L, WfE e) (hv : ¬ Valid L) :
    Calls Tryz.prog 38 #[.slice a len cap] w fun r w' => r = .returned (.int .i64 0) ∧ Below w.heap.size w w' := by
  have HC := Lib.hid (check_any L len cap hlen hm a w hr hwf)
  rw [decide_eq_false hv] at HC
  clear hm hr hv hlen hwf
  go_enter Tryz.func38, Tryz.ntmps38
  go_wp2_with fail
  refine HC.out.mono ?_
  rintro r w1 ⟨rfl, hb1⟩
  go_wp2
  go_ret
  exact ⟨rfl, hb1⟩
set_option maxHeartbeats 2000000 in
theorem count_ok (L : List Ext) (len cap : Nat) (hlen : len = L.length) (hm : len ≤ maxLen) (a : Option Addr) (w : World) (hr : Exs w a L) (hv : Valid L) :
    Calls Tryz.prog 38 #[.slice a len cap] w fun r w' => r = .returned (.int .i64 (count L)) ∧ Below w.heap.size w w' := by
  have HC := Lib.hid (check_any L len cap hlen hm a w hr fun e he => (hv.1 e he).wf)
  rw [decide_eq_true hv] at HC
  have hl := valid_len hv
  have HR := Lib.hid hr
  have HV := Lib.hid hv
  have HL := Lib.hid hlen
  have hl' : len ≤ 16777216 := by omega
  clear hm hr hv hlen hl
  go_enter Tryz.func38, Tryz.ntmps38
  go_wp2_with fail
  refine HC.out.mono ?_
  rintro r w1 ⟨rfl, hb1⟩
  have HB1 := Lib.hid hb1
  clear hb1 HC
  go_wp2
  go_loopw [3, 11] (fun c i wr => ∃ (k : Nat) (q : Int), k ≤ len ∧ i = .int .i64 k ∧ c = .int .i64 q ∧ Hid (q = count (L.take k)) ∧ 0 ≤ q ∧ q ≤ 16777216 ∧ Below w.heap.size w wr) (fun _ i _ => len - (intOf i).toNat)
  case atStart => exact ⟨0, 0, Nat.zero_le _, rfl, rfl, Lib.hid (by simp [count]), by omega, by omega, HB1.out⟩
  case round =>
    obtain ⟨k, q, hk, rfl, rfl, hq, q0, q9, hbel⟩ := hrel
    by_cases hlt : k < len
    · obtain ⟨e, he⟩ : ∃ e, L[k]? = some e := ⟨_, List.getElem?_eq_getElem (by rw [← HL.out]; exact hlt)⟩
      rcases HR.out with h0 | ⟨b, off, rfl, hb, hc⟩
      · rw [h0] at he; simp at he
      · obtain ⟨p0, p1, p2, p3⟩ := (hc k e he).kept hbel hb
        have ho := valid_at HV.out he
        have o1 := ho.pos; have o2 := ho.high; have o3 := ho.low
        have hq1 : Hid (q + e.n = count (L.take (k + 1))) := by show q + e.n = _; rw [count_take he, ← hq.out]
        have hq2 : q + e.n ≤ 16777216 := by rw [hq1.out]; have := wv_len (HV.out.wv.take (k + 1)); omega
        have t1 : (k : Int) < (len : Int) := by omega
        have t2 : (0 : Int) ≤ (k : Int) := by omega
        have e9 : IntKind.i64.wrap (q + e.n) = q + e.n := IntWalk.i64_in _ (by omega)
        have HB := Lib.hid (hbel.alloc hbel.size (.cells #[.int .i64 e.from_, .int .i64 e.n, .int .i64 e.kind, .int .i64 e.at_] 41))
        clear hc he ho o2 o3 hbel
        go_wp2
        go_roundw
        case rel => exact ⟨k + 1, q + e.n, by omega, by go_num, rfl, hq1, by omega, hq2, HB.out⟩
        case measure => simp [intOf]; omega
    · obtain rfl : k = len := by omega
      have i0 : ¬ (k : Int) < (k : Int) := by omega
      have hfin : q = count L := by rw [hq.out, List.take_of_length_le (by rw [← HL.out]; exact Nat.le_refl _)]
      have HF := Lib.hid hfin
      clear hfin
      go_wp2
      go_ret
      exact ⟨by rw [← HF.out]; rfl, hbel⟩

end EX
end Go.Proofs.YtdjlflinepefbabGreat

/- What Over, Cut, Find, All and Count of a tree answer, of any tree that reads as a list of extents. No condition but those that each theorem names. -/

namespace Go.Proofs.YtdjlflinepefbabGreat
open Go.RowKit MM LF EX
namespace TR
set_option linter.unusedVariables false
set_option linter.unusedSimpArgs false

/-- A tree in block g, one of G, that has the extents of M. -/
def TreeAt (G : List Nat) (w : World) (g : Nat) (M : List Ext) : Prop := ∃ v, Blk w g 82 #[v] ∧ Root (fun b => b ∉ G) M w v
theorem TreeAt.lt {G : List Nat} {w : World} {g : Nat} {M : List Ext} (h : TreeAt G w g M) : g < w.heap.size := by
  obtain ⟨v, hb, _⟩ := h
  exact hb.lt
theorem TreeAt.not_int {G : List Nat} {w : World} {g : Nat} {M : List Ext} (h : TreeAt G w g M) : ∀ o x, w.cell? ⟨g, o, none⟩ ≠ some (.int .i64 x) := by
  obtain ⟨v, hb, hr⟩ := h
  exact root_cell hr hb
theorem TreeAt.below {G : List Nat} {w w' : World} {g : Nat} {M : List Ext} (h : TreeAt G w g M) (hb : Below w.heap.size w w') : TreeAt G w' g M := by
  obtain ⟨v, h1, h2⟩ := h
  exact ⟨v, h1.below hb h1.lt, h2.keep hb.size fun b _ hl => hb.block b hl⟩
theorem TreeAt.but {G : List Nat} {w w' : World} {g g' : Nat} {M : List Ext} (h : TreeAt G w g M) (hg : g' ∈ G) (hn : g ≠ g') (hb : But g' w w') : TreeAt G w' g M := by
  obtain ⟨v, h1, h2⟩ := h
  exact ⟨v, (hb.block g hn h1.lt).trans h1, h2.keep hb.size fun b hm hl => hb.block b (fun e => hm (e ▸ hg)) hl⟩
theorem new_any (w : World) : Calls Tryz.prog 31 #[] w fun r w' => r = .returned (.pointer (some ⟨w.heap.size, 0, none⟩)) ∧ w' = w.alloc (.cells #[.nilIface] 82) := by
  go_enter Tryz.func31, Tryz.ntmps31
  go_wp2
  simp [bodyPost, results, Tryz.results31, go_sem]
theorem TreeAt.new (G : List Nat) (w : World) : TreeAt G (w.alloc (.cells #[.nilIface] 82)) w.heap.size [] := ⟨.nilIface, Blk.new w _ _, .inl ⟨rfl, rfl⟩⟩
/-- What a tree says of a sector. -/
theorem tfind_any {G : List Nat} {w : World} {g : Nat} {M : List Ext} (h : TreeAt G w g M) (hv : Valid M) (s : Int) (hs : s ≤ 9223372036854775807) :
    Calls Tryz.prog 26 #[.pointer (some ⟨g, 0, none⟩), .int .i64 s] w fun r w' => r = .returned (.tuple #[.int .i64 (say M s).1, .int .i64 (say M s).2]) ∧ Below w.heap.size w w' := by
  obtain ⟨v, hb, hr⟩ := h
  have kg : w.cell? ⟨g, 0, none⟩ = some v := by rw [hb.cell 0]; rfl
  have HF : Hid (Calls Tryz.prog 59 #[v, .int .i64 s] w fun r w' => r = .returned (.tuple #[.int .i64 (say M s).1, .int .i64 (say M s).2]) ∧ Below w.heap.size w w') := by
    rcases hr with ⟨rfl, rfl⟩ | ⟨h, t, rfl, hr, ht, rfl⟩
    · exact Lib.hid ((find_none_any s w).mono fun r w' h => by rw [h.1, ← h.2]; exact ⟨rfl, Below.refl _ _⟩)
    · exact Lib.hid (find_ok h w t hr.rep ht.weak hv.wv s hs)
  clear hb hr hv hs
  go_enter Tryz.func26, Tryz.ntmps26
  go_wp2_with fail
  refine HF.out.mono ?_
  rintro r w1 ⟨rfl, hb1⟩
  go_wp2
  go_ret2
  exact ⟨rfl, hb1⟩
theorem touch_all {M : List Ext} (hv : Valid M) : touch M 0 16777216 = M := by
  refine List.filter_eq_self.2 fun e he => ?_
  have h := (hv.1 e he)
  have h1 := h.low
  have h2 := h.high
  have h3 := h.lt
  simp
  omega
theorem all_any {G : List Nat} {w : World} {g : Nat} {M : List Ext} (h : TreeAt G w g M) (hv : Valid M) (hm : M.length ≤ 1000000) :
    Calls Tryz.prog 28 #[.pointer (some ⟨g, 0, none⟩)] w (RowEnd M w) := by
  obtain ⟨v, hb, hr⟩ := h
  have kg : w.cell? ⟨g, 0, none⟩ = some v := by rw [hb.cell 0]; rfl
  have HT := Lib.hid (touching_any hr hv hm 0 16777216 (by omega) (by omega) (by omega) (by omega))
  rw [touch_all hv] at HT
  clear hb hr hv hm
  go_enter Tryz.func28, Tryz.ntmps28
  go_wp2_with fail
  refine HT.out.mono ?_
  rintro r w1 ⟨A, n, c, rfl, hrest⟩
  have HRE := Lib.hid hrest
  clear hrest
  go_wp2
  go_ret
  exact ⟨A, n, c, rfl, HRE.out⟩
theorem tcount_any {G : List Nat} {w : World} {g : Nat} {M : List Ext} (h : TreeAt G w g M) (hv : Valid M) (hm : M.length ≤ 1000000) :
    Calls Tryz.prog 29 #[.pointer (some ⟨g, 0, none⟩)] w fun r w' => r = .returned (.int .i64 (EX.count M)) ∧ Below w.heap.size w w' := by
  have HA := Lib.hid (all_any h hv hm)
  have HC : Hid (∀ A n c w1, n = M.length → Exs w1 A M → Calls Tryz.prog 38 #[.slice A n c] w1 fun r w' => r = .returned (.int .i64 (EX.count M)) ∧ Below w1.heap.size w1 w') := Lib.hid fun A n c w1 hn hx => count_ok M n c hn (by unfold maxLen; omega) A w1 hx hv
  clear h hv hm
  go_enter Tryz.func29, Tryz.ntmps29
  go_wp2_with fail
  refine HA.out.mono ?_
  rintro r w1 ⟨A, n, c, rfl, hn, _, hx, _, hb⟩
  have HC1 := Lib.hid (HC.out A n c w1 hn hx)
  have HB := Lib.hid hb
  clear hn hx hb
  go_wp2_with fail
  refine HC1.out.mono ?_
  rintro r w2 ⟨rfl, hb2⟩
  have HB2 := Lib.hid (bkept HB.out hb2)
  clear hb2
  go_wp2
  go_ret
  exact ⟨rfl, HB2.out⟩
/-- Where a range may be. -/
theorem noRange_any (f n : Int) (hf : f ≤ 9223372036854775807) (w : World) :
    Calls Tryz.prog 52 #[.int .i64 f, .int .i64 n] w fun r w' => r = .returned (.bool (decide (¬ Rng f n 16777216))) ∧ Below w.heap.size w w' := by
  by_cases hg : Rng f n 16777216
  · have HC := Lib.hid (clip_yesC [] 0 0 rfl (by decide) none f n w (.inl rfl) (by exact valid_nil) hg)
    rw [decide_eq_false (by simpa using hg)]
    clear hg
    go_enter Tryz.func52, Tryz.ntmps52
    go_wp2_with fail
    refine HC.out.mono ?_
    rintro r w1 ⟨A', n', c', rfl, hrest⟩
    have HRE := Lib.hid hrest.2.2.2.2
    clear hrest
    go_wp2
    go_ret
    exact ⟨rfl, HRE.out⟩
  · have HC := Lib.hid (clip_far [] 0 0 rfl (by decide) none f n hf w (.inl rfl) (by simp) (by exact valid_nil) hg)
    rw [decide_eq_true hg]
    clear hg
    go_enter Tryz.func52, Tryz.ntmps52
    go_wp2_with fail
    refine HC.out.mono ?_
    rintro r w1 ⟨rfl, hb⟩
    have HRE := Lib.hid hb
    clear hb
    go_wp2
    go_ret
    exact ⟨rfl, HRE.out⟩
set_option maxHeartbeats 4000000 in
theorem tover_yes {G : List Nat} {w : World} {g : Nat} {M : List Ext} (h : TreeAt G w g M) (hg : g ∈ G) (hI : ∀ b ∈ G, b < w.heap.size ∧ ∀ o x, w.cell? ⟨b, o, none⟩ ≠ some (.int .i64 x)) (hv : Valid M) (hm : M.length ≤ 1000000) (e : Ext) (ho : One e) :
    Calls Tryz.prog 21 #[.pointer (some ⟨g, 0, none⟩), .agg #[.int .i64 e.from_, .int .i64 e.n, .int .i64 e.kind, .int .i64 e.at_]] w fun r w' => r = .returned (.int .i64 0) ∧ But g w w' ∧ TreeAt G w' g (over M e) := by
  obtain ⟨W, hW⟩ : ∃ W, W = w.alloc (.cells #[.int .i64 e.from_, .int .i64 e.n, .int .i64 e.kind, .int .i64 e.at_] 41) := ⟨_, rfl⟩
  have hbW : Below w.heap.size w W := by rw [hW]; exact below_box _ _
  have hX : Blk W w.heap.size 41 #[.int .i64 e.from_, .int .i64 e.n, .int .i64 e.kind, .int .i64 e.at_] := by rw [hW]; exact Blk.new _ _ _
  have HO : Hid (∀ U, Calls Tryz.prog 49 #[.agg #[.int .i64 e.from_, .int .i64 e.n, .int .i64 e.kind, .int .i64 e.at_]] U fun r w' => r = .returned (.bool true) ∧ Below U.heap.size U w') := Lib.hid fun U => one_yes _ _ _ _ ho U
  have HCH : Hid (∀ U, Below W.heap.size W U → Calls Tryz.prog 50 #[.pointer (some ⟨g, 0, none⟩), .int .i64 e.from_, .int .i64 (e.from_ + e.n), .func (.func 51) #[] #[.pointer (some ⟨w.heap.size, 0, none⟩)]] U fun r w' => r = .returned (.int .i64 0) ∧ But g U w' ∧ TreeAt G w' g (over M e)) := Lib.hid fun U hU => by
    have hbU := bkept hbW hU
    obtain ⟨v, hb, hr⟩ := h.below hbU
    have r1 := from_in ho
    have hd := does_over hv ho
    have h1 := ho.low
    have h2 := ho.high
    have h3 := ho.lt
    refine (change_over G g hg M v e.from_ (e.from_ + e.n) U hb hr (fun b hb => ⟨Nat.lt_of_lt_of_le (hI b hb).1 hbU.size, fun o x => by rw [hbU.cell (p := ⟨b, o, none⟩) (hI b hb).1]; exact (hI b hb).2 o x⟩) hv hm r1.1 (by unfold fin at h3; omega) (by unfold fin at h2; omega) _ _ hd w.heap.size ?_).mono ?_
    · intro V A n c hV hn hn2 hx
      exact over1_any _ A n c hn hn2 e ho (hv.sub (touch_sub _ _ _)) w.heap.size V hx ((hX.below hU hX.lt).below hV (Nat.lt_of_lt_of_le hX.lt hU.size))
    · rintro r w' ⟨rfl, hbut, v', hb', hr'⟩
      exact ⟨rfl, hbut, v', hb', hr'⟩
  have hs : IntKind.i64.wrap (e.from_ + e.n) = e.from_ + e.n := by
    have h1 := ho.low
    have h2 := ho.high
    unfold fin at h2
    have h3 := ho.lt
    unfold fin at h3
    exact IntWalk.i64_in _ (by omega)
  obtain ⟨⟨k0, k1, k2, k3⟩, _⟩ := cells4 hX
  have HW := Lib.hid hW
  have HBW := Lib.hid hbW
  have HX := Lib.hid hX
  clear h hg hI hv hm ho hX hbW hW
  go_enter Tryz.func21, Tryz.ntmps21
  go_wp2_with fail
  refine (HO.out _).mono ?_
  rintro r w1 ⟨rfl, hb1⟩
  rw [← HW.out] at hb1
  have HB1 := Lib.hid hb1
  have hX1 : Blk w1 w.heap.size 41 #[.int .i64 e.from_, .int .i64 e.n, .int .i64 e.kind, .int .i64 e.at_] := HX.out.below hb1 HX.out.lt
  have HC1 := Lib.hid (HCH.out w1 hb1)
  have HBB := Lib.hid (bkept HBW.out hb1)
  obtain ⟨⟨m0, m1, m2, m3⟩, _⟩ := cells4 hX1
  clear hX1 hb1 k0 k1 k2 k3
  go_wp2_with fail
  refine HC1.out.mono ?_
  rintro r w2 ⟨rfl, hbut, ht⟩
  have HBUT := Lib.hid ((But.of_below HBB.out).trans hbut)
  have HT := Lib.hid ht
  clear hbut ht
  go_wp2
  go_ret
  exact ⟨rfl, HBUT.out, HT.out⟩
set_option maxHeartbeats 4000000 in
theorem tover_no (g : Nat) (w : World) (e : Ext) (hw : WfE e) (ho : ¬ One e) :
    Calls Tryz.prog 21 #[.pointer (some ⟨g, 0, none⟩), .agg #[.int .i64 e.from_, .int .i64 e.n, .int .i64 e.kind, .int .i64 e.at_]] w fun r w' => r = .returned (.int .i64 1) ∧ Below w.heap.size w w' := by
  obtain ⟨W, hW⟩ : ∃ W, W = w.alloc (.cells #[.int .i64 e.from_, .int .i64 e.n, .int .i64 e.kind, .int .i64 e.at_] 41) := ⟨_, rfl⟩
  have hbW : Below w.heap.size w W := by rw [hW]; exact below_box _ _
  have hX : Blk W w.heap.size 41 #[.int .i64 e.from_, .int .i64 e.n, .int .i64 e.kind, .int .i64 e.at_] := by rw [hW]; exact Blk.new _ _ _
  have HO : Hid (∀ U, Calls Tryz.prog 49 #[.agg #[.int .i64 e.from_, .int .i64 e.n, .int .i64 e.kind, .int .i64 e.at_]] U fun r w' => r = .returned (.bool false) ∧ Below U.heap.size U w') := Lib.hid fun U => one_no _ _ _ _ hw ho U
  obtain ⟨⟨k0, k1, k2, k3⟩, _⟩ := cells4 hX
  have HW := Lib.hid hW
  have HBW := Lib.hid hbW
  clear hw ho hX hbW hW
  go_enter Tryz.func21, Tryz.ntmps21
  go_wp2_with fail
  refine (HO.out _).mono ?_
  rintro r w1 ⟨rfl, hb1⟩
  rw [← HW.out] at hb1
  have HBB := Lib.hid (bkept HBW.out hb1)
  clear hb1 k0 k1 k2 k3
  go_wp2
  go_ret
  exact ⟨rfl, HBB.out⟩
set_option maxHeartbeats 4000000 in
theorem tcut_no (g : Nat) (w : World) (f n : Int) (hf : f ≤ 9223372036854775807) (hg : ¬ Rng f n 16777216) :
    Calls Tryz.prog 23 #[.pointer (some ⟨g, 0, none⟩), .int .i64 f, .int .i64 n] w fun r w' => r = .returned (.int .i64 1) ∧ Below w.heap.size w w' := by
  obtain ⟨W, hW⟩ : ∃ W, W = (w.alloc (.cells #[.int .i64 f] 3)).alloc (.cells #[.int .i64 n] 3) := ⟨_, rfl⟩
  have hbW : Below w.heap.size w W := by rw [hW]; exact (below_box _ _).alloc (by simp) _
  have hX : Blk W w.heap.size 3 #[.int .i64 f] := by rw [hW]; exact (Blk.new w _ _).below (below_box _ _) (by simp)
  have hY : Blk W (w.heap.size + 1) 3 #[.int .i64 n] := by rw [hW, ← World.size_alloc w (.cells #[.int .i64 f] 3)]; exact Blk.new _ _ _
  have HO : Hid (∀ U, Calls Tryz.prog 52 #[.int .i64 f, .int .i64 n] U fun r w' => r = .returned (.bool true) ∧ Below U.heap.size U w') := Lib.hid fun U => by
    have := noRange_any f n hf U
    rw [decide_eq_true hg] at this
    exact this
  have k0 := hX.cell 0
  have k1 := hY.cell 0
  have HW := Lib.hid hW
  have HBW := Lib.hid hbW
  clear hf hg hX hY hbW hW
  go_enter Tryz.func23, Tryz.ntmps23
  go_wp2_with fail
  refine (HO.out _).mono ?_
  rintro r w1 ⟨rfl, hb1⟩
  rw [← HW.out] at hb1
  have HBB := Lib.hid (bkept HBW.out hb1)
  clear hb1 k0 k1
  go_wp2
  go_ret
  exact ⟨rfl, HBB.out⟩
set_option maxHeartbeats 4000000 in
theorem tcut_yes {G : List Nat} {w : World} {g : Nat} {M : List Ext} (h : TreeAt G w g M) (hg : g ∈ G) (hI : ∀ b ∈ G, b < w.heap.size ∧ ∀ o x, w.cell? ⟨b, o, none⟩ ≠ some (.int .i64 x)) (hv : Valid M) (hm : M.length ≤ 1000000) (f n : Int) (hr : Rng f n 16777216) :
    Calls Tryz.prog 23 #[.pointer (some ⟨g, 0, none⟩), .int .i64 f, .int .i64 n] w fun r w' => r = .returned (.int .i64 0) ∧ But g w w' ∧ TreeAt G w' g (cut M f n) := by
  obtain ⟨W, hW⟩ : ∃ W, W = (w.alloc (.cells #[.int .i64 f] 3)).alloc (.cells #[.int .i64 n] 3) := ⟨_, rfl⟩
  have hbW : Below w.heap.size w W := by rw [hW]; exact (below_box _ _).alloc (by simp) _
  have hX : Blk W w.heap.size 3 #[.int .i64 f] := by rw [hW]; exact (Blk.new w _ _).below (below_box _ _) (by simp)
  have hY : Blk W (w.heap.size + 1) 3 #[.int .i64 n] := by rw [hW, ← World.size_alloc w (.cells #[.int .i64 f] 3)]; exact Blk.new _ _ _
  have HO : Hid (∀ U, Calls Tryz.prog 52 #[.int .i64 f, .int .i64 n] U fun r w' => r = .returned (.bool false) ∧ Below U.heap.size U w') := Lib.hid fun U => by
    have := noRange_any f n (by have := hr.1; have := hr.2.1; have := hr.2.2; omega) U
    rw [decide_eq_false (by simpa using hr)] at this
    exact this
  have HCH : Hid (∀ U, Below W.heap.size W U → Calls Tryz.prog 50 #[.pointer (some ⟨g, 0, none⟩), .int .i64 f, .int .i64 (f + n), .func (.func 53) #[] #[.pointer (some ⟨w.heap.size, 0, none⟩), .pointer (some ⟨w.heap.size + 1, 0, none⟩)]] U fun r w' => r = .returned (.int .i64 0) ∧ But g U w' ∧ TreeAt G w' g (cut M f n)) := Lib.hid fun U hU => by
    have hbU := bkept hbW hU
    obtain ⟨v, hb, hrt⟩ := h.below hbU
    obtain ⟨r1, r2, r3⟩ := hr
    have hd := does_cut hv r1 r2 r3
    refine (change_cut G g hg M v f (f + n) U hb hrt (fun b hb => ⟨Nat.lt_of_lt_of_le (hI b hb).1 hbU.size, fun o x => by rw [hbU.cell (p := ⟨b, o, none⟩) (hI b hb).1]; exact (hI b hb).2 o x⟩) hv hm r1 (by omega) (by omega) _ _ hd w.heap.size (w.heap.size + 1) ?_).mono ?_
    · intro V A m c hV hn hn2 hx
      have q1 := (hX.below hU hX.lt).below hV (Nat.lt_of_lt_of_le hX.lt hU.size)
      have q2 := (hY.below hU hY.lt).below hV (Nat.lt_of_lt_of_le hY.lt hU.size)
      exact cut1_any _ A m c hn hn2 f n ⟨r1, r2, r3⟩ (hv.sub (touch_sub _ _ _)) _ _ V hx q1 q2
    · rintro r w' ⟨rfl, hbut, v', hb', hr'⟩
      exact ⟨rfl, hbut, v', hb', hr'⟩
  have hs : IntKind.i64.wrap (f + n) = f + n := by
    obtain ⟨r1, r2, r3⟩ := hr
    exact IntWalk.i64_in _ (by omega)
  have k0 := hX.cell 0
  have k1 := hY.cell 0
  have HX := Lib.hid hX
  have HY := Lib.hid hY
  have HW := Lib.hid hW
  have HBW := Lib.hid hbW
  clear h hg hI hv hm hr hX hY hbW hW
  go_enter Tryz.func23, Tryz.ntmps23
  go_wp2_with fail
  refine (HO.out _).mono ?_
  rintro r w1 ⟨rfl, hb1⟩
  rw [← HW.out] at hb1
  have HC1 := Lib.hid (HCH.out w1 hb1)
  have HBB := Lib.hid (bkept HBW.out hb1)
  have m0 := (HX.out.below hb1 HX.out.lt).cell 0
  have m1 := (HY.out.below hb1 HY.out.lt).cell 0
  clear hb1 k0 k1
  go_wp2_with fail
  refine HC1.out.mono ?_
  rintro r w2 ⟨rfl, hbut, ht⟩
  have HBUT := Lib.hid ((But.of_below HBB.out).trans hbut)
  have HT := Lib.hid ht
  clear hbut ht
  go_wp2
  go_ret
  exact ⟨rfl, HBUT.out, HT.out⟩
end TR
end Go.Proofs.YtdjlflinepefbabGreat
