/- What package ext's Count and Pages answer, of any list. No condition but those that each theorem names. -/
import Derived.Test.YtomncnelkkmalaaExT
namespace Go.Proofs.Ytomncnelkkmalaa
open Go.RowKit
namespace EX
open MM
set_option linter.unusedVariables false
set_option linter.unusedSimpArgs false

theorem info_int : (Try.prog.info? 3).map (fun i => (i.zero, i.size, i.bytes)) = some (some (.int .i64 0), 1, 8) := by kernel_rfl
/-- A slice of integers that reads as a list. -/
def Ins (w : World) (a : Option Addr) (l : List Int) : Prop := l = [] ∨ ∃ b off, a = some ⟨b, off, none⟩ ∧ b < w.heap.size ∧ ∀ (i : Nat) (x : Int), l[i]? = some x → w.cell? ⟨b, off + i, none⟩ = some (.int .i64 x)
theorem Ins.below {w w' : World} {a : Option Addr} {l : List Int} (h : Ins w a l) (hb : Below w.heap.size w w') : Ins w' a l := by
  rcases h with h | ⟨b, off, rfl, hlt, hc⟩
  · exact .inl h
  · exact .inr ⟨b, off, rfl, Nat.lt_of_lt_of_le hlt hb.size, fun i x hi => (hb.cell (p := ⟨b, off + i, none⟩) hlt).trans (hc i x hi)⟩
def inCells (l : List Int) : List Value := l.map (Value.int .i64)
theorem own_ins {w : World} {base : Nat} {e : TypeId} {v : Value} {n : Nat} {l : List Int} (h : w.ownsRow base e 1 v n (inCells l)) :
    ∃ A c, v = .slice A n c ∧ n = l.length ∧ Ins w A l := by
  have hl : n = l.length := by have := h.1; simp [inCells] at this; omega
  rcases h.2 with ⟨hv, h0⟩ | ⟨g, cap, cur, hv, hg, hh, r⟩
  · exact ⟨none, 0, by rw [hv, h0], hl, .inl (List.eq_nil_of_length_eq_zero (by omega))⟩
  · refine ⟨_, _, hv, hl, .inr ⟨g, 0, rfl, (Array.getElem?_eq_some_iff.1 hh).1, fun i x hi => ?_⟩⟩
    rw [Nat.zero_add]
    subst hv
    exact own_cells h i _ (by simp [inCells, hi])
/-- The pages of an extent, of a list. -/
def pagesOf (e : Ext) (n : Nat) : List Int := (List.range n).map fun (i : Nat) => e.at_ + (i : Int)
def pages (l : List Ext) : List Int := l.flatMap fun e => if e.kind = 2 then pagesOf e e.n.toNat else []
theorem pages_take {l : List Ext} {k : Nat} {e : Ext} (h : l[k]? = some e) : pages (l.take (k + 1)) = pages (l.take k) ++ (if e.kind = 2 then pagesOf e e.n.toNat else []) := by
  rw [take_snoc h]; simp [pages]
theorem pagesOf_succ (e : Ext) (n : Nat) : pagesOf e (n + 1) = pagesOf e n ++ [e.at_ + (n : Int)] := by simp [pagesOf, List.range_succ]
theorem pages_len {l : List Ext} (h : ∀ e ∈ l, One e) : ((pages l).length : Int) ≤ count l := by
  induction l with
  | nil => simp [pages, count]
  | cons a l ih =>
    have h1 := (h a (List.mem_cons_self ..)).pos
    have h2 := ih fun e he => h e (List.mem_cons_of_mem _ he)
    have e1 : pages (a :: l) = (if a.kind = 2 then pagesOf a a.n.toNat else []) ++ pages l := rfl
    rw [e1, count_cons, List.length_append]
    split
    · simp [pagesOf]; omega
    · simp; omega
theorem count_take {l : List Ext} {k : Nat} {e : Ext} (h : l[k]? = some e) : count (l.take (k + 1)) = count (l.take k) + e.n := by
  rw [take_snoc h, count_append]; simp [count]

set_option maxHeartbeats 2000000 in
theorem count_bad (L : List Ext) (len cap : Nat) (hlen : len = L.length) (hm : len ≤ maxLen) (a : Option Addr) (w : World) (hr : Exs w a L) (hwf : ∀ e ∈ L, WfE e) (hv : ¬ Valid L) :
    Calls Try.prog 25 #[.slice a len cap] w fun r w' => r = .returned (.int .i64 0) ∧ Below w.heap.size w w' := by
  have HC := Lib.hid (check_any L len cap hlen hm a w hr hwf)
  rw [decide_eq_false hv] at HC
  clear hm hr hv hlen hwf
  go_enter Try.func25, Try.ntmps25
  go_wp2_with fail
  refine HC.out.mono ?_
  rintro r w1 ⟨rfl, hb1⟩
  go_wp2
  go_ret
  exact ⟨rfl, hb1⟩
set_option maxHeartbeats 2000000 in
theorem count_ok (L : List Ext) (len cap : Nat) (hlen : len = L.length) (hm : len ≤ maxLen) (a : Option Addr) (w : World) (hr : Exs w a L) (hv : Valid L) :
    Calls Try.prog 25 #[.slice a len cap] w fun r w' => r = .returned (.int .i64 (count L)) ∧ Below w.heap.size w w' := by
  have HC := Lib.hid (check_any L len cap hlen hm a w hr fun e he => (hv.1 e he).wf)
  rw [decide_eq_true hv] at HC
  have hl := valid_len hv
  have HR := Lib.hid hr
  have HV := Lib.hid hv
  have HL := Lib.hid hlen
  have hl' : len ≤ 16777216 := by omega
  clear hm hr hv hlen hl
  go_enter Try.func25, Try.ntmps25
  go_wp2_with fail
  refine HC.out.mono ?_
  rintro r w1 ⟨rfl, hb1⟩
  have HB1 := Lib.hid hb1
  clear hb1 HC
  go_wp2
  go_loopw [3, 11] (fun c i wr => ∃ (k : Nat) (q : Int), k ≤ len ∧ i = .int .i64 k ∧ c = .int .i64 q ∧ Hid (q = count (L.take k)) ∧ 0 ≤ q ∧ q ≤ 16777216 ∧ Below w.heap.size w wr) (fun _ i _ => len - (intOf i).toNat)
  case atStart => exact ⟨0, 0, Nat.zero_le _, rfl, rfl, Lib.hid (by simp [count]), by omega, by omega, HB1.out⟩
  case round =>
    obtain ⟨k, q, hk, rfl, rfl, hq, q0, q9, hbel⟩ := hrel
    by_cases hlt : k < len
    · obtain ⟨e, he⟩ : ∃ e, L[k]? = some e := ⟨_, List.getElem?_eq_getElem (by rw [← HL.out]; exact hlt)⟩
      rcases HR.out with h0 | ⟨b, off, rfl, hb, hc⟩
      · rw [h0] at he; simp at he
      · obtain ⟨p0, p1, p2, p3⟩ := (hc k e he).kept hbel hb
        have ho := valid_at HV.out he
        have o1 := ho.pos; have o2 := ho.high; have o3 := ho.low
        have hq1 : Hid (q + e.n = count (L.take (k + 1))) := by show q + e.n = _; rw [count_take he, ← hq.out]
        have hq2 : q + e.n ≤ 16777216 := by rw [hq1.out]; have := wv_len (HV.out.wv.take (k + 1)); omega
        have t1 : (k : Int) < (len : Int) := by omega
        have t2 : (0 : Int) ≤ (k : Int) := by omega
        have e9 : IntKind.i64.wrap (q + e.n) = q + e.n := IntWalk.i64_in _ (by omega)
        have HB := Lib.hid (hbel.alloc hbel.size (.cells #[.int .i64 e.from_, .int .i64 e.n, .int .i64 e.kind, .int .i64 e.at_] 24))
        clear hc he ho o2 o3 hbel
        go_wp2
        go_roundw
        case rel => exact ⟨k + 1, q + e.n, by omega, by go_num, rfl, hq1, by omega, hq2, HB.out⟩
        case measure => simp [intOf]; omega
    · obtain rfl : k = len := by omega
      have i0 : ¬ (k : Int) < (k : Int) := by omega
      have hfin : q = count L := by rw [hq.out, List.take_of_length_le (by rw [← HL.out]; exact Nat.le_refl _)]
      have HF := Lib.hid hfin
      clear hfin
      go_wp2
      go_ret
      exact ⟨by rw [← HF.out]; rfl, hbel⟩

def RowI (R : List Int) (w : World) (r : Ending) (w' : World) : Prop := ∃ (A : Option Addr) (n c : Nat), r = .returned (.slice A n c) ∧ n = R.length ∧ Ins w' A R ∧ Below w.heap.size w w'
set_option maxHeartbeats 2000000 in
theorem pages_bad (L : List Ext) (len cap : Nat) (hlen : len = L.length) (hm : len ≤ maxLen) (a : Option Addr) (w : World) (hr : Exs w a L) (hwf : ∀ e ∈ L, WfE e) (hv : ¬ Valid L) :
    Calls Try.prog 26 #[.slice a len cap] w fun r w' => r = .returned (.slice none 0 0) ∧ Below w.heap.size w w' := by
  have HC := Lib.hid (check_any L len cap hlen hm a w hr hwf)
  rw [decide_eq_false hv] at HC
  clear hm hr hv hlen hwf
  go_enter Try.func26, Try.ntmps26
  go_wp2_with fail
  refine HC.out.mono ?_
  rintro r w1 ⟨rfl, hb1⟩
  go_wp2
  go_ret
  exact ⟨rfl, hb1⟩
set_option maxHeartbeats 4000000 in
theorem pages_ok (L : List Ext) (len cap : Nat) (hlen : len = L.length) (hm : len ≤ maxLen) (a : Option Addr) (w : World) (hr : Exs w a L) (hv : Valid L) :
    Calls Try.prog 26 #[.slice a len cap] w (RowI (pages L) w) := by
  obtain ⟨i0, hi, hz0, hz1, hz2⟩ := info_parts info_int
  have HC := Lib.hid (check_any L len cap hlen hm a w hr fun e he => (hv.1 e he).wf)
  rw [decide_eq_true hv] at HC
  have hl := valid_len hv
  have HR := Lib.hid hr
  have HV := Lib.hid hv
  have HL := Lib.hid hlen
  have hl' : len ≤ 16777216 := by omega
  clear hm hr hv hlen hl
  go_enter Try.func26, Try.ntmps26
  go_wp2_with fail
  refine HC.out.mono ?_
  rintro r w1 ⟨rfl, hb1⟩
  have HB1 := Lib.hid hb1
  clear hb1 HC
  go_wp2
  go_loopw [3, 12] (fun x i wr => ∃ (k : Nat) (A : Option Addr) (n c : Nat) (R : List Int), k ≤ len ∧ i = .int .i64 k ∧ x = .slice A n c ∧ Hid (R = pages (L.take k)) ∧ n ≤ 16777216 ∧ wr.ownsRow w.heap.size 3 1 (.slice A n c) n (inCells R) ∧ Below w.heap.size w wr) (fun _ i _ => len - (intOf i).toNat)
  case atStart => exact ⟨0, none, 0, 0, [], Nat.zero_le _, rfl, rfl, Lib.hid (by simp [pages]), by omega, World.ownsRow_nil _ _ _ _, HB1.out⟩
  case round =>
    obtain ⟨k, A, n, c, R, hk, rfl, rfl, hR, hn, hown, hbel⟩ := hrel
    by_cases hlt : k < len
    · obtain ⟨e, he⟩ : ∃ e, L[k]? = some e := ⟨_, List.getElem?_eq_getElem (by rw [← HL.out]; exact hlt)⟩
      rcases HR.out with h0 | ⟨b, off, rfl, hb, hc⟩
      · rw [h0] at he; simp at he
      · obtain ⟨p0, p1, p2, p3⟩ := (hc k e he).kept hbel hb
        have ho := valid_at HV.out he
        have o1 := ho.pos; have o2 := ho.high; have o3 := ho.low
        have hnl : n = R.length := by have := hown.1; simp [inCells] at this; omega
        have hbd : ((pages (L.take (k + 1))).length : Int) ≤ 16777216 := by have := pages_len (HV.out.wv.take (k + 1)).1; have := wv_len (HV.out.wv.take (k + 1)); omega
        have t1 : (k : Int) < (len : Int) := by omega
        have t2 : (0 : Int) ≤ (k : Int) := by omega
        have HE := Lib.hid he
        have HOW := Lib.hid hown
        have HBE := Lib.hid hbel
        by_cases hk2 : e.kind = 2
        · obtain ⟨N, hN⟩ := Int.eq_ofNat_of_zero_le (show 0 ≤ e.n by omega)
          have hN2 : N ≤ 2048 := by have := ho.2; omega
          have hA0 : 0 ≤ e.at_ := by have := ho.2; omega
          have hA1 : e.at_ ≤ 2048 := by have := ho.2; omega
          have HT : Hid (pages (L.take (k + 1)) = R ++ pagesOf e N) := by show _ = _; rw [pages_take he, if_pos hk2, ← hR.out, hN]; rfl
          have hbd2 : n + N ≤ 16777216 := by rw [HT.out] at hbd; simp [pagesOf] at hbd; omega
          have HOK := Lib.hid ho
          obtain ⟨f', n', k', t'⟩ := e
          simp only at p0 p1 p2 p3 hk2 hN hA0 hA1 o1 o2 o3
          subst hk2 hN
          clear hc he ho o2 o3 hbel hown hbd hnl
          obtain ⟨wo, rfl⟩ : ∃ wo : World, wo = wr := ⟨_, rfl⟩
          go_wp2
          go_loopw [3, 21] (fun x i wi => ∃ (m : Nat) (A' : Option Addr) (n' c' : Nat), m ≤ N ∧ i = .int .i64 m ∧ x = .slice A' n' c' ∧ Hid (n' = n + m) ∧ wi.ownsRow w.heap.size 3 1 (.slice A' n' c') n' (inCells (R ++ pagesOf ⟨f', (N : Int), 2, t'⟩ m)) ∧ Blk wi wo.heap.size 24 (c4 f' (N : Int) 2 t') ∧ Below w.heap.size w wi) (fun _ i _ => N - (intOf i).toNat)
          case atStart => exact ⟨0, A, n, c, Nat.zero_le _, rfl, rfl, Lib.hid rfl, by simpa [pagesOf] using HOW.out.alloc _, Blk.new wo _ _, HBE.out.alloc HBE.out.size _⟩
          case round =>
            obtain ⟨m, A', n', c', hm', rfl, rfl, hn', hown', hblk, hbel'⟩ := hrel
            have HB' := Lib.hid hblk
            have hn2 : n' ≤ n + N := by rw [hn'.out]; omega
            have HO' := Lib.hid hown'
            have HL' := Lib.hid hbel'
            obtain ⟨⟨b0, b1, b2, b3⟩, _⟩ := cells4 hblk
            clear hblk hown' hbel'
            by_cases hlt2 : m < N
            · have u1 : (m : Int) < (N : Int) := by omega
              have u2 : (0 : Int) ≤ (m : Int) := by omega
              have e9 : IntKind.i64.wrap (t' + (m : Int)) = t' + (m : Int) := IntWalk.i64_in _ (by omega)
              have hsz : w.heap.size ≤ wr.heap.size := HL'.out.size
              go_wp2_with (at_builtin; refine wpList_append_own _ rfl _ _ 52 rfl w.heap.size 3 i0 (.int .i64 0) 1 8 Try.underlying52 hi hz0 hz1 hz2 rfl (by decide) _ _ _ rfl (HO'.out.alloc _) ⟨wr.heap.size, 0, none⟩ 1 1 [.int .i64 (t' + (m : Int))] rfl rfl ?c1 ?c2 ?c3 ?c4 ?c5 ?_)
              case c1 => exact new_cells _ _ _
              case c2 => intro u hu; simp at hu; subst hu; rfl
              case c3 => unfold maxLen; omega
              case c4 => omega
              case c5 => simp; omega
              intro v8 w8 own8 hgrow _
              have hne : some wo.heap.size ≠ (Value.slice A' n' c').ownBlock := (own_ne HO'.out HB'.out (by decide)).symm
              have hb8 : Blk w8 wo.heap.size 24 (c4 f' (N : Int) 2 t') := (HB'.out.alloc _).grown hgrow hne
              have hl8 : Below w.heap.size w w8 := (HL'.out.alloc hsz _).grown hgrow (by simp; omega) (fun j hj => (HO'.out.lt j hj).1)
              have own8' : w8.ownsRow w.heap.size 3 1 v8 (n' + 1) (inCells (R ++ pagesOf ⟨f', (N : Int), 2, t'⟩ (m + 1))) := by
                rw [pagesOf_succ, ← List.append_assoc]
                have e1 : inCells ((R ++ pagesOf ⟨f', (N : Int), 2, t'⟩ m) ++ [t' + (m : Int)]) = inCells (R ++ pagesOf ⟨f', (N : Int), 2, t'⟩ m) ++ [.int .i64 (t' + (m : Int))] := by simp [inCells]
                rw [e1]; exact own8
              obtain ⟨A8, c8, rfl⟩ := own_slice own8'
              have O8 := Lib.hid own8'
              have B8 := Lib.hid hb8
              have L8 := Lib.hid hl8
              clear own8 own8' hb8 hl8 hgrow hne
              go_wp2
              go_roundw
              case rel => exact ⟨m + 1, A8, n' + 1, c8, by omega, by go_num, rfl, Lib.hid (by rw [hn'.out]; omega), O8.out, B8.out, L8.out⟩
              case measure => simp [intOf]; omega
            · obtain rfl : m = N := by omega
              have u1 : ¬ (m : Int) < (m : Int) := by omega
              go_wp2
              go_roundw
              case rel => exact ⟨k + 1, A', n', c', _, by omega, by go_num, rfl, Lib.hid (by rw [HT.out]), by omega, HO'.out, HL'.out⟩
              case measure => simp [intOf]; omega
        · have HT : Hid (pages (L.take (k + 1)) = R) := by show _ = _; rw [pages_take he, if_neg hk2, ← hR.out, List.append_nil]
          have hk2' : (e.kind != 2) = true := by simpa using hk2
          clear hc he ho o2 o3 hbel hown hbd hk2 hnl
          go_wp2
          go_roundw
          case rel => exact ⟨k + 1, A, n, c, R, by omega, by go_num, rfl, Lib.hid HT.out.symm, hn, HOW.out.alloc _, HBE.out.alloc HBE.out.size _⟩
          case measure => simp [intOf]; omega
    · obtain rfl : k = len := by omega
      have i0' : ¬ (k : Int) < (k : Int) := by omega
      have hfin : R = pages L := by rw [hR.out, List.take_of_length_le (by rw [← HL.out]; exact Nat.le_refl _)]
      have HF := Lib.hid hfin
      have HOW := Lib.hid hown
      clear hfin hown
      go_wp2
      go_ret
      obtain ⟨A', c', e1, e2, e3⟩ := own_ins HOW.out
      exact ⟨A, n, c, rfl, by rw [← HF.out]; exact e2, by injection e1 with e4; rw [e4, ← HF.out]; exact e3, hbel⟩
end EX
end Go.Proofs.Ytomncnelkkmalaa
