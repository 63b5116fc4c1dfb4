/- What package ext's Count and Pages answer, of any list. No condition but those that each theorem names. -/
import Derived.Test.YtomncnelkkmalabExT
namespace Go.Proofs.Ytomncnelkkmalab
open Go.RowKit
namespace EX
open MM
set_option linter.unusedVariables false
set_option linter.unusedSimpArgs false

theorem info_int : (Try.prog.info? 3).map (fun i => (i.zero, i.size, i.bytes)) = some (some (.int .i64 0), 1, 8) := by kernel_rfl
/-- A slice of integers that reads as a list. -/
def Ins (w : World) (a : Option Addr) (l : List Int) : Prop := l = [] ∨ ∃ b off, a = some ⟨b, off, none⟩ ∧ b < w.heap.size ∧ ∀ (i : Nat) (x : Int), l[i]? = some x → w.cell? ⟨b, off + i, none⟩ = some (.int .i64 x)
theorem Ins.below {w w' : World} {a : Option Addr} {l : List Int} (h : Ins w a l) (hb : Below w.heap.size w w') : Ins w' a l := by
  rcases h with h | ⟨b, off, rfl, hlt, hc⟩
  · exact .inl h
  · exact .inr ⟨b, off, rfl, Nat.lt_of_lt_of_le hlt hb.size, fun i x hi => (hb.cell (p := ⟨b, off + i, none⟩) hlt).trans (hc i x hi)⟩
def inCells (l : List Int) : List Value := l.map (Value.int .i64)
theorem own_ins {w : World} {base : Nat} {e : TypeId} {v : Value} {n : Nat} {l : List Int} (h : w.ownsRow base e 1 v n (inCells l)) :
    ∃ A c, v = .slice A n c ∧ n = l.length ∧ Ins w A l := by
  have hl : n = l.length := by have := h.1; simp [inCells] at this; omega
  rcases h.2 with ⟨hv, h0⟩ | ⟨g, cap, cur, hv, hg, hh, r⟩
  · exact ⟨none, 0, by rw [hv, h0], hl, .inl (List.eq_nil_of_length_eq_zero (by omega))⟩
  · refine ⟨_, _, hv, hl, .inr ⟨g, 0, rfl, (Array.getElem?_eq_some_iff.1 hh).1, fun i x hi => ?_⟩⟩
    rw [Nat.zero_add]
    subst hv
    exact own_cells h i _ (by simp [inCells, hi])
/-- The pages of an extent, of a list. -/
def pagesOf (e : Ext) (n : Nat) : List Int := (List.range n).map fun (i : Nat) => e.at_ + (i : Int)
def pages (l : List Ext) : List Int := l.flatMap fun e => if e.kind = 2 then pagesOf e e.n.toNat else []
theorem pages_take {l : List Ext} {k : Nat} {e : Ext} (h : l[k]? = some e) : pages (l.take (k + 1)) = pages (l.take k) ++ (if e.kind = 2 then pagesOf e e.n.toNat else []) := by
  rw [take_snoc h]; simp [pages]
theorem pagesOf_succ (e : Ext) (n : Nat) : pagesOf e (n + 1) = pagesOf e n ++ [e.at_ + (n : Int)] := by simp [pagesOf, List.range_succ]
theorem pages_len {l : List Ext} (h : ∀ e ∈ l, One e) : ((pages l).length : Int) ≤ count l := by
  induction l with
  | nil => simp [pages, count]
  | cons a l ih =>
    have h1 := (h a (List.mem_cons_self ..)).pos
    have h2 := ih fun e he => h e (List.mem_cons_of_mem _ he)
    have e1 : pages (a :: l) = (if a.kind = 2 then pagesOf a a.n.toNat else []) ++ pages l := rfl
    rw [e1, count_cons, List.length_append]
    split
    · simp [pagesOf]; omega
    · simp; omega
theorem count_take {l : List Ext} {k : Nat} {e : Ext} (h : l[k]? = some e) : count (l.take (k + 1)) = count (l.take k) + e.n := by
  rw [take_snoc h, count_append]; simp [count]

set_option maxHeartbeats 2000000 in
theorem count_bad (L : List Ext) (len cap : Nat) (hlen : len = L.length) (hm : len ≤ maxLen) (a : Option Addr) (w : World) (hr : Exs w a L) (hwf : ∀ e ∈ L, WfE e) (hv : ¬ Valid L) :
    Calls Try.prog 19 #[.slice a len cap] w fun r w' => r = .returned (.int .i64 0) ∧ Below w.heap.size w w' := by
  have HC := Lib.hid (check_any L len cap hlen hm a w hr hwf)
  rw [decide_eq_false hv] at HC
  clear hm hr hv hlen hwf
  go_enter Try.func19, Try.ntmps19
  go_wp2_with fail
  refine HC.out.mono ?_
  rintro r w1 ⟨rfl, hb1⟩
  go_wp2
  go_ret
  exact ⟨rfl, hb1⟩
set_option maxHeartbeats 2000000 in
theorem count_ok (L : List Ext) (len cap : Nat) (hlen : len = L.length) (hm : len ≤ maxLen) (a : Option Addr) (w : World) (hr : Exs w a L) (hv : Valid L) :
    Calls Try.prog 19 #[.slice a len cap] w fun r w' => r = .returned (.int .i64 (count L)) ∧ Below w.heap.size w w' := by
  have HC := Lib.hid (check_any L len cap hlen hm a w hr fun e he => (hv.1 e he).wf)
  rw [decide_eq_true hv] at HC
  have hl := valid_len hv
  have HR := Lib.hid hr
  have HV := Lib.hid hv
  have HL := Lib.hid hlen
  have hl' : len ≤ 16777216 := by omega
  clear hm hr hv hlen hl
  go_enter Try.func19, Try.ntmps19
  go_wp2_with fail
  refine HC.out.mono ?_
  rintro r w1 ⟨rfl, hb1⟩
  have HB1 := Lib.hid hb1
  clear hb1 HC
  go_wp2
  go_loopw [3, 11] (fun c i wr => ∃ (k : Nat) (q : Int), k ≤ len ∧ i = .int .i64 k ∧ c = .int .i64 q ∧ Hid (q = count (L.take k)) ∧ 0 ≤ q ∧ q ≤ 16777216 ∧ Below w.heap.size w wr) (fun _ i _ => len - (intOf i).toNat)
  case atStart => exact ⟨0, 0, Nat.zero_le _, rfl, rfl, Lib.hid (by simp [count]), by omega, by omega, HB1.out⟩
  case round =>
    obtain ⟨k, q, hk, rfl, rfl, hq, q0, q9, hbel⟩ := hrel
    by_cases hlt : k < len
    · obtain ⟨e, he⟩ : ∃ e, L[k]? = some e := ⟨_, List.getElem?_eq_getElem (by rw [← HL.out]; exact hlt)⟩
      rcases HR.out with h0 | ⟨b, off, rfl, hb, hc⟩
      · rw [h0] at he; simp at he
      · obtain ⟨p0, p1, p2, p3⟩ := (hc k e he).kept hbel hb
        have ho := valid_at HV.out he
        have o1 := ho.pos; have o2 := ho.high; have o3 := ho.low
        have hq1 : Hid (q + e.n = count (L.take (k + 1))) := by show q + e.n = _; rw [count_take he, ← hq.out]
        have hq2 : q + e.n ≤ 16777216 := by rw [hq1.out]; have := wv_len (HV.out.wv.take (k + 1)); omega
        have t1 : (k : Int) < (len : Int) := by omega
        have t2 : (0 : Int) ≤ (k : Int) := by omega
        have e9 : IntKind.i64.wrap (q + e.n) = q + e.n := IntWalk.i64_in _ (by omega)
        have HB := Lib.hid (hbel.alloc hbel.size (.cells #[.int .i64 e.from_, .int .i64 e.n, .int .i64 e.kind, .int .i64 e.at_] 24))
        clear hc he ho o2 o3 hbel
        go_wp2
        go_roundw
        case rel => exact ⟨k + 1, q + e.n, by omega, by go_num, rfl, hq1, by omega, hq2, HB.out⟩
        case measure => simp [intOf]; omega
    · obtain rfl : k = len := by omega
      have i0 : ¬ (k : Int) < (k : Int) := by omega
      have hfin : q = count L := by rw [hq.out, List.take_of_length_le (by rw [← HL.out]; exact Nat.le_refl _)]
      have HF := Lib.hid hfin
      clear hfin
      go_wp2
      go_ret
      exact ⟨by rw [← HF.out]; rfl, hbel⟩

end EX
end Go.Proofs.Ytomncnelkkmalab
