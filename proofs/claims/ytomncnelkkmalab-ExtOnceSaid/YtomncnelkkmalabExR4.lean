/- What scorialaw07's Refs, few and say, and scoriaref07's Edges answer. No condition but those that each theorem names. -/
import Derived.Test.YtomncnelkkmalabExR3
import Derived.Test.YtomncnelkkmalabExN
import Derived.Deep.AppendLies
namespace Go.Proofs.Ytomncnelkkmalab
open Go.RowKit
namespace EX
open MM
set_option linter.unusedVariables false
set_option linter.unusedSimpArgs false

theorem info_ref : (Try.prog.info? 30).map (fun i => (i.zero, i.size, i.bytes)) = some (some (.agg #[.int .i64 0, .int .i64 0, .int .i64 0, .int .i64 0]), 4, 32) := by kernel_rfl
def RowE (R : List Ext) (w : World) (r : Ending) (w' : World) : Prop := ∃ (A : Option Addr) (n c : Nat), r = .returned (.slice A n c) ∧ n = R.length ∧ Exs w' A R ∧ Below w.heap.size w w'
def RowN (R : List Ext) (w : World) (r : Ending) (w' : World) : Prop := ∃ (A : Option Addr) (n c : Nat), r = .returned (.slice A n c) ∧ n = R.length ∧ Exs w' A R ∧ Below w.heap.size w w' ∧ ∀ x, A = some x → w.heap.size ≤ x.block
set_option maxHeartbeats 2000000 in
theorem refs_new (L : List Ext) (len cap : Nat) (hlen : len = L.length) (hm : len ≤ 100000000) (a : Option Addr) (w : World) (hr : Exs w a L) :
    Calls Try.prog 17 #[.slice a len cap] w (RowN L w) := by
  obtain ⟨i0, hi, hz0, hz1, hz2⟩ := info_parts info_ref
  have HR := Lib.hid hr
  have HL := Lib.hid hlen
  clear hr hlen
  go_enter Try.func17, Try.ntmps17
  go_wp2
  go_loopw [3, 4] (fun x i wr => ∃ (k : Nat) (A : Option Addr) (c : Nat), k ≤ len ∧ i = .int .i64 k ∧ x = .slice A k c ∧ wr.ownsRow w.heap.size 30 4 (.slice A k c) k (exCells (L.take k)) ∧ Below w.heap.size w wr) (fun _ i _ => len - (intOf i).toNat)
  case atStart => exact ⟨0, none, 0, Nat.zero_le _, rfl, rfl, World.ownsRow_nil _ _ _ _, Below.refl _ _⟩
  case round =>
    obtain ⟨k, A, c, hk, rfl, rfl, hown, hbel⟩ := hrel
    have HB0 := Lib.hid hbel
    have HOW := Lib.hid hown
    by_cases hlt : k < len
    · obtain ⟨e, he⟩ : ∃ e, L[k]? = some e := ⟨_, List.getElem?_eq_getElem (by rw [← HL.out]; exact hlt)⟩
      rcases HR.out with h0 | ⟨b, off, rfl, hb, hc⟩
      · rw [h0] at he; simp at he
      · obtain ⟨q0, q1, q2, q3⟩ := (hc k e he).kept hbel hb
        have HE := Lib.hid he
        have t1 : (k : Int) < (len : Int) := by omega
        have t2 : (0 : Int) ≤ (k : Int) := by omega
        have hsz : w.heap.size ≤ wr.heap.size := hbel.size
        clear hc he hbel hown
        go_wp2_with (at_builtin; refine wpList_append_own _ rfl _ _ 37 rfl w.heap.size 30 i0 (.agg #[.int .i64 0, .int .i64 0, .int .i64 0, .int .i64 0]) 4 32 Try.underlying37 hi hz0 hz1 hz2 rfl (by decide) _ _ _ rfl (HOW.out.alloc _) ⟨wr.heap.size, 0, none⟩ 1 1 [.int .i64 e.from_, .int .i64 e.n, .int .i64 e.kind, .int .i64 e.at_] rfl rfl ?c1 ?c2 ?c3 ?c4 ?c5 ?_)
        case c1 => exact new_cells _ _ _
        case c2 => intro u hu; simp at hu; rcases hu with rfl | rfl | rfl | rfl <;> rfl
        case c3 => unfold maxLen; omega
        case c4 => omega
        case c5 => simp; omega
        intro v8 w8 own8 hgrow _
        rw [exCells_snoc, ← take_snoc HE.out] at own8
        have hl8 : Below w.heap.size w w8 := (HB0.out.alloc hsz _).grown hgrow (by simp; omega) (fun j hj => (HOW.out.lt j hj).1)
        obtain ⟨A8, c8, rfl⟩ := own_slice own8
        have O8 := Lib.hid own8
        have L8 := Lib.hid hl8
        clear own8 hl8 hgrow
        go_wp2
        go_roundw
        case rel => exact ⟨k + 1, A8, c8, by omega, by go_num, rfl, O8.out, L8.out⟩
        case measure => simp [intOf]; omega
    · obtain rfl : k = len := by omega
      have i0' : ¬ (k : Int) < (k : Int) := by omega
      clear hbel hown
      go_wp2
      go_ret
      have h1 := HOW.out
      rw [List.take_of_length_le (by rw [← HL.out]; exact Nat.le_refl _)] at h1
      have h2 : wr.ownsRow w.heap.size 30 4 (.slice A k c) L.length (exCells L) := by rw [← HL.out]; exact h1
      obtain ⟨A', c', e1, e2⟩ := own_exs h2
      exact ⟨A, k, c, rfl, HL.out, by injection e1 with e4; rw [e4]; exact e2, HB0.out, fun x hx => (h2.lt x.block (by rw [hx]; rfl)).1⟩
theorem refs_any (L : List Ext) (len cap : Nat) (hlen : len = L.length) (hm : len ≤ 100000000) (a : Option Addr) (w : World) (hr : Exs w a L) :
    Calls Try.prog 17 #[.slice a len cap] w (RowE L w) :=
  (refs_new L len cap hlen hm a w hr).mono fun r w' ⟨A, n, c, h1, h2, h3, h4, _⟩ => ⟨A, n, c, h1, h2, h3, h4⟩
theorem few_any (len cap : Nat) (hm : len ≤ maxLen) (a : Option Addr) (w : World) : Calls Try.prog 10 #[.slice a len cap] w fun r w' => r = .returned (.bool (decide ((len : Int) ≤ 60))) ∧ w = w' := by
  unfold maxLen at hm
  go_enter Try.func10, Try.ntmps10
  go_wp2
  go_ret
  exact ⟨rfl, rfl⟩
set_option maxHeartbeats 1000000 in
theorem say_any (L : List Ext) (len cap : Nat) (hlen : len = L.length) (hm : len ≤ 4611686018427387904) (a : Option Addr) (s : Int) (w : World) (hr : Exs w a L) (hO : ∀ e ∈ L, One e) :
    Calls Try.prog 20 #[.slice a len cap, .int .i64 s] w fun r w' => r = .returned (.agg #[.int .i64 (say L s).1, .int .i64 (say L s).2]) ∧ Below w.heap.size w w' := by
  have hb0 : Below w.heap.size w (w.alloc (.cells #[.int .i64 0, .int .i64 0] 43)) := below_box w _
  have HF := Lib.hid (find_any L len cap hlen hm a s (w.alloc (.cells #[.int .i64 0, .int .i64 0] 43)) (hr.below hb0) hO)
  obtain ⟨S1, hS1⟩ : ∃ S1, S1 = (say L s).1 := ⟨_, rfl⟩
  obtain ⟨S2, hS2⟩ : ∃ S2, S2 = (say L s).2 := ⟨_, rfl⟩
  rw [← hS1, ← hS2] at HF ⊢
  have HB0 := Lib.hid hb0
  clear hr hO hlen hS1 hS2 hb0
  go_enter Try.func20, Try.ntmps20
  go_wp2_with fail
  refine HF.out.mono ?_
  rintro r w1 ⟨rfl, hb1⟩
  have hblk : Blk w1 w.heap.size 43 #[.int .i64 0, .int .i64 0] := (Blk.new w _ _).below hb1 (Blk.new w 43 #[.int .i64 0, .int .i64 0]).lt
  have HBK := Lib.hid hblk
  have HB1 := Lib.hid (below_kept HB0.out hb1)
  obtain ⟨z0, z1⟩ : _ ∧ _ := ⟨hblk.cell 0, hblk.cell 1⟩
  obtain ⟨y0, y1⟩ : _ ∧ _ := ⟨hblk.frozen 0, hblk.frozen 1⟩
  clear hb1 hblk HF
  go_wp2
  exact ret_cell rfl _ _ _ _ _ _ _ rfl rfl (stored2 HBK.out _ _) Try.underlying43 rfl (by kernel_rfl) ⟨rfl, stored2_below HB1.out (Nat.le_refl _) _ _⟩

/-- The sectors at which something begins or ends. -/
def edges (l : List Ext) : List Int := l.flatMap fun e => [e.from_ - 1, e.from_, fin e - 1, fin e]
theorem edges_take {l : List Ext} {k : Nat} {e : Ext} (h : l[k]? = some e) : edges (l.take (k + 1)) = edges (l.take k) ++ [e.from_ - 1] ++ [e.from_] ++ [fin e - 1] ++ [fin e] := by
  rw [take_snoc h]; simp [edges]
theorem edges_len (l : List Ext) : (edges l).length = l.length * 4 := by
  induction l with
  | nil => rfl
  | cons a l ih =>
    have e1 : edges (a :: l) = [a.from_ - 1, a.from_, fin a - 1, fin a] ++ edges l := rfl
    rw [e1, List.length_append, ih]; simp; omega
theorem edges_bound {l : List Ext} (h : ∀ e ∈ l, One e) : ∀ x ∈ edges l, -1 ≤ x ∧ x ≤ 16777216 := by
  intro x hx
  obtain ⟨e, he, hxe⟩ := List.mem_flatMap.1 hx
  have h1 := (h e he).low; have h2 := (h e he).high; have h3 := (h e he).lt
  simp at hxe
  omega
theorem inCells_snoc (l : List Int) (x : Int) : inCells l ++ [.int .i64 x] = inCells (l ++ [x]) := by simp [inCells]
theorem two_s {w w' : World} {b o : Nat} {e : Ext} (hb : b < w.heap.size) (hq : Cells4 w b o e) (h : Below w.heap.size w w') : w'.cell? ⟨b, o, none⟩ = some (.int .i64 e.from_) ∧ w'.cell? ⟨b, o + 1, none⟩ = some (.int .i64 e.n) ∧ Below w.heap.size w w' :=
  ⟨(hq.kept h hb).1, (hq.kept h hb).2.1, h⟩

set_option maxHeartbeats 4000000 in
theorem edges_any (L : List Ext) (len cap : Nat) (hlen : len = L.length) (hm : len ≤ 100000000) (a : Option Addr) (w : World) (hr : Exs w a L) (hO : ∀ e ∈ L, One e) :
    Calls Try.prog 42 #[.slice a len cap] w fun r w' => ∃ v, r = .returned v ∧ w'.ownsRow w.heap.size 3 1 v (edges L).length (inCells (edges L)) ∧ Below w.heap.size w w' := by
  obtain ⟨i0, hi, hz0, hz1, hz2⟩ := info_parts info_int
  have HR := Lib.hid hr
  have HL := Lib.hid hlen
  have HO := Lib.hid hO
  clear hr hlen hO
  go_enter Try.func42, Try.ntmps42
  go_wp2
  go_loopw [3, 4] (fun x i wr => ∃ (k : Nat) (A : Option Addr) (n c : Nat), k ≤ len ∧ i = .int .i64 k ∧ x = .slice A n c ∧ Hid (n = k * 4) ∧ wr.ownsRow w.heap.size 3 1 (.slice A n c) n (inCells (edges (L.take k))) ∧ Below w.heap.size w wr) (fun _ i _ => len - (intOf i).toNat)
  case atStart => exact ⟨0, none, 0, 0, Nat.zero_le _, rfl, rfl, Lib.hid rfl, World.ownsRow_nil _ _ _ _, Below.refl _ _⟩
  case round =>
    obtain ⟨k, A, n, c, hk, rfl, rfl, hn, hown, hbel⟩ := hrel
    have L0 := Lib.hid hbel
    have O0 := Lib.hid hown
    by_cases hlt : k < len
    · obtain ⟨e, he⟩ : ∃ e, L[k]? = some e := ⟨_, List.getElem?_eq_getElem (by rw [← HL.out]; exact hlt)⟩
      rcases HR.out with h0 | ⟨b, off, rfl, hb, hc⟩
      · rw [h0] at he; simp at he
      · have Q0 := Lib.hid (hc k e he)
        obtain ⟨q0, q1, _, _⟩ := Q0.out.kept hbel hb
        have ho := HO.out e (List.mem_of_getElem? he)
        have o1 := ho.low; have o2 := ho.high; have o3 := ho.pos
        have hfe : fin e = e.from_ + e.n := rfl
        have HT := Lib.hid (edges_take he)
        rw [hfe] at o2 HT
        have t1 : (k : Int) < (len : Int) := by omega
        have t2 : (0 : Int) ≤ (k : Int) := by omega
        have hn2 : n ≤ 400000000 := by rw [hn.out]; omega
        have e1 : IntKind.i64.wrap (e.from_ - 1) = e.from_ - 1 := IntWalk.i64_in _ (by omega)
        have e2 : IntKind.i64.wrap (e.from_ + e.n) = e.from_ + e.n := IntWalk.i64_in _ (by omega)
        have e3 : IntKind.i64.wrap (e.from_ + e.n - 1) = e.from_ + e.n - 1 := IntWalk.i64_in _ (by omega)
        clear hc he ho hbel hown hfe
        go_wp2_with (at_builtin; refine wpList_append_own _ rfl _ _ 67 rfl w.heap.size 3 i0 (.int .i64 0) 1 8 Try.underlying67 hi hz0 hz1 hz2 rfl (by decide) _ _ _ rfl (O0.out.alloc _) ⟨wr.heap.size, 0, none⟩ 1 1 [.int .i64 (e.from_ - 1)] rfl rfl (new_cells _ _ _) (by intro u hu; simp at hu; subst hu; rfl) (by unfold maxLen; omega) (by omega) (by have := L0.out.size; simp; omega) ?_)
        intro v1 w1 own1 hgrow _
        rw [inCells_snoc] at own1
        have hl1 : Below w.heap.size w w1 := (L0.out.alloc L0.out.size _).grown hgrow (by have := L0.out.size; simp; omega) (fun j hj => (O0.out.lt j hj).1)
        obtain ⟨A1, c1, rfl⟩ := own_slice own1
        have O1 := Lib.hid own1
        have L1 := Lib.hid hl1
        obtain ⟨q0, q1, _, _⟩ := Q0.out.kept hl1 hb
        clear own1 hl1 hgrow 
        go_wp2_with (at_builtin; refine wpList_append_own _ rfl _ _ 67 rfl w.heap.size 3 i0 (.int .i64 0) 1 8 Try.underlying67 hi hz0 hz1 hz2 rfl (by decide) _ _ _ rfl (O1.out.alloc _) ⟨w1.heap.size, 0, none⟩ 1 1 [.int .i64 e.from_] rfl rfl (new_cells _ _ _) (by intro u hu; simp at hu; subst hu; rfl) (by unfold maxLen; omega) (by omega) (by have := L1.out.size; simp; omega) ?_)
        intro v2 w2 own2 hgrow _
        rw [inCells_snoc] at own2
        have hl2 : Below w.heap.size w w2 := (L1.out.alloc L1.out.size _).grown hgrow (by have := L1.out.size; simp; omega) (fun j hj => (O1.out.lt j hj).1)
        obtain ⟨A2, c2, rfl⟩ := own_slice own2
        have O2 := Lib.hid own2
        have L2 := Lib.hid hl2
        obtain ⟨q0, q1, _, _⟩ := Q0.out.kept hl2 hb
        clear own2 hl2 hgrow O1 L1
        have HS3 : Hid (w2.drew.cell? ⟨b, off + k * 4, none⟩ = some (.int .i64 e.from_) ∧ w2.drew.cell? ⟨b, off + k * 4 + 1, none⟩ = some (.int .i64 e.n) ∧ Below w.heap.size w w2.drew) := Lib.hid (two_s hb Q0.out L2.out.drew)
        have hsz3 : w.heap.size ≤ w2.heap.size := L2.out.size
        go_wp2
        go_region_held3 (fun w' => w'.cell? ⟨b, off + k * 4, none⟩ = some (.int .i64 e.from_) ∧ w'.cell? ⟨b, off + k * 4 + 1, none⟩ = some (.int .i64 e.n) ∧ Below w.heap.size w w') (first | with_reducible exact HS3.out | with_reducible assumption | with_reducible exact two_s hb Q0.out ((L2.out.alloc hsz3 _).drew)) ((refine step_append_lies _ (by rfl) _ _ 67 (by rfl) w.heap.size 3 i0 _ 1 8 Try.underlying67 hi hz0 hz1 hz2 rfl (by omega) _ _ _ (by rfl) ((O2.out.alloc _).drew) ⟨w2.heap.size, 0, none⟩ 1 1 [.int .i64 (e.from_ + e.n - 1)] (by rfl) (by rfl) (World.news_of_block (cs := #[.int .i64 (e.from_ + e.n - 1)]) (t := 3) (fr := (0, 0)) (heap_alloc_new w2 _)) (by simp [Value.oneCell']) (by omega) (by unfold maxLen; omega) (by omega) (by simp; omega) (w2.heap.size + 1) (by simp) ?_; intro g3 c3 w3 own3 hgrow hat hlt3; have hS3 := two_s hb Q0.out (((L2.out.alloc hsz3 _).drew).grown hgrow (by simp; omega) (fun j hj => (O2.out.lt j hj).1))))
        have own3' := own3
        rw [inCells_snoc] at own3'
        have O3 := Lib.hid own3'
        have L3 := Lib.hid hS3.2.2
        obtain ⟨q0, q1, _, _⟩ := Q0.out.kept hS3.2.2 hb
        clear own3 own3' hS3 hgrow hat HS3 O2 L2
        have HS4 : Hid (w3.drew.cell? ⟨b, off + k * 4, none⟩ = some (.int .i64 e.from_) ∧ w3.drew.cell? ⟨b, off + k * 4 + 1, none⟩ = some (.int .i64 e.n) ∧ Below w.heap.size w w3.drew) := Lib.hid (two_s hb Q0.out L3.out.drew)
        have hsz4 : w.heap.size ≤ w3.heap.size := L3.out.size
        go_wp2
        go_region_held3 (fun w' => w'.cell? ⟨b, off + k * 4, none⟩ = some (.int .i64 e.from_) ∧ w'.cell? ⟨b, off + k * 4 + 1, none⟩ = some (.int .i64 e.n) ∧ Below w.heap.size w w') (first | with_reducible exact HS4.out | with_reducible assumption | with_reducible exact two_s hb Q0.out ((L3.out.alloc hsz4 _).drew)) ((refine step_append_lies _ (by rfl) _ _ 67 (by rfl) w.heap.size 3 i0 _ 1 8 Try.underlying67 hi hz0 hz1 hz2 rfl (by omega) _ _ _ (by rfl) ((O3.out.alloc _).drew) ⟨w3.heap.size, 0, none⟩ 1 1 [.int .i64 (e.from_ + e.n)] (by rfl) (by rfl) (World.news_of_block (cs := #[.int .i64 (e.from_ + e.n)]) (t := 3) (fr := (0, 0)) (heap_alloc_new w3 _)) (by simp [Value.oneCell']) (by omega) (by unfold maxLen; omega) (by omega) (by simp; omega) (w3.heap.size + 1) (by simp) ?_; intro g4 c4 w4 own4 hgrow hat hlt4; have hS4 := two_s hb Q0.out (((L3.out.alloc hsz4 _).drew).grown hgrow (by simp; omega) (fun j hj => (O3.out.lt j hj).1))))
        have own4' := own4
        rw [inCells_snoc] at own4'
        have O4 := Lib.hid own4'
        have L4 := Lib.hid hS4.2.2
        obtain ⟨q0, q1, _, _⟩ := Q0.out.kept hS4.2.2 hb
        clear own4 own4' hS4 hgrow hat HS4 O3 L3
        have O4' : Hid (w4.ownsRow w.heap.size 3 1 (.slice (some ⟨g4, 0, none⟩) (n + 1 + 1 + 1 + 1) c4) (n + 1 + 1 + 1 + 1) (inCells (edges (L.take (k + 1))))) := Lib.hid (by rw [HT.out]; exact O4.out)
        clear O4 q0 q1
        go_wp2
        go_roundw
        case rel => exact ⟨k + 1, _, _, _, by omega, by go_num, rfl, Lib.hid (by rw [hn.out]; omega), O4'.out, L4.out⟩
        case measure => simp [intOf]; omega
    · obtain rfl : k = len := by omega
      have i0' : ¬ (k : Int) < (k : Int) := by omega
      clear hbel hown
      go_wp2
      go_ret
      have h1 := O0.out
      rw [List.take_of_length_le (by rw [← HL.out]; exact Nat.le_refl _)] at h1
      exact ⟨_, rfl, by rw [edges_len, ← HL.out, ← hn.out]; exact h1, L0.out⟩
end EX
end Go.Proofs.Ytomncnelkkmalab
