/- What slices.Concat answers at both its types: a row of the call's own that has what the slices have, one behind the other. No condition but those that each theorem names. -/
import Derived.Test.YtdjlflinepefbabGreatQ10
import Derived.Test.YtdjlflinepefbabGreatQ11
import Derived.Lib.AppendZeros

namespace Go.Proofs.YtdjlflinepefbabGreat
open Go.RowKit
namespace TR
open MM EX LF
set_option linter.unusedVariables false
set_option linter.unusedSimpArgs false

section
variable {P : Program} {w : World}
theorem run_append_empty (base : Nat) (t ty e : TypeId) (i : TypeInfo) (size : Nat) (ht : P.underlying t = some (.slice e)) (hi : P.info? e = some i)
    (v : Value) (n : Nat) (xs : List Value) (hown : w.ownsRow base e size v n xs) (A : Option Addr) (c : Nat) :
    (Builtin.append_ #[t, t] ty #[v, .slice A 0 c]).run P w = .ok v w := by
  rcases hown.2 with ⟨rfl, rfl⟩ | ⟨g, cap, cur, rfl, _, _, hnc, _⟩
  · simp [Builtin.append_, run_underlying ht, sizeOf, typeInfo, hi, Builtin.lenOf, Builtin.firstCells, loadCells, loadCellsFrom]
    cases A <;> simp [loadCells, loadCellsFrom]
  · simp [Builtin.append_, run_underlying ht, sizeOf, typeInfo, hi, Builtin.lenOf, Builtin.firstCells, hnc, storeCells]
    cases A <;> simp [loadCells, loadCellsFrom, storeCells]
theorem zeros_own (w : World) (e : TypeId) (z : Array Value) (size n g : Nat) (hz : z.size = size) (hng : n ≤ g) (hg : g ≤ maxLen) :
    (w.drew.alloc (.cells (Builtin.zeroCells z n ++ Builtin.zeroCells z (g - n)) e)).ownsRow w.heap.size e size (.slice (some ⟨w.heap.size, 0, none⟩) 0 g) 0 [] :=
  ⟨by simp, .inr ⟨w.heap.size, g, _, rfl, Nat.le_refl _, heap_alloc_new w.drew _, Nat.zero_le _, hg, by rw [Array.size_append, size_zeroCells, size_zeroCells, hz, ← Nat.add_mul]; congr 1; omega, by simp⟩⟩
end
/-- A slice that is put behind others, and its cells. -/
structure It where
  a : Option Addr
  n : Nat
  c : Nat
  cs : List Value
def It.val (x : It) : Value := .slice x.a x.n x.c
def It.ok (sz : Nat) (w : World) (x : It) : Prop := x.cs.length = x.n * sz ∧ (∀ u ∈ x.cs, u.oneCell' = true) ∧ (x.n = 0 ∨ ∃ b off, x.a = some ⟨b, off, none⟩ ∧ b < w.heap.size ∧ ∀ j u, x.cs[j]? = some u → w.cell? ⟨b, off + j, none⟩ = some u)
def tot (l : List It) : Nat := (l.map (·.n)).sum
def cat (l : List It) : List Value := l.flatMap (·.cs)
theorem tot_snoc {l : List It} {k : Nat} {x : It} (h : l[k]? = some x) : tot (l.take (k + 1)) = tot (l.take k) + x.n := by
  rw [List.take_add_one, h]; simp [tot]
theorem cat_snoc {l : List It} {k : Nat} {x : It} (h : l[k]? = some x) : cat (l.take (k + 1)) = cat (l.take k) ++ x.cs := by
  rw [List.take_add_one, h]; simp [cat]
theorem tot_le (l : List It) (k : Nat) : tot (l.take k) ≤ tot l := by
  have h : tot (l.take k ++ l.drop k) = tot (l.take k) + tot (l.drop k) := by simp only [tot, List.map_append, List.sum_append]
  rw [List.take_append_drop] at h
  omega
/-- A row of the call's own. -/
def CEnd (e : TypeId) (sz n : Nat) (xs : List Value) (w : World) (r : Ending) (w' : World) : Prop := ∃ A m c, r = .returned (.slice A m c) ∧ m = n ∧ w'.ownsRow w.heap.size e sz (.slice A m c) n xs ∧ Below w.heap.size w w'

set_option maxRecDepth 100000 in
theorem growE_any (n : Nat) (hm : n ≤ 1000000) (w : World) : Calls Tryz.prog 159 #[.slice none 0 0, .int .i64 (n : Int)] w (CEnd 41 4 0 [] w) := by
  obtain ⟨i0, hi, hz0, hz1, hz2⟩ := info_parts info_ext
  have e1 : IntKind.i64.wrap (n : Int) = (n : Int) := IntWalk.i64_in _ (by omega)
  rcases Nat.eq_zero_or_pos n with h0 | hpos
  · subst h0
    go_enter Tryz.func159, Tryz.ntmps159
    go_wp2
    go_ret
    exact ⟨none, 0, 0, rfl, rfl, World.ownsRow_nil _ _ _ _, Below.refl _ _⟩
  · have hr := Lib.run_append_nil_zeros (P := Tryz.prog) w 61 3 61 41 i0 (.agg #[.int .i64 0, .int .i64 0, .int .i64 0, .int .i64 0]) .i64 .i64 Tryz.underlying61 Tryz.underlying3 hi hz0 n hpos (by rw [hz1]; decide) (by omega) (by rw [hz2]; omega)
    have hg1 := grownCap_ge w n 0 41
    have hg2 := grownCap_le_maxLen w n 0 41 (by unfold maxLen; omega)
    have hown := zeros_own w 41 ((.agg #[.int .i64 0, .int .i64 0, .int .i64 0, .int .i64 0]) : Value).cells 4 n (grownCap w n 0 41) rfl hg1 hg2
    obtain ⟨g, hg⟩ : ∃ g, g = grownCap w n 0 41 := ⟨_, rfl⟩
    rw [← hg] at hr hown hg1 hg2
    obtain ⟨W, hW⟩ : ∃ W, W = w.drew.alloc (.cells (Builtin.zeroCells ((.agg #[.int .i64 0, .int .i64 0, .int .i64 0, .int .i64 0]) : Value).cells n ++ Builtin.zeroCells ((.agg #[.int .i64 0, .int .i64 0, .int .i64 0, .int .i64 0]) : Value).cells (g - n)) 41) := ⟨_, rfl⟩
    have hbl : Below w.heap.size w W := by rw [hW]; exact (Below.refl _ _).drew.alloc (Nat.le_refl _) _
    rw [← hW] at hr hown
    have HO := Lib.hid hown
    have HB := Lib.hid hbl
    have t1 : (0 : Int) < (n : Int) := by omega
    have hh : (Instr.slice 61 (.slice none 0 0) none (some (.int .i64 0)) none).run Tryz.prog w = .ok (.slice none 0 0) w := by simp [go_sem]
    clear hg hW hown hbl hg1 hg2
    go_enter Tryz.func159, Tryz.ntmps159
    go_wp2_with (at_builtin; refine Lib.wpList_append_run _ rfl _ _ _ _ rfl _ _ rfl rfl _ _ hr ?_)
    go_wp2
    go_ret
    exact ⟨_, 0, _, rfl, rfl, HO.out, HB.out⟩
set_option maxRecDepth 100000 in
set_option maxHeartbeats 8000000 in
theorem concatE_any (l : List It) (p : Option Addr) (m cap : Nat) (hml : m = l.length) (hm : m ≤ 100) (w : World) (hp : Vals w p (l.map It.val)) (hok : ∀ x ∈ l, x.ok 4 w) (ht : tot l ≤ 1000000) :
    Calls Tryz.prog 110 #[.slice p m cap] w (CEnd 41 4 (tot l) (cat l) w) := by
  obtain ⟨i0, hi, hz0, hz1, hz2⟩ := info_parts info_ext
  have HP := Lib.hid hp
  have HOK := Lib.hid hok
  have HML := Lib.hid hml
  have HT := Lib.hid ht
  have HGR := Lib.hid (growE_any (tot l) ht)
  have HTL := Lib.hid (tot_le l)
  obtain ⟨S, hS⟩ : ∃ S : Nat → Nat, ∀ k, S k = tot (l.take k) := ⟨_, fun _ => rfl⟩
  have HS : Hid (∀ k x, l[k]? = some x → S (k + 1) = S k + x.n ∧ S (k + 1) ≤ 1000000) := Lib.hid fun k x hx => by
    have := tot_le l (k + 1)
    rw [hS, hS, tot_snoc hx] at *
    exact ⟨rfl, by omega⟩
  have HS0 : Hid (S 0 = 0) := Lib.hid (by rw [hS]; rfl)
  have HSM : Hid (S m = tot l) := Lib.hid (by rw [hS, hml, List.take_length])
  have HSE := Lib.hid hS
  obtain ⟨N, hN⟩ : ∃ N, N = tot l := ⟨_, rfl⟩
  have hN6 : N ≤ 1000000 := by omega
  rw [← hN] at HGR HSM ⊢
  clear hp hok hml ht hS hN
  go_enter Tryz.func110, Tryz.ntmps110
  go_wp2
  go_loopw [3, 11] (fun s i wr => ∃ k : Nat, k ≤ m ∧ i = .int .i64 k ∧ s = .int .i64 (S k : Nat) ∧ w = wr) (fun _ i _ => m - (intOf i).toNat)
  case atStart => exact ⟨0, Nat.zero_le _, rfl, by rw [HS0.out]; rfl, rfl⟩
  case round =>
    obtain ⟨k, hk, rfl, rfl, rfl⟩ := hrel
    by_cases hlt : k < m
    · obtain ⟨x, hx⟩ : ∃ x, l[k]? = some x := ⟨_, List.getElem?_eq_getElem (by rw [← HML.out]; exact hlt)⟩
      obtain ⟨h1, h2⟩ := HS.out k x hx
      obtain ⟨pb, po, rfl, hpb⟩ : ∃ b off, p = some ⟨b, off, none⟩ ∧ w.cell? ⟨b, off + k, none⟩ = some (.slice x.a x.n x.c) := by
        rcases HP.out with h0 | ⟨b, off, h1, h2, h3⟩
        · rw [List.map_eq_nil_iff] at h0; rw [h0] at hx; simp at hx
        · exact ⟨b, off, h1, h3 k _ (by rw [List.getElem?_map, hx]; rfl)⟩
      obtain ⟨s0, hs0⟩ : ∃ s, s = S k := ⟨_, rfl⟩
      obtain ⟨s1, hs1⟩ : ∃ s, s = S (k + 1) := ⟨_, rfl⟩
      rw [← hs0]
      have e1 : IntKind.i64.wrap ((s0 : Int) + (x.n : Int)) = (s1 : Int) := by rw [IntWalk.i64_in _ (by omega)]; omega
      have t1 : (k : Int) < (m : Int) := by omega
      have t2 : (0 : Int) ≤ (k : Int) := by omega
      have t3 : ¬ ((s1 : Int) < 0) := by omega
      have HS1 := Lib.hid hs1
      clear hs0 hs1 h1 h2 hx
      go_wp2
      go_roundw
      case rel => exact ⟨k + 1, by omega, by go_num, by rw [HS1.out], trivial⟩
      case measure => simp [intOf]; omega
    · obtain rfl : k = m := by omega
      have t1 : ¬ (k : Int) < (k : Int) := by omega
      rw [HSM.out]
      go_wp2_with fail
      refine (HGR.out _).mono ?_
      rintro r w1 ⟨A1, n1, c1, rfl, rfl, ho1, hb1⟩
      have HO1 := Lib.hid ho1
      have HB1 := Lib.hid hb1
      have hsz1 := hb1.size
      clear ho1 hb1
      go_wp2
      go_loopw [6, 27] (fun v i wr => ∃ (j : Nat) (A : Option Addr) (n2 cc : Nat), j ≤ k ∧ i = .int .i64 j ∧ v = .slice A n2 cc ∧ Hid (wr.ownsRow w.heap.size 41 4 (.slice A n2 cc) (S j) (cat (l.take j))) ∧ Below w.heap.size w wr) (fun _ i _ => k - (intOf i).toNat)
      case atStart => exact ⟨0, A1, 0, c1, Nat.zero_le _, rfl, rfl, Lib.hid (by rw [HS0.out]; exact HO1.out), HB1.out⟩
      case round =>
        obtain ⟨j, A, n2, cc, hj, rfl, rfl, HOW, hbel⟩ := hrel
        have HBL := Lib.hid hbel
        have hsz := hbel.size
        by_cases hlt2 : j < k
        · obtain ⟨x, hx⟩ : ∃ x, l[j]? = some x := ⟨_, List.getElem?_eq_getElem (by rw [← HML.out]; exact hlt2)⟩
          obtain ⟨h1, h2⟩ := HS.out j x hx
          obtain ⟨pb, po, rfl, hpb⟩ : ∃ b off, p = some ⟨b, off, none⟩ ∧ wr.cell? ⟨b, off + j, none⟩ = some (.slice x.a x.n x.c) := by
            rcases HP.out.below hbel with h0 | ⟨b, off, h1, h2, h3⟩
            · rw [List.map_eq_nil_iff] at h0; rw [h0] at hx; simp at hx
            · exact ⟨b, off, h1, h3 j _ (by rw [List.getElem?_map, hx]; rfl)⟩
          obtain ⟨g1, g2, g3⟩ := HOK.out x (List.mem_of_getElem? hx)
          have HCS := Lib.hid (cat_snoc hx)
          obtain ⟨xa, xn, xc, xs⟩ := x
          simp only at h1 h2 g1 g2 g3 hpb
          have HCS' : Hid (cat (l.take (j + 1)) = cat (l.take j) ++ xs) := HCS
          have H1 := Lib.hid h1
          have H2 := Lib.hid h2
          have G1 := Lib.hid g1
          have G2 := Lib.hid g2
          have t1 : (j : Int) < (k : Int) := by omega
          have t2 : (0 : Int) ≤ (j : Int) := by omega
          clear hx h1 h2 g1 g2 hbel HCS
          rcases Nat.eq_zero_or_pos xn with hz | hz
          · subst hz
            have hxs : xs = [] := List.eq_nil_of_length_eq_zero (by have := G1.out; omega)
            subst hxs
            have hr := run_append_empty (P := Tryz.prog) (w := wr) w.heap.size 61 61 41 i0 4 Tryz.underlying61 hi _ _ _ HOW.out xa xc
            clear g3
            go_wp2_with (at_builtin; refine Lib.wpList_append_run _ rfl _ _ _ _ rfl _ _ rfl rfl _ _ hr ?_)
            go_wp2
            go_roundw
            case rel => exact ⟨j + 1, A, n2, cc, by omega, by go_num, rfl, Lib.hid (by rw [HCS'.out, H1.out, List.append_nil]; exact HOW.out), HBL.out⟩
            case measure => simp [intOf]; omega
          · rcases g3 with h0 | ⟨sb, so, rfl, hsb, hsc⟩
            · omega
            · have HSC : Hid (∀ y u, xs[y]? = some u → wr.cell? ((⟨sb, so, none⟩ : Addr).add y) = some u) := Lib.hid fun y u hu => by
                rw [Addr.add_lit]
                exact (HBL.out.cell (p := ⟨sb, so + y, none⟩) hsb).trans (hsc y u hu)
              clear hsc
              go_wp2_with (at_builtin; refine wpList_append_own _ rfl _ _ 61 rfl w.heap.size 41 i0 (.agg #[.int .i64 0, .int .i64 0, .int .i64 0, .int .i64 0]) 4 32 Tryz.underlying61 hi hz0 hz1 hz2 rfl (by decide) _ _ _ rfl HOW.out ⟨sb, so, none⟩ xn xc xs rfl G1.out HSC.out G2.out ?c3 ?c4 hsz ?_)
              case c3 => have := H1.out; have := H2.out; unfold maxLen; omega
              case c4 => have := H1.out; have := H2.out; omega
              intro v8 w8 own8 hgrow _
              have own9 : w8.ownsRow w.heap.size 41 4 v8 (S (j + 1)) (cat (l.take (j + 1))) := by
                rw [HCS'.out, H1.out]; exact own8
              have hl8 : Below w.heap.size w w8 := HBL.out.grown hgrow hsz (fun y hy => (HOW.out.lt y hy).1)
              obtain ⟨A8, c8, rfl⟩ := own_slice own9
              have O8 := Lib.hid own9
              have L8 := Lib.hid hl8
              clear own8 own9 hl8 hgrow
              go_wp2
              go_roundw
              case rel => exact ⟨j + 1, A8, _, c8, by omega, by go_num, rfl, O8, L8.out⟩
              case measure => simp [intOf]; omega
        · obtain rfl : j = k := by omega
          have t1 : ¬ (j : Int) < (j : Int) := by omega
          clear hbel
          go_wp2
          go_ret
          have h9 := HOW.out
          rw [HSM.out, HML.out, List.take_length] at h9
          exact ⟨A, n2, cc, rfl, own_len h9, h9, HBL.out⟩

set_option maxRecDepth 100000 in
theorem growN_any (n : Nat) (hm : n ≤ 1000000) (w : World) : Calls Tryz.prog 166 #[.slice none 0 0, .int .i64 (n : Int)] w (CEnd 80 1 0 [] w) := by
  obtain ⟨i0, hi, hz0, hz1, hz2⟩ := info_parts info_node
  have e1 : IntKind.i64.wrap (n : Int) = (n : Int) := IntWalk.i64_in _ (by omega)
  rcases Nat.eq_zero_or_pos n with h0 | hpos
  · subst h0
    go_enter Tryz.func166, Tryz.ntmps166
    go_wp2
    go_ret
    exact ⟨none, 0, 0, rfl, rfl, World.ownsRow_nil _ _ _ _, Below.refl _ _⟩
  · have hr := Lib.run_append_nil_zeros (P := Tryz.prog) w 86 3 86 80 i0 .nilIface .i64 .i64 Tryz.underlying86 Tryz.underlying3 hi hz0 n hpos (by rw [hz1]; decide) (by omega) (by rw [hz2]; omega)
    have hg1 := grownCap_ge w n 0 80
    have hg2 := grownCap_le_maxLen w n 0 80 (by unfold maxLen; omega)
    have hown := zeros_own w 80 (.nilIface : Value).cells 1 n (grownCap w n 0 80) rfl hg1 hg2
    obtain ⟨g, hg⟩ : ∃ g, g = grownCap w n 0 80 := ⟨_, rfl⟩
    rw [← hg] at hr hown hg1 hg2
    obtain ⟨W, hW⟩ : ∃ W, W = w.drew.alloc (.cells (Builtin.zeroCells (.nilIface : Value).cells n ++ Builtin.zeroCells (.nilIface : Value).cells (g - n)) 80) := ⟨_, rfl⟩
    have hbl : Below w.heap.size w W := by rw [hW]; exact (Below.refl _ _).drew.alloc (Nat.le_refl _) _
    rw [← hW] at hr hown
    have HO := Lib.hid hown
    have HB := Lib.hid hbl
    have t1 : (0 : Int) < (n : Int) := by omega
    have hh : (Instr.slice 86 (.slice none 0 0) none (some (.int .i64 0)) none).run Tryz.prog w = .ok (.slice none 0 0) w := by simp [go_sem]
    clear hg hW hown hbl hg1 hg2
    go_enter Tryz.func166, Tryz.ntmps166
    go_wp2_with (at_builtin; refine Lib.wpList_append_run _ rfl _ _ _ _ rfl _ _ rfl rfl _ _ hr ?_)
    go_wp2
    go_ret
    exact ⟨_, 0, _, rfl, rfl, HO.out, HB.out⟩
set_option maxRecDepth 100000 in
set_option maxHeartbeats 8000000 in
theorem concatN_any (l : List It) (p : Option Addr) (m cap : Nat) (hml : m = l.length) (hm : m ≤ 100) (w : World) (hp : Vals w p (l.map It.val)) (hok : ∀ x ∈ l, x.ok 1 w) (ht : tot l ≤ 1000000) :
    Calls Tryz.prog 113 #[.slice p m cap] w (CEnd 80 1 (tot l) (cat l) w) := by
  obtain ⟨i0, hi, hz0, hz1, hz2⟩ := info_parts info_node
  have HP := Lib.hid hp
  have HOK := Lib.hid hok
  have HML := Lib.hid hml
  have HT := Lib.hid ht
  have HGR := Lib.hid (growN_any (tot l) ht)
  have HTL := Lib.hid (tot_le l)
  obtain ⟨S, hS⟩ : ∃ S : Nat → Nat, ∀ k, S k = tot (l.take k) := ⟨_, fun _ => rfl⟩
  have HS : Hid (∀ k x, l[k]? = some x → S (k + 1) = S k + x.n ∧ S (k + 1) ≤ 1000000) := Lib.hid fun k x hx => by
    have := tot_le l (k + 1)
    rw [hS, hS, tot_snoc hx] at *
    exact ⟨rfl, by omega⟩
  have HS0 : Hid (S 0 = 0) := Lib.hid (by rw [hS]; rfl)
  have HSM : Hid (S m = tot l) := Lib.hid (by rw [hS, hml, List.take_length])
  have HSE := Lib.hid hS
  obtain ⟨N, hN⟩ : ∃ N, N = tot l := ⟨_, rfl⟩
  have hN6 : N ≤ 1000000 := by omega
  rw [← hN] at HGR HSM ⊢
  clear hp hok hml ht hS hN
  go_enter Tryz.func113, Tryz.ntmps113
  go_wp2
  go_loopw [3, 11] (fun s i wr => ∃ k : Nat, k ≤ m ∧ i = .int .i64 k ∧ s = .int .i64 (S k : Nat) ∧ w = wr) (fun _ i _ => m - (intOf i).toNat)
  case atStart => exact ⟨0, Nat.zero_le _, rfl, by rw [HS0.out]; rfl, rfl⟩
  case round =>
    obtain ⟨k, hk, rfl, rfl, rfl⟩ := hrel
    by_cases hlt : k < m
    · obtain ⟨x, hx⟩ : ∃ x, l[k]? = some x := ⟨_, List.getElem?_eq_getElem (by rw [← HML.out]; exact hlt)⟩
      obtain ⟨h1, h2⟩ := HS.out k x hx
      obtain ⟨pb, po, rfl, hpb⟩ : ∃ b off, p = some ⟨b, off, none⟩ ∧ w.cell? ⟨b, off + k, none⟩ = some (.slice x.a x.n x.c) := by
        rcases HP.out with h0 | ⟨b, off, h1, h2, h3⟩
        · rw [List.map_eq_nil_iff] at h0; rw [h0] at hx; simp at hx
        · exact ⟨b, off, h1, h3 k _ (by rw [List.getElem?_map, hx]; rfl)⟩
      obtain ⟨s0, hs0⟩ : ∃ s, s = S k := ⟨_, rfl⟩
      obtain ⟨s1, hs1⟩ : ∃ s, s = S (k + 1) := ⟨_, rfl⟩
      rw [← hs0]
      have e1 : IntKind.i64.wrap ((s0 : Int) + (x.n : Int)) = (s1 : Int) := by rw [IntWalk.i64_in _ (by omega)]; omega
      have t1 : (k : Int) < (m : Int) := by omega
      have t2 : (0 : Int) ≤ (k : Int) := by omega
      have t3 : ¬ ((s1 : Int) < 0) := by omega
      have HS1 := Lib.hid hs1
      clear hs0 hs1 h1 h2 hx
      go_wp2
      go_roundw
      case rel => exact ⟨k + 1, by omega, by go_num, by rw [HS1.out], trivial⟩
      case measure => simp [intOf]; omega
    · obtain rfl : k = m := by omega
      have t1 : ¬ (k : Int) < (k : Int) := by omega
      rw [HSM.out]
      go_wp2_with fail
      refine (HGR.out _).mono ?_
      rintro r w1 ⟨A1, n1, c1, rfl, rfl, ho1, hb1⟩
      have HO1 := Lib.hid ho1
      have HB1 := Lib.hid hb1
      have hsz1 := hb1.size
      clear ho1 hb1
      go_wp2
      go_loopw [6, 27] (fun v i wr => ∃ (j : Nat) (A : Option Addr) (n2 cc : Nat), j ≤ k ∧ i = .int .i64 j ∧ v = .slice A n2 cc ∧ Hid (wr.ownsRow w.heap.size 80 1 (.slice A n2 cc) (S j) (cat (l.take j))) ∧ Below w.heap.size w wr) (fun _ i _ => k - (intOf i).toNat)
      case atStart => exact ⟨0, A1, 0, c1, Nat.zero_le _, rfl, rfl, Lib.hid (by rw [HS0.out]; exact HO1.out), HB1.out⟩
      case round =>
        obtain ⟨j, A, n2, cc, hj, rfl, rfl, HOW, hbel⟩ := hrel
        have HBL := Lib.hid hbel
        have hsz := hbel.size
        by_cases hlt2 : j < k
        · obtain ⟨x, hx⟩ : ∃ x, l[j]? = some x := ⟨_, List.getElem?_eq_getElem (by rw [← HML.out]; exact hlt2)⟩
          obtain ⟨h1, h2⟩ := HS.out j x hx
          obtain ⟨pb, po, rfl, hpb⟩ : ∃ b off, p = some ⟨b, off, none⟩ ∧ wr.cell? ⟨b, off + j, none⟩ = some (.slice x.a x.n x.c) := by
            rcases HP.out.below hbel with h0 | ⟨b, off, h1, h2, h3⟩
            · rw [List.map_eq_nil_iff] at h0; rw [h0] at hx; simp at hx
            · exact ⟨b, off, h1, h3 j _ (by rw [List.getElem?_map, hx]; rfl)⟩
          obtain ⟨g1, g2, g3⟩ := HOK.out x (List.mem_of_getElem? hx)
          have HCS := Lib.hid (cat_snoc hx)
          obtain ⟨xa, xn, xc, xs⟩ := x
          simp only at h1 h2 g1 g2 g3 hpb
          have HCS' : Hid (cat (l.take (j + 1)) = cat (l.take j) ++ xs) := HCS
          have H1 := Lib.hid h1
          have H2 := Lib.hid h2
          have G1 := Lib.hid g1
          have G2 := Lib.hid g2
          have t1 : (j : Int) < (k : Int) := by omega
          have t2 : (0 : Int) ≤ (j : Int) := by omega
          clear hx h1 h2 g1 g2 hbel HCS
          rcases Nat.eq_zero_or_pos xn with hz | hz
          · subst hz
            have hxs : xs = [] := List.eq_nil_of_length_eq_zero (by have := G1.out; omega)
            subst hxs
            have hr := run_append_empty (P := Tryz.prog) (w := wr) w.heap.size 86 86 80 i0 1 Tryz.underlying86 hi _ _ _ HOW.out xa xc
            clear g3
            go_wp2_with (at_builtin; refine Lib.wpList_append_run _ rfl _ _ _ _ rfl _ _ rfl rfl _ _ hr ?_)
            go_wp2
            go_roundw
            case rel => exact ⟨j + 1, A, n2, cc, by omega, by go_num, rfl, Lib.hid (by rw [HCS'.out, H1.out, List.append_nil]; exact HOW.out), HBL.out⟩
            case measure => simp [intOf]; omega
          · rcases g3 with h0 | ⟨sb, so, rfl, hsb, hsc⟩
            · omega
            · have HSC : Hid (∀ y u, xs[y]? = some u → wr.cell? ((⟨sb, so, none⟩ : Addr).add y) = some u) := Lib.hid fun y u hu => by
                rw [Addr.add_lit]
                exact (HBL.out.cell (p := ⟨sb, so + y, none⟩) hsb).trans (hsc y u hu)
              clear hsc
              go_wp2_with (at_builtin; refine wpList_append_own _ rfl _ _ 86 rfl w.heap.size 80 i0 .nilIface 1 16 Tryz.underlying86 hi hz0 hz1 hz2 rfl (by decide) _ _ _ rfl HOW.out ⟨sb, so, none⟩ xn xc xs rfl G1.out HSC.out G2.out ?c3 ?c4 hsz ?_)
              case c3 => have := H1.out; have := H2.out; unfold maxLen; omega
              case c4 => have := H1.out; have := H2.out; omega
              intro v8 w8 own8 hgrow _
              have own9 : w8.ownsRow w.heap.size 80 1 v8 (S (j + 1)) (cat (l.take (j + 1))) := by
                rw [HCS'.out, H1.out]; exact own8
              have hl8 : Below w.heap.size w w8 := HBL.out.grown hgrow hsz (fun y hy => (HOW.out.lt y hy).1)
              obtain ⟨A8, c8, rfl⟩ := own_slice own9
              have O8 := Lib.hid own9
              have L8 := Lib.hid hl8
              clear own8 own9 hl8 hgrow
              go_wp2
              go_roundw
              case rel => exact ⟨j + 1, A8, _, c8, by omega, by go_num, rfl, O8, L8.out⟩
              case measure => simp [intOf]; omega
        · obtain rfl : j = k := by omega
          have t1 : ¬ (j : Int) < (j : Int) := by omega
          clear hbel
          go_wp2
          go_ret
          have h9 := HOW.out
          rw [HSM.out, HML.out, List.take_length] at h9
          exact ⟨A, n2, cc, rfl, own_len h9, h9, HBL.out⟩
end TR
end Go.Proofs.YtdjlflinepefbabGreat
