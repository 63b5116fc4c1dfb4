/- 2 texts laid together: each says at its head what it proves. No condition but those that each theorem names. -/
import Derived.Test.YtdjlflinepefbabGreatQ08
import Derived.BigQuiet
import Derived.Test.YtdjlflinepefbabGreatQ05

/- What tree.parts answers at both its types: the parts of a slice, cut as alike as can be. No condition but those that each theorem names. -/
namespace Go.Proofs.YtdjlflinepefbabGreat
open Go.RowKit
namespace TR
open MM EX LF
set_option linter.unusedVariables false
set_option linter.unusedSimpArgs false

theorem info_exts : (Tryz.prog.info? 61).map (fun i => (i.zero, i.size, i.bytes)) = some (some (.slice none 0 0), 1, 24) := by kernel_rfl
theorem info_nodes : (Tryz.prog.info? 86).map (fun i => (i.zero, i.size, i.bytes)) = some (some (.slice none 0 0), 1, 24) := by kernel_rfl
/-- The i-th part of a slice. -/
def psl (b off sz n i : Nat) : Value := .slice (some ⟨b, off + at' n i * sz, none⟩) (at' n (i + 1) - at' n i) (at' n (i + 1) - at' n i)
def psls (b off sz n k : Nat) : List Value := (List.range k).map (psl b off sz n)
theorem psls_succ (b off sz n k : Nat) : psls b off sz n (k + 1) = psls b off sz n k ++ [psl b off sz n k] := by simp [psls, List.range_succ]
theorem psls_len (b off sz n k : Nat) : (psls b off sz n k).length = k := by simp [psls]
theorem psls_get {b off sz n k i : Nat} (hi : i < k) : (psls b off sz n k)[i]? = some (psl b off sz n i) := by
  unfold psls; rw [List.getElem?_map, List.getElem?_range hi]; rfl
/-- A row of the call's own that reads as values. -/
def VEnd (l : List Value) (w : World) (r : Ending) (w' : World) : Prop := ∃ A n c, r = .returned (.slice A n c) ∧ n = l.length ∧ Vals w' A l ∧ Below w.heap.size w w'
theorem own_vals {w : World} {base : Nat} {e : TypeId} {A : Option Addr} {n c : Nat} {l : List Value} (h : w.ownsRow base e 1 (.slice A n c) l.length l) : Vals w A l := by
  rcases h.2 with ⟨hv, h0⟩ | ⟨g, cap, cur, hv, hg, hh, r⟩
  · exact .inl (List.eq_nil_of_length_eq_zero h0)
  · obtain ⟨rfl, rfl, rfl⟩ := Value.slice.inj hv
    exact .inr ⟨g, 0, rfl, (Array.getElem?_eq_some_iff.1 hh).1, fun i v hi => by rw [Nat.zero_add]; exact own_cells h i v hi⟩
theorem at_lt {n : Nat} (h : 1 ≤ n) {i : Nat} (hi : i < cnt n) : at' n i < at' n (i + 1) := by
  by_cases h9 : 9 ≤ n
  · have := at_grows h9 i; omega
  · have hc : cnt n = 1 := by unfold cnt; omega
    obtain rfl : i = 0 := by omega
    have := at_last h
    rw [hc] at this
    rw [at_zero, this]; omega

set_option maxRecDepth 100000 in
theorem partsE_none (a : Option Addr) (cap : Nat) (w : World) : Calls Tryz.prog 158 #[.slice a 0 cap] w fun r w' => r = .returned (.slice none 0 0) ∧ w = w' := by
  go_enter Tryz.func158, Tryz.ntmps158
  go_wp2
  go_loopw [4, 14] (fun v i wr => i = .int .i64 0 ∧ v = .slice none 0 0 ∧ w = wr) (fun _ _ _ => 0)
  case atStart => exact ⟨rfl, rfl, rfl⟩
  case round =>
    obtain ⟨rfl, rfl, rfl⟩ := hrel
    go_wp2
    go_ret
    exact ⟨rfl, rfl⟩
set_option maxRecDepth 100000 in
set_option maxHeartbeats 8000000 in
theorem partsE_any (b off n cap : Nat) (hn : 1 ≤ n) (hm : n ≤ 1000000) (hcap : n ≤ cap) (w : World) :
    Calls Tryz.prog 158 #[.slice (some ⟨b, off, none⟩) n cap] w (VEnd (psls b off 4 n (cnt n)) w) := by
  obtain ⟨i0, hi, hz0, hz1, hz2⟩ := info_parts info_exts
  obtain ⟨c, hc⟩ : ∃ c, c = cnt n := ⟨_, rfl⟩
  have hc1 : 1 ≤ c := by rw [hc]; exact cnt_pos hn
  have hc2 : c ≤ 200000 := by rw [hc]; unfold cnt; omega
  obtain ⟨n8, hn8⟩ : ∃ x, x = n + 8 := ⟨_, rfl⟩
  obtain ⟨n7, hn7⟩ : ∃ x, x = n + 7 := ⟨_, rfl⟩
  have e1 : IntKind.i64.wrap ((n : Int) + 8) = (n8 : Int) := by rw [IntWalk.i64_in _ (by omega)]; omega
  have e2 : IntKind.i64.wrap ((n8 : Int) - 1) = (n7 : Int) := by rw [IntWalk.i64_in _ (by omega)]; omega
  have e3 : IntKind.i64.wrap ((n7 : Int) / 8) = (c : Int) := by
    have : c = n7 / 8 := by rw [hc, hn7]; rfl
    rw [IntWalk.i64_in _ (by omega)]; omega
  have HC := Lib.hid hc
  have HN := Lib.hid hn
  have HCAP := Lib.hid hcap
  rw [← hc]
  clear hc hn8 hn7 hn hcap
  go_enter Tryz.func158, Tryz.ntmps158
  go_wp2
  go_loopw [4, 14] (fun v i wr => ∃ (k : Nat) (A : Option Addr) (cc : Nat), k ≤ c ∧ i = .int .i64 k ∧ v = .slice A k cc ∧ Hid (wr.ownsRow w.heap.size 61 1 (.slice A k cc) k (psls b off 4 n k)) ∧ Below w.heap.size w wr) (fun _ i _ => c - (intOf i).toNat)
  case atStart => exact ⟨0, none, 0, Nat.zero_le _, rfl, rfl, Lib.hid (World.ownsRow_nil _ _ _ _), Below.refl _ _⟩
  case round =>
    obtain ⟨k, A, cc, hk, rfl, rfl, HOW, hbel⟩ := hrel
    have HBL := Lib.hid hbel
    have hsz := hbel.size
    by_cases hlt : k < c
    · have t1 : (k : Int) < (c : Int) := by omega
      have hkc : k < cnt n := by rw [← HC.out]; exact hlt
      obtain ⟨f, hf⟩ : ∃ x, x = at' n k := ⟨_, rfl⟩
      obtain ⟨g, hg⟩ : ∃ x, x = at' n (k + 1) := ⟨_, rfl⟩
      have hfg : f < g := by rw [hf, hg]; exact at_lt HN.out hkc
      have hgn : g ≤ n := by rw [hg]; exact at_le HN.out hkc
      have hgc := Nat.le_trans hgn HCAP.out
      have hnk : n * k ≤ 1000000 * 200000 := Nat.mul_le_mul hm (by omega)
      have hnk1 : n * (k + 1) ≤ 1000000 * 200000 := Nat.mul_le_mul hm (by omega)
      obtain ⟨x1, hx1⟩ : ∃ x, x = n * k := ⟨_, rfl⟩
      obtain ⟨k1, hk1⟩ : ∃ x, x = k + 1 := ⟨_, rfl⟩
      obtain ⟨x2, hx2⟩ : ∃ x, x = n * k1 := ⟨_, rfl⟩
      have m1 : IntKind.i64.wrap ((n : Int) * (k : Int)) = (x1 : Int) := by
        have e : ((n : Int) * (k : Int)) = ((x1 : Nat) : Int) := by rw [hx1]; simp
        rw [e, IntWalk.i64_in _ (by omega)]
      have m2 : IntKind.i64.wrap ((x1 : Int) / (c : Int)) = (f : Int) := by
        have e : f = x1 / c := by rw [hf, hx1, HC.out]; rfl
        have e5 : ((x1 : Int) / (c : Int)) = ((x1 / c : Nat) : Int) := by simp
        rw [e5, ← e, IntWalk.i64_in _ (by omega)]
      have m3 : IntKind.i64.wrap ((k : Int) + 1) = (k1 : Int) := by rw [IntWalk.i64_in _ (by omega)]; omega
      have m4 : IntKind.i64.wrap ((n : Int) * (k1 : Int)) = (x2 : Int) := by
        have e : ((n : Int) * (k1 : Int)) = ((x2 : Nat) : Int) := by rw [hx2]; simp
        have : x2 ≤ 1000000 * 200000 := by rw [hx2, hk1]; exact hnk1
        rw [e, IntWalk.i64_in _ (by omega)]
      have m5 : IntKind.i64.wrap ((x2 : Int) / (c : Int)) = (g : Int) := by
        have e : g = x2 / c := by rw [hg, hx2, hk1, HC.out]; rfl
        have e5 : ((x2 : Int) / (c : Int)) = ((x2 / c : Nat) : Int) := by simp
        rw [e5, ← e, IntWalk.i64_in _ (by omega)]
      have z1 : ¬ ((c : Int) = 0) := by omega
      have s1 : (f : Int) ≤ (g : Int) := by omega
      have s2 : (g : Int) ≤ (cap : Int) := by omega
      have s3 : ¬ (g = f) := by omega
      have s4 : (0 : Int) ≤ (f : Int) := by omega
      have HP : Hid (psl b off 4 n k = .slice (some ⟨b, off + f * 4, none⟩) (g - f) (g - f)) := Lib.hid (by rw [hf, hg]; simp [psl])
      have HK1 := Lib.hid hk1
      clear hf hg hx1 hx2 hk1 hnk hnk1 hkc hbel hgn hgc hfg
      go_wp2
      go_quiet (fail)
      obtain ⟨W, hW⟩ : ∃ W, W = wr.drewN nq := ⟨_, rfl⟩
      have hbw : Below wr.heap.size wr W := by rw [hW]; exact drewN_below (Below.refl _ _) _
      have HO2 : Hid (W.ownsRow w.heap.size 61 1 (.slice A k cc) k (psls b off 4 n k)) := Lib.hid (MM.own_kept HOW.out hbw)
      have HB2 : Hid (Below w.heap.size w W) := Lib.hid (HBL.out.trans (hbw.mono hsz))
      have hsz2 : w.heap.size ≤ W.heap.size := Nat.le_trans hsz hbw.size
      rw [← hW]
      clear hW hbw
      go_wp2_with (at_builtin; refine wpList_append_own _ rfl _ _ 245 rfl w.heap.size 61 i0 (.slice none 0 0) 1 24 Tryz.underlying245 hi hz0 hz1 hz2 rfl (by decide) _ _ _ rfl (HO2.out.alloc _) ⟨W.heap.size, 0, none⟩ 1 1 [.slice (some ⟨b, off + f * 4, none⟩) (g - f) (g - f)] rfl rfl ?c1 ?c2 ?c3 ?c4 ?c5 ?_)
      case c1 => exact new_cells _ _ _
      case c2 => intro u hu; simp at hu; rcases hu with rfl <;> rfl
      case c3 => unfold maxLen; omega
      case c4 => omega
      case c5 => simp; omega
      intro v8 w8 own8 hgrow _
      have own9 : w8.ownsRow w.heap.size 61 1 v8 (k + 1) (psls b off 4 n (k + 1)) := by
        rw [psls_succ, HP.out]; exact own8
      have hl8 : Below w.heap.size w w8 := (HB2.out.alloc hsz2 _).grown hgrow (by simp; omega) (fun j hj => (HO2.out.lt j hj).1)
      obtain ⟨A8, c8, rfl⟩ := own_slice own9
      have O8 := Lib.hid own9
      have L8 := Lib.hid hl8
      clear own8 own9 hl8 hgrow
      go_wp2
      go_roundw
      case rel => exact ⟨k1, A8, c8, by have := HK1.out; omega, by go_num, by rw [HK1.out], Lib.hid (by rw [HK1.out]; exact O8.out), L8.out⟩
      case measure => have := HK1.out; simp [intOf]; omega
    · obtain rfl : k = c := by omega
      have t1 : ¬ (k : Int) < (k : Int) := by omega
      clear hbel
      go_wp2
      go_ret
      exact ⟨A, k, cc, rfl, (psls_len _ _ _ _ _).symm, own_vals (by rw [psls_len]; exact HOW.out), HBL.out⟩

set_option maxRecDepth 100000 in
theorem partsN_none (a : Option Addr) (cap : Nat) (w : World) : Calls Tryz.prog 157 #[.slice a 0 cap] w fun r w' => r = .returned (.slice none 0 0) ∧ w = w' := by
  go_enter Tryz.func157, Tryz.ntmps157
  go_wp2
  go_loopw [4, 14] (fun v i wr => i = .int .i64 0 ∧ v = .slice none 0 0 ∧ w = wr) (fun _ _ _ => 0)
  case atStart => exact ⟨rfl, rfl, rfl⟩
  case round =>
    obtain ⟨rfl, rfl, rfl⟩ := hrel
    go_wp2
    go_ret
    exact ⟨rfl, rfl⟩
set_option maxRecDepth 100000 in
set_option maxHeartbeats 8000000 in
theorem partsN_any (b off n cap : Nat) (hn : 1 ≤ n) (hm : n ≤ 1000000) (hcap : n ≤ cap) (w : World) :
    Calls Tryz.prog 157 #[.slice (some ⟨b, off, none⟩) n cap] w (VEnd (psls b off 1 n (cnt n)) w) := by
  obtain ⟨i0, hi, hz0, hz1, hz2⟩ := info_parts info_nodes
  obtain ⟨c, hc⟩ : ∃ c, c = cnt n := ⟨_, rfl⟩
  have hc1 : 1 ≤ c := by rw [hc]; exact cnt_pos hn
  have hc2 : c ≤ 200000 := by rw [hc]; unfold cnt; omega
  obtain ⟨n8, hn8⟩ : ∃ x, x = n + 8 := ⟨_, rfl⟩
  obtain ⟨n7, hn7⟩ : ∃ x, x = n + 7 := ⟨_, rfl⟩
  have e1 : IntKind.i64.wrap ((n : Int) + 8) = (n8 : Int) := by rw [IntWalk.i64_in _ (by omega)]; omega
  have e2 : IntKind.i64.wrap ((n8 : Int) - 1) = (n7 : Int) := by rw [IntWalk.i64_in _ (by omega)]; omega
  have e3 : IntKind.i64.wrap ((n7 : Int) / 8) = (c : Int) := by
    have : c = n7 / 8 := by rw [hc, hn7]; rfl
    rw [IntWalk.i64_in _ (by omega)]; omega
  have HC := Lib.hid hc
  have HN := Lib.hid hn
  have HCAP := Lib.hid hcap
  rw [← hc]
  clear hc hn8 hn7 hn hcap
  go_enter Tryz.func157, Tryz.ntmps157
  go_wp2
  go_loopw [4, 14] (fun v i wr => ∃ (k : Nat) (A : Option Addr) (cc : Nat), k ≤ c ∧ i = .int .i64 k ∧ v = .slice A k cc ∧ Hid (wr.ownsRow w.heap.size 86 1 (.slice A k cc) k (psls b off 1 n k)) ∧ Below w.heap.size w wr) (fun _ i _ => c - (intOf i).toNat)
  case atStart => exact ⟨0, none, 0, Nat.zero_le _, rfl, rfl, Lib.hid (World.ownsRow_nil _ _ _ _), Below.refl _ _⟩
  case round =>
    obtain ⟨k, A, cc, hk, rfl, rfl, HOW, hbel⟩ := hrel
    have HBL := Lib.hid hbel
    have hsz := hbel.size
    by_cases hlt : k < c
    · have t1 : (k : Int) < (c : Int) := by omega
      have hkc : k < cnt n := by rw [← HC.out]; exact hlt
      obtain ⟨f, hf⟩ : ∃ x, x = at' n k := ⟨_, rfl⟩
      obtain ⟨g, hg⟩ : ∃ x, x = at' n (k + 1) := ⟨_, rfl⟩
      have hfg : f < g := by rw [hf, hg]; exact at_lt HN.out hkc
      have hgn : g ≤ n := by rw [hg]; exact at_le HN.out hkc
      have hgc := Nat.le_trans hgn HCAP.out
      have hnk : n * k ≤ 1000000 * 200000 := Nat.mul_le_mul hm (by omega)
      have hnk1 : n * (k + 1) ≤ 1000000 * 200000 := Nat.mul_le_mul hm (by omega)
      obtain ⟨x1, hx1⟩ : ∃ x, x = n * k := ⟨_, rfl⟩
      obtain ⟨k1, hk1⟩ : ∃ x, x = k + 1 := ⟨_, rfl⟩
      obtain ⟨x2, hx2⟩ : ∃ x, x = n * k1 := ⟨_, rfl⟩
      have m1 : IntKind.i64.wrap ((n : Int) * (k : Int)) = (x1 : Int) := by
        have e : ((n : Int) * (k : Int)) = ((x1 : Nat) : Int) := by rw [hx1]; simp
        rw [e, IntWalk.i64_in _ (by omega)]
      have m2 : IntKind.i64.wrap ((x1 : Int) / (c : Int)) = (f : Int) := by
        have e : f = x1 / c := by rw [hf, hx1, HC.out]; rfl
        have e5 : ((x1 : Int) / (c : Int)) = ((x1 / c : Nat) : Int) := by simp
        rw [e5, ← e, IntWalk.i64_in _ (by omega)]
      have m3 : IntKind.i64.wrap ((k : Int) + 1) = (k1 : Int) := by rw [IntWalk.i64_in _ (by omega)]; omega
      have m4 : IntKind.i64.wrap ((n : Int) * (k1 : Int)) = (x2 : Int) := by
        have e : ((n : Int) * (k1 : Int)) = ((x2 : Nat) : Int) := by rw [hx2]; simp
        have : x2 ≤ 1000000 * 200000 := by rw [hx2, hk1]; exact hnk1
        rw [e, IntWalk.i64_in _ (by omega)]
      have m5 : IntKind.i64.wrap ((x2 : Int) / (c : Int)) = (g : Int) := by
        have e : g = x2 / c := by rw [hg, hx2, hk1, HC.out]; rfl
        have e5 : ((x2 : Int) / (c : Int)) = ((x2 / c : Nat) : Int) := by simp
        rw [e5, ← e, IntWalk.i64_in _ (by omega)]
      have z1 : ¬ ((c : Int) = 0) := by omega
      have s1 : (f : Int) ≤ (g : Int) := by omega
      have s2 : (g : Int) ≤ (cap : Int) := by omega
      have s3 : ¬ (g = f) := by omega
      have s4 : (0 : Int) ≤ (f : Int) := by omega
      have HP : Hid (psl b off 1 n k = .slice (some ⟨b, off + f, none⟩) (g - f) (g - f)) := Lib.hid (by rw [hf, hg]; simp [psl])
      have HK1 := Lib.hid hk1
      clear hf hg hx1 hx2 hk1 hnk hnk1 hkc hbel hgn hgc hfg
      go_wp2
      go_quiet (fail)
      obtain ⟨W, hW⟩ : ∃ W, W = wr.drewN nq := ⟨_, rfl⟩
      have hbw : Below wr.heap.size wr W := by rw [hW]; exact drewN_below (Below.refl _ _) _
      have HO2 : Hid (W.ownsRow w.heap.size 86 1 (.slice A k cc) k (psls b off 1 n k)) := Lib.hid (MM.own_kept HOW.out hbw)
      have HB2 : Hid (Below w.heap.size w W) := Lib.hid (HBL.out.trans (hbw.mono hsz))
      have hsz2 : w.heap.size ≤ W.heap.size := Nat.le_trans hsz hbw.size
      rw [← hW]
      clear hW hbw
      go_wp2_with (at_builtin; refine wpList_append_own _ rfl _ _ 243 rfl w.heap.size 86 i0 (.slice none 0 0) 1 24 Tryz.underlying243 hi hz0 hz1 hz2 rfl (by decide) _ _ _ rfl (HO2.out.alloc _) ⟨W.heap.size, 0, none⟩ 1 1 [.slice (some ⟨b, off + f, none⟩) (g - f) (g - f)] rfl rfl ?c1 ?c2 ?c3 ?c4 ?c5 ?_)
      case c1 => exact new_cells _ _ _
      case c2 => intro u hu; simp at hu; rcases hu with rfl <;> rfl
      case c3 => unfold maxLen; omega
      case c4 => omega
      case c5 => simp; omega
      intro v8 w8 own8 hgrow _
      have own9 : w8.ownsRow w.heap.size 86 1 v8 (k + 1) (psls b off 1 n (k + 1)) := by
        rw [psls_succ, HP.out]; exact own8
      have hl8 : Below w.heap.size w w8 := (HB2.out.alloc hsz2 _).grown hgrow (by simp; omega) (fun j hj => (HO2.out.lt j hj).1)
      obtain ⟨A8, c8, rfl⟩ := own_slice own9
      have O8 := Lib.hid own9
      have L8 := Lib.hid hl8
      clear own8 own9 hl8 hgrow
      go_wp2
      go_roundw
      case rel => exact ⟨k1, A8, c8, by have := HK1.out; omega, by go_num, by rw [HK1.out], Lib.hid (by rw [HK1.out]; exact O8.out), L8.out⟩
      case measure => have := HK1.out; simp [intOf]; omega
    · obtain rfl : k = c := by omega
      have t1 : ¬ (k : Int) < (k : Int) := by omega
      clear hbel
      go_wp2
      go_ret
      exact ⟨A, k, cc, rfl, (psls_len _ _ _ _ _).symm, own_vals (by rw [psls_len]; exact HOW.out), HBL.out⟩
end TR
end Go.Proofs.YtdjlflinepefbabGreat

/- How a tree lies in memory in blocks that meet a condition: it stays whatever is done to others. No program. -/
namespace Go.Proofs.YtdjlflinepefbabGreat
open Go.RowKit
namespace TR
open MM EX
set_option linter.unusedVariables false
set_option linter.unusedSimpArgs false

def ExsP (P : Nat → Prop) (w : World) (a : Option Addr) (l : List Ext) : Prop := l = [] ∨ ∃ b off, a = some ⟨b, off, none⟩ ∧ b < w.heap.size ∧ P b ∧ ∀ (i : Nat) (e : Ext), l[i]? = some e → Cells4 w b (off + i * 4) e
def ValsP (P : Nat → Prop) (w : World) (a : Option Addr) (l : List Value) : Prop := l = [] ∨ ∃ b off, a = some ⟨b, off, none⟩ ∧ b < w.heap.size ∧ P b ∧ ∀ (i : Nat) (v : Value), l[i]? = some v → w.cell? ⟨b, off + i, none⟩ = some v
def RepP (P : Nat → Prop) : (h : Nat) → World → Tr h → Prop
  | 0, w, t => ∃ A c, (lf t).xs.length ≤ c ∧ P (lf t).blk ∧ Blk w (lf t).blk 160 #[.int .i64 (lf t).at_, .slice A (lf t).xs.length c] ∧ ExsP P w A (lf t).xs
  | h + 1, w, t => ∃ A c, (nd t).xs.length ≤ c ∧ P (nd t).blk ∧ Blk w (nd t).blk 163 #[.int .i64 (nd t).at_, .slice A (nd t).xs.length c] ∧ ValsP P w A ((nd t).xs.map (vl h)) ∧ ∀ k ∈ (nd t).xs, RepP P h w k
structure NdsP (P : Nat → Prop) (h : Nat) (w : World) (a : Option Addr) (l : List (Tr h)) : Prop where
  vals : ValsP P w a (l.map (vl h))
  reps : ∀ k ∈ l, RepP P h w k
section
variable {P Q : Nat → Prop} {w w' : World} {a : Option Addr}
theorem ExsP.exs {l : List Ext} (x : ExsP P w a l) : Exs w a l := by
  rcases x with h | ⟨b, off, h1, h2, h3, h4⟩
  · exact .inl h
  · exact .inr ⟨b, off, h1, h2, h4⟩
theorem ValsP.vals {l : List Value} (x : ValsP P w a l) : Vals w a l := by
  rcases x with h | ⟨b, off, h1, h2, h3, h4⟩
  · exact .inl h
  · exact .inr ⟨b, off, h1, h2, h4⟩
theorem RepP.rep : ∀ {h : Nat} {t : Tr h}, RepP P h w t → Rep h w t
  | 0, t, ⟨A, c, h1, _, h2, h3⟩ => ⟨A, c, h1, h2, h3.exs⟩
  | h + 1, t, ⟨A, c, h1, _, h2, h3, h4⟩ => ⟨A, c, h1, h2, h3.vals, fun k hk => (h4 k hk).rep⟩
theorem NdsP.nds {h : Nat} {l : List (Tr h)} (x : NdsP P h w a l) : Nds h w a l := ⟨x.vals.vals, fun k hk => (x.reps k hk).rep⟩
theorem ExsP.mono {l : List Ext} (x : ExsP P w a l) (hq : ∀ b, P b → b < w.heap.size → Q b) : ExsP Q w a l := by
  rcases x with h | ⟨b, off, h1, h2, h3, h4⟩
  · exact .inl h
  · exact .inr ⟨b, off, h1, h2, hq b h3 h2, h4⟩
theorem ValsP.mono {l : List Value} (x : ValsP P w a l) (hq : ∀ b, P b → b < w.heap.size → Q b) : ValsP Q w a l := by
  rcases x with h | ⟨b, off, h1, h2, h3, h4⟩
  · exact .inl h
  · exact .inr ⟨b, off, h1, h2, hq b h3 h2, h4⟩
theorem RepP.mono (hq : ∀ b, P b → b < w.heap.size → Q b) : ∀ {h : Nat} {t : Tr h}, RepP P h w t → RepP Q h w t
  | 0, t, ⟨A, c, h1, h0, h2, h3⟩ => ⟨A, c, h1, hq _ h0 h2.lt, h2, h3.mono hq⟩
  | h + 1, t, ⟨A, c, h1, h0, h2, h3, h4⟩ => ⟨A, c, h1, hq _ h0 h2.lt, h2, h3.mono hq, fun k hk => RepP.mono hq (h4 k hk)⟩
theorem NdsP.mono {h : Nat} {l : List (Tr h)} (x : NdsP P h w a l) (hq : ∀ b, P b → b < w.heap.size → Q b) : NdsP Q h w a l := ⟨x.vals.mono hq, fun k hk => (x.reps k hk).mono hq⟩
theorem Exs.all {l : List Ext} (x : Exs w a l) : ExsP (fun b => b < w.heap.size) w a l := by
  rcases x with h | ⟨b, off, h1, h2, h4⟩
  · exact .inl h
  · exact .inr ⟨b, off, h1, h2, h2, h4⟩
theorem Vals.all {l : List Value} (x : Vals w a l) : ValsP (fun b => b < w.heap.size) w a l := by
  rcases x with h | ⟨b, off, h1, h2, h4⟩
  · exact .inl h
  · exact .inr ⟨b, off, h1, h2, h2, h4⟩
theorem Rep.all : ∀ {h : Nat} {t : Tr h}, Rep h w t → RepP (fun b => b < w.heap.size) h w t
  | 0, t, ⟨A, c, h1, h2, h3⟩ => ⟨A, c, h1, h2.lt, h2, Exs.all h3⟩
  | h + 1, t, ⟨A, c, h1, h2, h3, h4⟩ => ⟨A, c, h1, h2.lt, h2, h3.all, fun k hk => (h4 k hk).all⟩
/-- What is done to other blocks leaves it. -/
theorem cell_keep {b o : Nat} {v : Value} (h : w.cell? ⟨b, o, none⟩ = some v) (hk : w'.heap[b]? = w.heap[b]?) : w'.cell? ⟨b, o, none⟩ = some v := by
  rw [World.cell?_of_block (a := ⟨b, o, none⟩) hk]; exact h
variable (hz : w.heap.size ≤ w'.heap.size) (hk : ∀ b, P b → b < w.heap.size → w'.heap[b]? = w.heap[b]?)
include hz hk
theorem ExsP.keep {l : List Ext} (x : ExsP P w a l) : ExsP P w' a l := by
  rcases x with h | ⟨b, off, h1, h2, h3, h4⟩
  · exact .inl h
  · have hb := hk b h3 h2
    exact .inr ⟨b, off, h1, Nat.lt_of_lt_of_le h2 hz, h3, fun i e hi => by
      obtain ⟨q0, q1, q2, q3⟩ := h4 i e hi
      exact ⟨cell_keep q0 hb, cell_keep q1 hb, cell_keep q2 hb, cell_keep q3 hb⟩⟩
theorem ValsP.keep {l : List Value} (x : ValsP P w a l) : ValsP P w' a l := by
  rcases x with h | ⟨b, off, h1, h2, h3, h4⟩
  · exact .inl h
  · exact .inr ⟨b, off, h1, Nat.lt_of_lt_of_le h2 hz, h3, fun i v hi => cell_keep (h4 i v hi) (hk b h3 h2)⟩
theorem RepP.keep : ∀ {h : Nat} {t : Tr h}, RepP P h w t → RepP P h w' t
  | 0, t, ⟨A, c, h1, h0, h2, h3⟩ => ⟨A, c, h1, h0, (hk _ h0 h2.lt).trans h2, h3.keep hz hk⟩
  | h + 1, t, ⟨A, c, h1, h0, h2, h3, h4⟩ => ⟨A, c, h1, h0, (hk _ h0 h2.lt).trans h2, h3.keep hz hk, fun k hk' => RepP.keep (h4 k hk')⟩
theorem NdsP.keep {h : Nat} {l : List (Tr h)} (x : NdsP P h w a l) : NdsP P h w' a l := ⟨x.vals.keep hz hk, fun k hk' => (x.reps k hk').keep hz hk⟩
end
end TR
end Go.Proofs.YtdjlflinepefbabGreat
