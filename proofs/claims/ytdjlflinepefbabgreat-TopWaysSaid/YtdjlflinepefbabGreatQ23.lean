/- tree.topOf: the top of nodes of one height. No condition but those that each theorem names. -/
import Derived.Test.YtdjlflinepefbabGreatQ22

namespace Go.Proofs.YtdjlflinepefbabGreat
open Go.RowKit
namespace TR
open MM EX LF
set_option linter.unusedVariables false
set_option linter.unusedSimpArgs false

/-- What a tree has for its top: nothing, or a top that has these extents. -/
def Root (P : Nat → Prop) (M : List Ext) (w : World) (v : Value) : Prop := (v = .nilIface ∧ M = []) ∨ ∃ h t, v = vl h t ∧ RepP P h w t ∧ Top h t ∧ flat h t = M
theorem Root.keep {P : Nat → Prop} {M : List Ext} {w w' : World} {v : Value} (x : Root P M w v) (hz : w.heap.size ≤ w'.heap.size) (hk : ∀ b, P b → b < w.heap.size → w'.heap[b]? = w.heap[b]?) : Root P M w' v := by
  rcases x with x | ⟨h, t, h1, h2, h3, h4⟩
  · exact .inl x
  · exact .inr ⟨h, t, h1, h2.keep hz hk, h3, h4⟩
theorem Root.mono {P Q : Nat → Prop} {M : List Ext} {w : World} {v : Value} (x : Root P M w v) (hq : ∀ b, P b → b < w.heap.size → Q b) : Root Q M w v := by
  rcases x with x | ⟨h, t, h1, h2, h3, h4⟩
  · exact .inl x
  · exact .inr ⟨h, t, h1, h2.mono hq, h3, h4⟩
def TopEnd (P : Nat → Prop) (M : List Ext) (w : World) (r : Ending) (w' : World) : Prop := ∃ v, r = .returned v ∧ Root (fun b => P b ∨ w.heap.size ≤ b) M w' v ∧ Below w.heap.size w w'
set_option maxRecDepth 100000 in
set_option maxHeartbeats 4000000 in
theorem topOf_any (P : Nat → Prop) {h : Nat} (R : List (Tr h)) (A : Option Addr) (n c : Nat) (hn : n = R.length) (hc : n ≤ c) (hm : n ≤ 1000) (w : World) (hA : NdsP P h w A R) (hR : Res h R) :
    Calls Tryz.prog 84 #[.slice A n c] w (TopEnd P (flats h R) w) := by
  rcases Nat.eq_zero_or_pos n with h0 | hpos
  · subst h0
    have hR0 : R = [] := List.eq_nil_of_length_eq_zero hn.symm
    subst hR0
    clear hn hc hm hA hR
    go_enter Tryz.func84, Tryz.ntmps84
    go_wp2
    go_ret
    exact ⟨_, rfl, .inl ⟨rfl, rfl⟩, Below.refl _ _⟩
  · have HST : Hid (∃ (h : Nat) (R' : List (Tr h)), n = R'.length ∧ NdsP (fun b => P b ∨ w.heap.size ≤ b) h w A R' ∧ Res h R' ∧ flats h R' = flats _ R) := Lib.hid ⟨h, R, hn, hA.mono (fun b hb _ => .inl hb), hR, rfl⟩
    obtain ⟨M, hM⟩ : ∃ M, M = flats h R := ⟨_, rfl⟩
    rw [← hM] at HST ⊢
    have z0 : ((n : Int) == 0) = false := by simp; omega
    clear hM hn hA hR R h
    go_enter Tryz.func84, Tryz.ntmps84
    go_wp2
    go_loopg [0] n (fun g s wr => ∃ (A : Option Addr) (k c : Nat), g = k ∧ s = .slice A k c ∧ 1 ≤ k ∧ k ≤ c ∧ k ≤ 1000 ∧ Hid (∃ (h : Nat) (R' : List (Tr h)), k = R'.length ∧ NdsP (fun b => P b ∨ w.heap.size ≤ b) h wr A R' ∧ Res h R' ∧ flats h R' = M) ∧ Below w.heap.size w wr)
    case atStart => exact ⟨A, n, c, rfl, rfl, hpos, hc, hm, HST, Below.refl _ _⟩
    case round =>
      obtain ⟨A2, k, c2, hgk, rfl, hk1, hkc, hk9, HS2, hbel⟩ := hrel
      have HB := Lib.hid hbel
      by_cases hlt : 1 < k
      · have t1 : (1 : Int) < (k : Int) := by omega
        have HIN : Hid (Calls Tryz.prog 107 #[.slice A2 k c2] wr fun r w' => ∃ A n c, r = .returned (.slice A n c) ∧ 1 ≤ n ∧ n < k ∧ n ≤ c ∧ Hid (∃ (h : Nat) (R' : List (Tr h)), n = R'.length ∧ NdsP (fun b => P b ∨ w.heap.size ≤ b) h w' A R' ∧ Res h R' ∧ flats h R' = M) ∧ Below wr.heap.size wr w') := Lib.hid (by
          obtain ⟨h, R', q1, q2, q3, q4⟩ := HS2.out
          refine (inners_any (fun b => P b ∨ w.heap.size ≤ b) R' A2 k c2 q1 (by omega) hkc wr q2).mono ?_
          rintro r w' ⟨A3, n3, c3, R3, rfl, hn3, hc3, hnd3, hcu, hbl3⟩
          obtain ⟨r1, r2⟩ := inners_res hcu q3
          have hl : n3 = cnt k := by rw [hn3, hcu.len, ← q1]
          refine ⟨A3, n3, c3, rfl, by rw [hl]; unfold cnt; omega, by rw [hl]; unfold cnt; omega, hc3, Lib.hid ⟨h + 1, R3, hn3, hnd3.mono (fun b hb _ => hb.elim id (fun h => .inr (Nat.le_trans hbel.size h))), r1, r2.trans q4⟩, hbl3⟩)
        clear hbel
        go_wp2_with fail
        refine HIN.out.mono ?_
        rintro r w3 ⟨A3, n3, c3, rfl, g1, g2, g3, HS3, hb3⟩
        have HB3 := Lib.hid (bkept HB.out hb3)
        clear hb3
        go_wp2
        go_roundg n3
        case measure => omega
        case rel => exact ⟨A3, n3, c3, rfl, rfl, g1, g3, by omega, HS3, HB3.out⟩
      · obtain rfl : k = 1 := by omega
        clear hgk
        obtain ⟨h, R', q1, q2, q3, q4⟩ := HS2.out
        obtain ⟨t, rfl⟩ := List.length_eq_one_iff.1 q1.symm
        obtain ⟨kb, ko, rfl, hkb, hcell⟩ := kid_at q2 (i := 0) (t := t) rfl
        rw [Nat.add_zero] at hcell
        have hw : Weak h t := q3.weak t List.mem_cons_self
        have hrt := q2.reps t List.mem_cons_self
        rw [flats_one] at q4
        have HX : Hid (∃ (h' : Nat) (t' : Tr h'), h' = h ∧ vl h t = vl h' t' ∧ RepP (fun b => P b ∨ w.heap.size ≤ b) h' wr t' ∧ Weak h' t' ∧ flat h' t' = M) := Lib.hid ⟨h, t, rfl, rfl, hrt, hw, q4⟩
        obtain ⟨v, hv⟩ : ∃ v, v = vl h t := ⟨_, rfl⟩
        rw [← hv] at hcell HX
        clear q1 q2 q3 q4 hw hrt hv hbel HS2
        go_wp2
        go_loopg [3] h (fun g s wq => wr = wq ∧ Hid (∃ (h' : Nat) (t' : Tr h'), h' = g ∧ s = vl h' t' ∧ RepP (fun b => P b ∨ w.heap.size ≤ b) h' wr t' ∧ Weak h' t' ∧ flat h' t' = M))
        case atStart => exact ⟨rfl, HX⟩
        case round =>
          clear HX
          obtain ⟨rfl, HY⟩ := hrel
          obtain ⟨h', t', rfl, rfl, hr', hw', hf'⟩ := HY.out
          cases h' with
          | zero =>
            have a1 := as_bi
            have HRT : Hid (Root (fun b => P b ∨ w.heap.size ≤ b) M wr (vl 0 t')) := Lib.hid (.inr ⟨0, t', rfl, hr', weak_top hw' (.inl rfl), hf'⟩)
            obtain ⟨B, hB⟩ : ∃ B, B = blk 0 t' := ⟨_, rfl⟩
            have e1 : vl 0 t' = .iface 156 (.pointer (some ⟨B, 0, none⟩)) := by rw [hB]; rfl
            rw [e1] at HRT ⊢
            clear hr' hw' hf' HY hB e1 hcell
            go_wp2
            go_ret
            exact ⟨_, rfl, HRT.out, HB.out⟩
          | succ h2 =>
            have a1 := as_ii
            have HRT : Hid (1 < size (h2 + 1) t' → Root (fun b => P b ∨ w.heap.size ≤ b) M wr (vl (h2 + 1) t')) := Lib.hid fun hs => .inr ⟨h2 + 1, t', rfl, hr', weak_top hw' (.inr hs), hf'⟩
            have hsz := size_any (h2 + 1) t' wr hr'.rep
            have hr0 := hr'
            obtain ⟨A4, c4, hc4, hP4, hB4, hX4, hK4⟩ := hr'
            have h8 := hw'.size_pos
            have hwk : size (h2 + 1) t' ≤ 1 → ∃ k, (nd t').xs = [k] ∧ Weak h2 k := weak_kid hw'
            have HW8 := Lib.hid hwk
            have HF8 := Lib.hid hf'
            have HX8 : Hid (NdsP (fun b => P b ∨ w.heap.size ≤ b) h2 wr A4 (nd t').xs) := Lib.hid ⟨hX4, hK4⟩
            obtain ⟨sz, hsz9⟩ : ∃ n, n = size (h2 + 1) t' := ⟨_, rfl⟩
            have hsz8 : sz = (nd t').xs.length := hsz9
            rw [← hsz9] at hsz HRT h8 HW8
            rw [← hsz8] at hB4
            obtain ⟨B, hB⟩ : ∃ B, B = blk (h2 + 1) t' := ⟨_, rfl⟩
            have e1 : vl (h2 + 1) t' = .iface 161 (.pointer (some ⟨B, 0, none⟩)) := by rw [hB]; rfl
            rw [← hB] at hsz
            rw [show (nd t').blk = B from hB.symm] at hB4
            rw [e1] at HRT ⊢
            have HSZ := Lib.hid hsz
            obtain ⟨_, k1⟩ := cells2t hB4
            have H8 := Lib.hid h8
            clear hr0 hsz hw' hf' HY hB e1 hcell hsz9 hP4 hB4 hX4 hK4 hc4 hwk hsz8 h8
            by_cases hs : 1 < sz
            · have s1 : (1 : Int) < (sz : Int) := by omega
              go_wp2_with fail
              refine HSZ.out.mono ?_
              rintro r w5 ⟨rfl, rfl⟩
              go_wp2
              go_ret
              exact ⟨_, rfl, HRT.out hs, HB.out⟩
            · have s1 : ¬ (1 : Int) < (sz : Int) := by omega
              obtain ⟨k, hk, hwk⟩ := HW8.out (by omega)
              have hX := HX8.out
              rw [hk] at hX
              obtain ⟨b5, o5, rfl, hb5, hc5⟩ := kid_at hX (i := 0) (t := k) rfl
              rw [Nat.add_zero] at hc5
              obtain rfl : sz = 1 := by have := H8.out; omega
              have HZ : Hid (∃ (h' : Nat) (t' : Tr h'), h' = h2 ∧ vl h2 k = vl h' t' ∧ RepP (fun b => P b ∨ w.heap.size ≤ b) h' wr t' ∧ Weak h' t' ∧ flat h' t' = M) := Lib.hid ⟨h2, k, rfl, rfl, hX.reps k List.mem_cons_self, hwk, by have := HF8.out; rw [flat_succ, hk, flats_one] at this; exact this⟩
              obtain ⟨v2, hv2⟩ : ∃ v, v = vl h2 k := ⟨_, rfl⟩
              rw [← hv2] at hc5 HZ
              clear hX hk hwk hv2 hs
              go_wp2_with fail
              refine HSZ.out.mono ?_
              rintro r w5 ⟨rfl, rfl⟩
              go_wp2
              go_roundg h2
              case measure => omega
              case rel => exact ⟨rfl, HZ⟩
end TR
end Go.Proofs.YtdjlflinepefbabGreat
