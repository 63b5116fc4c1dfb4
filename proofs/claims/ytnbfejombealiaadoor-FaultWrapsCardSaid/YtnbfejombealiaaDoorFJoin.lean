/- What fault.Join answers of a slice of at most 1,000 errors, nil ones among them: nil, or one error that holds those that are not nil, in their order. -/
import Derived.Test.YtnbfejombealiaaDoorFCode
import Derived.Test.YtnbfejombealiaaDoorMem
import Derived.WalkSpells
import Derived.Outline
import Derived.WalkLawsBesides
namespace Go.Proofs.YtnbfejombealiaaDoor
namespace ER
open Go.RowKit Go.Extern.Stop Go.Stop Go.Extern
open MM
set_option linter.unusedVariables false
set_option linter.unusedSimpArgs false

def notNil : Value → Bool
  | .nilIface => false
  | _ => true
/-- Those of the first n that are not nil. -/
def live (X : Nat → Value) (n : Nat) : List Value := ((List.range n).map X).filter notNil
theorem live_zero (X : Nat → Value) : live X 0 = [] := rfl
theorem live_yes (X : Nat → Value) (k : Nat) (h : notNil (X k) = true) : live X (k + 1) = live X k ++ [X k] := by
  simp [live, List.range_succ, List.filter_append, h]
theorem live_no (X : Nat → Value) (k : Nat) (h : notNil (X k) = false) : live X (k + 1) = live X k := by
  simp [live, List.range_succ, List.filter_append, h]
theorem live_le (X : Nat → Value) (k : Nat) : (live X k).length ≤ k := by
  have := List.length_filter_le notNil ((List.range k).map X)
  simpa [live] using this
theorem live_mono (X : Nat → Value) {k n : Nat} (h : k ≤ n) : (live X k).length ≤ (live X n).length := by
  induction n with
  | zero => have : k = 0 := by omega
            subst this; exact Nat.le_refl _
  | succ n ih =>
    by_cases hk : k = n + 1
    · subst hk; exact Nat.le_refl _
    · have h1 := ih (by omega)
      cases hn : notNil (X n) with
      | true => rw [live_yes X n hn, List.length_append]; omega
      | false => rw [live_no X n hn]; exact h1

/-- A slice of error values, each nil or one of some type. -/
def Errs (w : World) (a : Option Addr) (n : Nat) (X : Nat → Value) : Prop :=
  n = 0 ∨ ∃ b, a = some ⟨b, 0, none⟩ ∧ b < w.heap.size ∧ ∀ i, i < n → w.cell? ⟨b, i, none⟩ = some (X i) ∧ (X i = .nilIface ∨ ∃ t x, X i = .iface t x)
theorem Errs.kept {w w' : World} {a : Option Addr} {n : Nat} {X : Nat → Value} (h : Errs w a n X) (hb : Below w.heap.size w w') : Errs w' a n X := by
  rcases h with h | ⟨b, rfl, hlt, hc⟩
  · exact .inl h
  · exact .inr ⟨b, rfl, Nat.lt_of_lt_of_le hlt hb.size, fun i hi => by rw [hb.cell (p := ⟨b, i, none⟩) hlt]; exact hc i hi⟩

theorem info_error : (Tryd.prog.info? 26).map (fun i => (i.zero, i.size, i.bytes)) = some (some .nilIface, 1, 16) := by kernel_rfl

/-- How Join ends where something is not nil. -/
def Joined (w : World) (l : List Value) (e : Ending) (w' : World) : Prop :=
  ∃ b g c, e = .returned (.iface 80 (.pointer (some ⟨b, 0, none⟩))) ∧ w'.heap[b]? = some (.cells #[.slice (some ⟨g, 0, none⟩) l.length c] 82 (0, 0)) ∧ w.heap.size ≤ b ∧ w.heap.size ≤ g ∧ g < w'.heap.size ∧
    (∀ j u, l[j]? = some u → w'.cell? ⟨g, j, none⟩ = some u) ∧ Below w.heap.size w w'

set_option maxRecDepth 100000 in
set_option maxHeartbeats 4000000 in
theorem ejoin_none (a : Option Addr) (n c : Nat) (X : Nat → Value) (hn : n ≤ 1000) (w : World) (hr : Errs w a n X) (hl : live X n = []) :
    Calls Tryd.prog 27 #[.slice a n c] w fun e w' => e = .returned .nilIface ∧ w = w' := by
  have HL := Lib.hid hl
  have HR := Lib.hid hr
  clear hl hr
  go_enter Tryd.func27, Tryd.ntmps27
  go_wp2
  go_loop [3, 11] (fun s i => ∃ k : Nat, k ≤ n ∧ i = .int .i64 k ∧ s = .int .i64 0) (fun _ i => n - (intOf i).toNat)
  case atStart => exact ⟨0, Nat.zero_le _, rfl, rfl⟩
  case round =>
    obtain ⟨k, hk, rfl, rfl⟩ := hrel
    by_cases hlt : k < n
    · rcases HR.out with h0 | ⟨b, rfl, hb, hc⟩
      · omega
      · obtain ⟨hck, hX⟩ := hc k hlt
        have hx : X k = .nilIface := by
          rcases hX with h | ⟨t, x, h⟩
          · exact h
          · exfalso
            have h1 := live_yes X k (by rw [h]; rfl)
            have h2 := live_mono X (show k + 1 ≤ n from hlt)
            rw [h1, HL.out] at h2
            simp at h2
        rw [hx] at hck
        clear hc hX hx
        go_wp2
        go_round
        case rel => exact ⟨k + 1, by omega, by go_num, rfl⟩
        case measure => simp [intOf]; omega
    · go_wp2
      go_ret
      exact ⟨rfl, rfl⟩

set_option maxRecDepth 100000 in
set_option maxHeartbeats 4000000 in
theorem ejoin_some (a : Option Addr) (n c : Nat) (X : Nat → Value) (hn : n ≤ 1000) (w : World) (hr : Errs w a n X) (hl : live X n ≠ []) :
    Calls Tryd.prog 27 #[.slice a n c] w (Joined w (live X n)) := by
  obtain ⟨i0, hi, hz0, hz1, hz2⟩ := info_parts info_error
  have hpos : 0 < (live X n).length := List.length_pos_iff.2 hl
  have hle := live_le X n
  have HR := Lib.hid hr
  clear hl hr
  obtain ⟨m, hm⟩ : ∃ m, m = (live X n).length := ⟨_, rfl⟩
  rw [← hm] at hpos hle
  have HM := Lib.hid hm
  clear hm
  go_enter Tryd.func27, Tryd.ntmps27
  go_wp2
  go_loop [3, 11] (fun s i => ∃ k q : Nat, k ≤ n ∧ i = .int .i64 k ∧ s = .int .i64 q ∧ q ≤ k ∧ Hid (q = (live X k).length)) (fun _ i => n - (intOf i).toNat)
  case atStart => exact ⟨0, 0, Nat.zero_le _, rfl, rfl, Nat.zero_le _, rfl⟩
  case round =>
    obtain ⟨k, q, hk, rfl, rfl, hqk, hq⟩ := hrel
    by_cases hlt : k < n
    · rcases HR.out with h0 | ⟨b, rfl, hb, hc⟩
      · omega
      · obtain ⟨hck, hX⟩ := hc k hlt
        clear hc
        rcases hX with h | ⟨t, x, h⟩
        · rw [h] at hck
          have HQ : Hid (q = (live X (k + 1)).length) := by show _ = _; rw [live_no X k (by rw [h]; rfl)]; exact hq.out
          clear h
          go_wp2
          go_round
          case rel => exact ⟨k + 1, q, by omega, by go_num, rfl, by omega, HQ⟩
          case measure => simp [intOf]; omega
        · rw [h] at hck
          have HQ : Hid (q + 1 = (live X (k + 1)).length) := by show _ = _; rw [live_yes X k (by rw [h]; rfl), List.length_append]; rw [hq.out]; rfl
          clear h
          go_wp2
          go_round
          case rel => exact ⟨k + 1, q + 1, by omega, by go_num, by go_num, by omega, HQ⟩
          case measure => simp [intOf]; omega
    · obtain rfl : k = n := by omega
      obtain rfl : q = m := by rw [hq.out, HM.out]
      have hq0 : ((q : Int) == 0) = false := by simp; omega
      clear hlt hk hq
      go_wp2_with (at_make; refine wpList_make_own _ rfl _ _ 47 rfl w.heap.size 26 i0 .nilIface 1 Tryd.underlying47 hi hz0 hz1 _ _ _ q rfl rfl rfl ?c1 ?c2 ?c3 ?_)
      case c1 => omega
      case c2 => unfold maxLen; omega
      intro w1 hown1 hg1
      have hb1 : Below w.heap.size w w1 := (Below.refl _ _).grown hg1 (Nat.le_refl _) (fun j hj => by cases hj)
      have hs1 := hb1.size
      have HB1 := Lib.hid hb1
      have HO1 := Lib.hid hown1
      clear hown1 hg1 hb1
      go_wp2
      go_loopw [28] (fun i wx => ∃ (j g cp : Nat), j ≤ k ∧ i = .int .i64 j ∧ Blk wx w1.heap.size 82 #[.slice (some ⟨g, 0, none⟩) (live X j).length cp] ∧ wx.ownsRow w.heap.size 26 1 (.slice (some ⟨g, 0, none⟩) (live X j).length cp) (live X j).length (live X j) ∧ Below w.heap.size w wx) (fun i _ => k - (intOf i).toNat)
      case atStart => exact ⟨0, w.heap.size, q, Nat.zero_le _, rfl, Blk.new _ _ _, HO1.out.alloc _, HB1.out.alloc hs1 _⟩
      case round =>
        obtain ⟨j, g, cp, hj, rfl, hblk, hown, hbl⟩ := hrel
        obtain ⟨wx, rfl⟩ : ∃ wx : World, wx = wr := ⟨_, rfl⟩
        have hcj := hblk.cell 0
        have hc0 : wx.cell? ⟨w1.heap.size, 0, none⟩ = some (.slice (some ⟨g, 0, none⟩) (live X j).length cp) := hcj
        have hlej := live_le X j
        have hszx := hbl.size
        have HBLK := Lib.hid hblk
        have HOWN := Lib.hid hown
        have HBL := Lib.hid hbl
        clear hcj hblk hown
        by_cases hlt : j < k
        · rcases HR.out with h0 | ⟨b, rfl, hb, hc⟩
          · omega
          · obtain ⟨hck, hX⟩ := hc j hlt
            have hck' : wx.cell? ⟨b, j, none⟩ = some (X j) := by rw [hbl.cell (p := ⟨b, j, none⟩) hb]; exact hck
            clear hc hck hbl
            rcases hX with h | ⟨t, x, h⟩
            · rw [h] at hck'
              have HQ : Hid (live X (j + 1) = live X j) := live_no X j (by rw [h]; rfl)
              clear h
              go_wp2
              go_roundw
              case rel => exact ⟨j + 1, g, cp, by omega, by go_num, by rw [HQ.out]; exact HBLK.out, by rw [HQ.out]; exact HOWN.out, HBL.out⟩
              case measure => simp [intOf]; omega
            · have HQ : Hid (live X (j + 1) = live X j ++ [.iface t x]) := by show _ = _; rw [live_yes X j (by rw [h]; rfl), h]
              rw [h] at hck'
              clear h
              obtain ⟨L, hL⟩ : ∃ L, L = (live X j).length := ⟨_, rfl⟩
              rw [← hL] at HOWN HBLK hc0 hlej
              have HL := Lib.hid hL
              clear hL
              have hfz := HBLK.out.frozen 0
              go_wp2_with (at_builtin; refine wpList_append_own _ rfl _ _ 47 rfl w.heap.size 26 i0 .nilIface 1 16 Tryd.underlying47 hi hz0 hz1 hz2 rfl (by decide) _ _ _ rfl (HOWN.out.alloc _) ⟨wx.heap.size, 0, none⟩ 1 1 [.iface t x] rfl rfl ?d1 ?d2 ?d3 ?d4 ?d5 ?_)
              case d1 => exact new_cells _ #[_] _
              case d2 => intro u hu; simp at hu; subst hu; rfl
              case d3 => unfold maxLen; omega
              case d4 => omega
              case d5 => simp; omega
              intro v' w3 hown' hgrow hnil
              obtain ⟨g', cp', hv', hlt'⟩ : ∃ g' cp', v' = .slice (some ⟨g', 0, none⟩) (L + 1) cp' ∧ g' < w3.heap.size := by
                obtain ⟨g', cp', hv', _, hlt'⟩ := own_form hown' (by omega)
                exact ⟨g', cp', hv', hlt'⟩
              rw [hv'] at hown' ⊢
              have hne : Value.ownBlock (.slice (some ⟨g, 0, none⟩) L cp) ≠ some w1.heap.size := own_ne HOWN.out HBLK.out (by decide)
              have hblk3 : Blk w3 w1.heap.size 82 #[.slice (some ⟨g, 0, none⟩) L cp] := (HBLK.out.alloc _).grown hgrow (fun e => hne e.symm)
              have hc3 : w3.cell? ⟨w1.heap.size, 0, none⟩ = some (.slice (some ⟨g, 0, none⟩) L cp) := hblk3.cell 0
              have hf3 := hblk3.frozen 0
              have hne3 : Value.ownBlock (.slice (some ⟨g', 0, none⟩) (L + 1) cp') ≠ some w1.heap.size := own_ne hown' hblk3 (by decide)
              have hbl3 : Below w.heap.size w w3 := (HBL.out.alloc (by omega) _).grown hgrow (by simp; omega) (fun j hj => (HOWN.out.lt j hj).1)
              have hLL : (live X (j + 1)).length = L + 1 := by rw [HQ.out, List.length_append, ← HL.out]; rfl
              have HFIN : Hid (Blk (w3.setCell ⟨w1.heap.size, 0, none⟩ (.slice (some ⟨g', 0, none⟩) (L + 1) cp')) w1.heap.size 82 #[.slice (some ⟨g', 0, none⟩) (live X (j + 1)).length cp'] ∧ (w3.setCell ⟨w1.heap.size, 0, none⟩ (.slice (some ⟨g', 0, none⟩) (L + 1) cp')).ownsRow w.heap.size 26 1 (.slice (some ⟨g', 0, none⟩) (live X (j + 1)).length cp') (live X (j + 1)).length (live X (j + 1)) ∧ Below w.heap.size w (w3.setCell ⟨w1.heap.size, 0, none⟩ (.slice (some ⟨g', 0, none⟩) (L + 1) cp'))) := by
                rw [hLL, HQ.out]
                exact ⟨hblk3.one _, own_far hown' hne3 _, hbl3.setCell (p := ⟨w1.heap.size, 0, none⟩) hs1 _⟩
              clear hown' hgrow hnil hne hblk3 hne3 hbl3 hLL hv'
              go_wp2
              go_roundw
              case rel => exact ⟨j + 1, g', cp', by omega, by go_num, HFIN.out.1, HFIN.out.2.1, HFIN.out.2.2⟩
              case measure => simp [intOf]; omega
        · obtain rfl : j = k := by omega
          have hgl : g < wx.heap.size := (HOWN.out.lt g rfl).2
          have hgb : w.heap.size ≤ g := (HOWN.out.lt g rfl).1
          clear hbl
          go_wp2
          go_ret
          exact ⟨w1.heap.size, g, cp, rfl, HBLK.out, hs1, hgb, hgl, own_cells HOWN.out, HBL.out⟩

theorem join_none (a : Option Addr) (n c : Nat) (X : Nat → Value) (hn : n ≤ 1000) (w : World) (hr : Errs w a n X) (hl : live X n = []) :
    Calls Tryd.prog 19 #[.slice a n c] w fun e w' => e = .returned .nilIface ∧ w = w' := by
  have H := Lib.hid (ejoin_none a n c X hn w hr hl)
  clear hr hl
  go_enter Tryd.func19, Tryd.ntmps19
  go_wp2_with fail
  refine H.out.mono ?_
  rintro e w1 ⟨rfl, rfl⟩
  go_wp2
  go_ret
  exact ⟨rfl, rfl⟩
theorem join_some (a : Option Addr) (n c : Nat) (X : Nat → Value) (hn : n ≤ 1000) (w : World) (hr : Errs w a n X) (hl : live X n ≠ []) :
    Calls Tryd.prog 19 #[.slice a n c] w (Joined w (live X n)) := by
  have H := Lib.hid (ejoin_some a n c X hn w hr hl)
  clear hr hl
  obtain ⟨l, hL⟩ : ∃ l, l = live X n := ⟨_, rfl⟩
  rw [← hL] at H ⊢
  clear hL
  go_enter Tryd.func19, Tryd.ntmps19
  go_wp2_with fail
  refine H.out.mono ?_
  rintro e w1 ⟨b, g, cp, rfl, h1, h2, h3, h4, h5, h6⟩
  have HJ : Hid (w1.heap[b]? = some (.cells #[.slice (some ⟨g, 0, none⟩) l.length cp] 82 (0, 0)) ∧ w.heap.size ≤ b ∧ w.heap.size ≤ g ∧ g < w1.heap.size ∧ (∀ j u, l[j]? = some u → w1.cell? ⟨g, j, none⟩ = some u) ∧ Below w.heap.size w w1) := ⟨h1, h2, h3, h4, h5, h6⟩
  clear h1 h2 h3 h4 h5 h6
  go_wp2
  go_ret
  exact ⟨b, g, cp, rfl, HJ.out⟩
/-- What Join makes is an error that has inside what was joined. -/
theorem joined_err {w w' : World} {l : List Value} {e : Ending} (h : Joined w l e w') (K : Nat → Er) (hl : l.length ≤ 1000) (hk : ∀ j u, l[j]? = some u → IsErr w w.heap.size (K j) u) :
    ∃ t x, e = .returned (.iface t x) ∧ IsErr w' w'.heap.size (.join l.length K) (.iface t x) ∧ Below w.heap.size w w' := by
  obtain ⟨b, g, c, rfl, hb, h1, h2, h3, h4, h5⟩ := h
  refine ⟨_, _, rfl, ⟨b, g, c, rfl, Blk.lt hb, hb, h3, hl, fun i hi => ?_⟩, h5⟩
  have hu : l[i]? = some l[i] := List.getElem?_eq_getElem hi
  exact ⟨l[i], h4 i _ hu, ((hk i _ hu).below h5).more h5.size⟩
end ER
end Go.Proofs.YtnbfejombealiaaDoor
