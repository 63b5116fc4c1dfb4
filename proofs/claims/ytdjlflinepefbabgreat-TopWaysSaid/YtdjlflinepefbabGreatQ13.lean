/- 2 texts laid together: each says at its head what it proves. No condition but those that each theorem names. -/
import Derived.Test.YtdjlflinepefbabGreatQ12
import Derived.Test.YtdjlflinepefbabGreatQ02

/- What tree.ahead answers: how many of a sorted list's extents begin ahead of a sector. No condition but those that each theorem names. -/
namespace Go.Proofs.YtdjlflinepefbabGreat
open Go.RowKit
namespace TR
open MM EX LF
set_option linter.unusedVariables false
set_option linter.unusedSimpArgs false

theorem nan_no (x : Int) (w : World) : Calls Tryz.prog 172 #[.int .i64 x] w fun e w' => e = .returned (.bool false) ∧ w = w' := by
  have h1 : (x != x) = false := by simp
  go_enter Tryz.func172, Tryz.ntmps172
  go_wp2
  go_ret
  exact ⟨rfl, rfl⟩
theorem cmp_lt (x y : Int) (h : x < y) (w : World) : Calls Tryz.prog 162 #[.int .i64 x, .int .i64 y] w fun e w' => e = .returned (.int .i64 (-1)) ∧ w = w' := by
  have H1 := Lib.hid (nan_no x)
  have H2 := Lib.hid (nan_no y)
  go_enter Tryz.func162, Tryz.ntmps162
  go_wp2_with fail
  refine (H1.out _).mono ?_
  rintro r w1 ⟨rfl, rfl⟩
  go_wp2_with fail
  refine (H2.out _).mono ?_
  rintro r w1 ⟨rfl, rfl⟩
  go_wp2
  go_ret
  exact ⟨rfl, rfl⟩
theorem cmp_gt (x y : Int) (h : y < x) (w : World) : Calls Tryz.prog 162 #[.int .i64 x, .int .i64 y] w fun e w' => e = .returned (.int .i64 (1)) ∧ w = w' := by
  have H1 := Lib.hid (nan_no x)
  have H2 := Lib.hid (nan_no y)
  have h1 : decide (x < y) = false := decide_eq_false (by omega)
  go_enter Tryz.func162, Tryz.ntmps162
  go_wp2_with fail
  refine (H1.out _).mono ?_
  rintro r w1 ⟨rfl, rfl⟩
  go_wp2_with fail
  refine (H2.out _).mono ?_
  rintro r w1 ⟨rfl, rfl⟩
  go_wp2
  go_ret
  exact ⟨rfl, rfl⟩
theorem cmp_eq (x y : Int) (h : x = y) (w : World) : Calls Tryz.prog 162 #[.int .i64 x, .int .i64 y] w fun e w' => e = .returned (.int .i64 (0)) ∧ w = w' := by
  have H1 := Lib.hid (nan_no x)
  have H2 := Lib.hid (nan_no y)
  subst h
  have h1 : decide (x < x) = false := decide_eq_false (by omega)
  go_enter Tryz.func162, Tryz.ntmps162
  go_wp2_with fail
  refine (H1.out _).mono ?_
  rintro r w1 ⟨rfl, rfl⟩
  go_wp2_with fail
  refine (H2.out _).mono ?_
  rintro r w1 ⟨rfl, rfl⟩
  go_wp2
  go_ret
  exact ⟨rfl, rfl⟩

/-- How many begin ahead of a sector. -/
def ahd (E : List Ext) (s : Int) : Nat := (E.filter fun e => decide (e.from_ < s)).length
theorem ahd_le (E : List Ext) (s : Int) : ahd E s ≤ E.length := List.length_filter_le _ _
/-- In a sorted list those stand in front. -/
theorem ahd_split : ∀ {E : List Ext}, WV E → ∀ s : Int, E.take (ahd E s) = E.filter (fun e => decide (e.from_ < s)) ∧ E.drop (ahd E s) = E.filter (fun e => decide (s ≤ e.from_)) := by
  intro E
  induction E with
  | nil => intro _ s; exact ⟨rfl, rfl⟩
  | cons e E ih =>
    intro hv s
    have hv' : WV E := hv.sub (List.sublist_cons_self _ _)
    obtain ⟨h1, h2⟩ := ih hv' s
    by_cases h : e.from_ < s
    · have e1 : ahd (e :: E) s = ahd E s + 1 := by unfold ahd; rw [List.filter_cons_of_pos (by simpa using h)]; rfl
      rw [e1, List.take_succ_cons, List.drop_succ_cons, h1, h2, List.filter_cons_of_pos (by simpa using h), List.filter_cons_of_neg (by simp; omega)]
      exact ⟨rfl, rfl⟩
    · have hall : ∀ x ∈ e :: E, ¬ x.from_ < s := fun x hx => by have := wv_head_le hv x hx; omega
      have e1 : (e :: E).filter (fun e => decide (e.from_ < s)) = [] := List.filter_eq_nil_iff.2 fun x hx => by simpa using hall x hx
      have e2 : ahd (e :: E) s = 0 := by unfold ahd; rw [e1]; rfl
      rw [e2, e1]
      exact ⟨rfl, (List.filter_eq_self.2 fun x hx => by have := hall x hx; simp; omega).symm⟩
theorem ahd_lt {E : List Ext} (hv : WV E) (s : Int) {i : Nat} {e : Ext} (he : E[i]? = some e) : e.from_ < s ↔ i < ahd E s := by
  obtain ⟨h1, h2⟩ := ahd_split hv s
  constructor
  · intro h
    rcases Nat.lt_or_ge i (ahd E s) with h3 | h3
    · exact h3
    · have hm : e ∈ E.drop (ahd E s) := List.mem_of_getElem? (i := i - ahd E s) (by rw [List.getElem?_drop, show ahd E s + (i - ahd E s) = i from by omega]; exact he)
      rw [h2] at hm
      have := (List.mem_filter.1 hm).2
      simp at this; omega
  · intro h
    have hm : e ∈ E.take (ahd E s) := List.mem_of_getElem? (i := i) (by rw [List.getElem?_take_of_lt h]; exact he)
    rw [h1] at hm
    have := (List.mem_filter.1 hm).2
    simpa using this
/-- The sign of a comparison. -/
def sgn (x y : Int) : Int := if x < y then -1 else if y < x then 1 else 0
theorem scmp_any (x y : Int) (w : World) : Calls Tryz.prog 162 #[.int .i64 x, .int .i64 y] w fun e w' => e = .returned (.int .i64 (sgn x y)) ∧ w = w' := by
  unfold sgn
  by_cases h : x < y
  · rw [if_pos h]; exact cmp_lt x y h w
  · rw [if_neg h]
    by_cases h2 : y < x
    · rw [if_pos h2]; exact cmp_gt x y h2 w
    · rw [if_neg h2]; exact cmp_eq x y (by omega) w
theorem ahead1_any (e : Ext) (s : Int) (w : World) : Calls Tryz.prog 161 #[.agg #[.int .i64 e.from_, .int .i64 e.n, .int .i64 e.kind, .int .i64 e.at_], .int .i64 s] w fun r w' => r = .returned (.int .i64 (sgn e.from_ s)) ∧ Below w.heap.size w w' := by
  obtain ⟨f, n, k, t⟩ := e
  have HC := Lib.hid (scmp_any f s)
  obtain ⟨g, hg⟩ : ∃ g, g = sgn f s := ⟨_, rfl⟩
  simp only
  rw [← hg] at HC ⊢
  clear hg
  have hb0 := Lib.hid (below_box w (.cells #[.int .i64 f, .int .i64 n, .int .i64 k, .int .i64 t] 41))
  go_enter Tryz.func161, Tryz.ntmps161
  go_wp2_with fail
  refine (HC.out _).mono ?_
  rintro r w1 ⟨rfl, rfl⟩
  go_wp2
  go_ret
  exact ⟨rfl, hb0.out⟩
def BsEnd (k : Nat) (w : World) (r : Ending) (w' : World) : Prop := ∃ f, r = .returned (.tuple #[.int .i64 (k : Nat), .bool f]) ∧ Below w.heap.size w w'
set_option maxRecDepth 100000 in
set_option maxHeartbeats 8000000 in
theorem bsearch_any (E : List Ext) (hv : WV E) (a : Option Addr) (n cap : Nat) (hn : n = E.length) (hm : n ≤ 1000000) (s : Int) (w : World) (hx : Exs w a E) :
    Calls Tryz.prog 160 #[.slice a n cap, .int .i64 s, .func (.func 161) #[] #[]] w (BsEnd (ahd E s) w) := by
  obtain ⟨k0, hk0⟩ : ∃ k, k = ahd E s := ⟨_, rfl⟩
  have hk0n : k0 ≤ n := by rw [hk0, hn]; exact ahd_le E s
  have HLT : Hid (∀ i e, E[i]? = some e → (e.from_ < s ↔ i < k0)) := Lib.hid fun i e he => by rw [hk0]; exact ahd_lt hv s he
  rw [← hk0]
  have HX := Lib.hid hx
  have HN := Lib.hid hn
  clear hk0 hv hx hn
  go_enter Tryz.func160, Tryz.ntmps160
  go_wp2
  go_loopw [9, 10] (fun x y wr => ∃ i j : Nat, x = .int .i64 i ∧ y = .int .i64 j ∧ i ≤ k0 ∧ k0 ≤ j ∧ j ≤ n ∧ Below w.heap.size w wr) (fun x y _ => (intOf y - intOf x).toNat)
  case atStart => exact ⟨0, n, rfl, rfl, Nat.zero_le _, hk0n, Nat.le_refl _, Below.refl _ _⟩
  case round =>
    obtain ⟨i, j, rfl, rfl, hik, hkj, hjn, hbel⟩ := hrel
    have HB := Lib.hid hbel
    by_cases hlt : i < j
    · have t1 : (i : Int) < (j : Int) := by omega
      obtain ⟨sm, hsm⟩ : ∃ x, x = i + j := ⟨_, rfl⟩
      have e1 : IntKind.i64.wrap ((i : Int) + (j : Int)) = (sm : Int) := by rw [IntWalk.i64_in _ (by omega)]; omega
      have e2 : IntKind.u64.wrap (sm : Int) = (sm : Int) := IntWalk.u64_in _ ⟨by omega, by omega⟩
      obtain ⟨h, hh⟩ : ∃ x, x = sm / 2 := ⟨_, rfl⟩
      have hh1 : i ≤ h := by omega
      have hh2 : h < j := by omega
      obtain ⟨e, he⟩ : ∃ e, E[h]? = some e := ⟨_, List.getElem?_eq_getElem (by rw [← HN.out]; omega)⟩
      have e3 : (sm : Int) / 2 = (h : Int) := by rw [hh]; omega
      obtain ⟨xb, xo, rfl, hxb, hxc⟩ : ∃ b off, a = some ⟨b, off, none⟩ ∧ b < w.heap.size ∧ ∀ (i : Nat) (e : Ext), E[i]? = some e → Cells4 w b (off + i * 4) e := by
        rcases HX.out with h0 | h0
        · rw [h0] at he; simp at he
        · exact h0
      obtain ⟨q0, q1, q2, q3⟩ := (hxc h e he).kept hbel hxb
      have HA := Lib.hid (ahead1_any e s wr)
      have hlk := HLT.out h e he
      have t2 : (0 : Int) ≤ (h : Int) := by omega
      have t3 : (h : Int) < (n : Int) := by omega
      obtain ⟨h1, hh3⟩ : ∃ x, x = h + 1 := ⟨_, rfl⟩
      have e4 : IntKind.i64.wrap ((h : Int) + 1) = (h1 : Int) := by rw [IntWalk.i64_in _ (by omega)]; omega
      by_cases hs : e.from_ < s
      · have hg : sgn e.from_ s = -1 := if_pos hs
        rw [hg] at HA
        have hk := hlk.1 hs
        have HH3 := Lib.hid hh3
        clear hsm hh hxc he hbel hlk hs hg hh3
        go_wp2_with fail
        refine HA.out.mono ?_
        rintro r w2 ⟨rfl, hb2⟩
        have HB2 := Lib.hid (bkept HB.out hb2)
        clear hb2
        go_wp2
        go_roundw
        case rel => exact ⟨h1, j, rfl, rfl, by have := HH3.out; omega, hkj, hjn, HB2.out⟩
        case measure => have := HH3.out; simp [intOf]; omega
      · have hg : ¬ (sgn e.from_ s < 0) := by unfold sgn; rw [if_neg hs]; split <;> omega
        obtain ⟨g, hgg⟩ : ∃ g, g = sgn e.from_ s := ⟨_, rfl⟩
        rw [← hgg] at HA hg
        have hk : k0 ≤ h := by
          rcases Nat.lt_or_ge h k0 with h9 | h9
          · exact absurd (hlk.2 h9) hs
          · exact h9
        clear hsm hh hxc he hbel hlk hs hgg hh3
        go_wp2_with fail
        refine HA.out.mono ?_
        rintro r w2 ⟨rfl, hb2⟩
        have HB2 := Lib.hid (bkept HB.out hb2)
        clear hb2
        go_wp2
        go_roundw
        case rel => exact ⟨i, h, rfl, rfl, hik, hk, by omega, HB2.out⟩
        case measure => simp [intOf]; omega
    · obtain rfl : i = k0 := by omega
      obtain rfl : j = i := by omega
      have t1 : ¬ (j : Int) < (j : Int) := by omega
      rcases Nat.lt_or_ge j n with hjn2 | hjn2
      · obtain ⟨e, he⟩ : ∃ e, E[j]? = some e := ⟨_, List.getElem?_eq_getElem (by rw [← HN.out]; omega)⟩
        obtain ⟨xb, xo, rfl, hxb, hxc⟩ : ∃ b off, a = some ⟨b, off, none⟩ ∧ b < w.heap.size ∧ ∀ (i : Nat) (e : Ext), E[i]? = some e → Cells4 w b (off + i * 4) e := by
          rcases HX.out with h0 | h0
          · rw [h0] at he; simp at he
          · exact h0
        obtain ⟨q0, q1, q2, q3⟩ := (hxc j e he).kept hbel hxb
        have HA := Lib.hid (ahead1_any e s wr)
        obtain ⟨g, hgg⟩ : ∃ g, g = sgn e.from_ s := ⟨_, rfl⟩
        rw [← hgg] at HA
        have t2 : (j : Int) < (n : Int) := by omega
        have t3 : (0 : Int) ≤ (j : Int) := by omega
        clear hxc he hbel hgg
        go_wp2_with fail
        refine HA.out.mono ?_
        rintro r w2 ⟨rfl, hb2⟩
        have HB2 := Lib.hid (bkept HB.out hb2)
        clear hb2
        go_wp2
        go_ret2
        exact ⟨_, rfl, HB2.out⟩
      · have t2 : decide ((j : Int) < (n : Int)) = false := decide_eq_false (by omega)
        clear hbel
        go_wp2
        go_ret2
        exact ⟨_, rfl, HB.out⟩
theorem ahead_any (E : List Ext) (hv : WV E) (a : Option Addr) (n cap : Nat) (hn : n = E.length) (hm : n ≤ 1000000) (s : Int) (w : World) (hx : Exs w a E) :
    Calls Tryz.prog 111 #[.slice a n cap, .int .i64 s] w fun r w' => r = .returned (.int .i64 (ahd E s : Nat)) ∧ Below w.heap.size w w' := by
  have HB := Lib.hid (bsearch_any E hv a n cap hn hm s w hx)
  obtain ⟨k, hk⟩ : ∃ k : Int, k = (ahd E s : Nat) := ⟨_, rfl⟩
  unfold BsEnd at HB
  rw [← hk] at HB ⊢
  clear hv hn hx hk
  go_enter Tryz.func111, Tryz.ntmps111
  go_wp2_with fail
  refine HB.out.mono ?_
  rintro r w1 ⟨f, rfl, hb1⟩
  go_wp2
  go_ret
  exact ⟨rfl, hb1⟩
end TR
end Go.Proofs.YtdjlflinepefbabGreat

/- How long lists are that were cut, laid over, clipped. No program. -/
namespace Go.Proofs.YtdjlflinepefbabGreat.EX
set_option linter.unusedVariables false

theorem push_len (l : List Ext) (e : Ext) : (push l e).length ≤ l.length + 1 := by
  rcases snoc_cases l with rfl | ⟨i, a, rfl⟩
  · simp [push_nil]
  · by_cases h : Tog a e
    · rw [push_tog _ _ _ h]; simp
    · rw [push_far _ _ _ h]; simp
theorem pushAll_len (es : List Ext) : ∀ l : List Ext, (pushAll l es).length ≤ l.length + es.length := by
  induction es with
  | nil => intro l; simp [pushAll]
  | cons e es ih =>
    intro l
    have h1 := ih (push l e)
    have h2 := push_len l e
    have e0 : pushAll l (e :: es) = pushAll (push l e) es := rfl
    rw [e0, List.length_cons]; omega
theorem clip1_len (e : Ext) (a b : Int) : (clip1 e a b).length ≤ 1 := by unfold clip1; split <;> simp
theorem clips_len (l : List Ext) (a b : Int) : (clips l a b).length ≤ l.length := by
  induction l with
  | nil => simp [clips]
  | cons e l ih => rw [clips_cons, List.length_append, List.length_cons]; have := clip1_len e a b; omega
theorem cut_short (l : List Ext) (f n : Int) : (cut l f n).length ≤ l.length + l.length := by
  unfold cut
  have h1 := pushAll_len (clips l (f + n) 16777216) (pushAll [] (clips l 0 f))
  have h2 := pushAll_len (clips l 0 f) []
  have h3 := clips_len l 0 f
  have h4 := clips_len l (f + n) 16777216
  simp at h2
  omega
theorem clip_short (l : List Ext) (f n : Int) : (clip l f n).length ≤ l.length := by
  unfold clip
  have h2 := pushAll_len (clips l f (f + n)) []
  have h3 := clips_len l f (f + n)
  simp at h2
  omega
theorem over_short (l : List Ext) (e : Ext) : (over l e).length ≤ l.length + l.length + 1 := by
  unfold over
  have h1 := pushAll_len (clips l (fin e) 16777216) (push (pushAll [] (clips l 0 e.from_)) e)
  have h5 := push_len (pushAll [] (clips l 0 e.from_)) e
  have h2 := pushAll_len (clips l 0 e.from_) []
  have h3 := clips_len l 0 e.from_
  have h4 := clips_len l (fin e) 16777216
  simp at h2
  omega
end Go.Proofs.YtdjlflinepefbabGreat.EX
