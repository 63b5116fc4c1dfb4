/- 2 texts laid together: each says at its head what it proves. No condition but those that each theorem names. -/
import Derived.Test.YtdjlflinepefbabGreatQ28
import Derived.Test.YtdjlflinepefbabGreatQ11

/- What package ext's has and Find answer, of a list of extents that may be. No condition but those that each theorem names. -/
namespace Go.Proofs.YtdjlflinepefbabGreat
open Go.RowKit
namespace EX
open MM
set_option linter.unusedVariables false
set_option linter.unusedSimpArgs false

/-- Has an extent a sector? -/
def Has (e : Ext) (s : Int) : Prop := e.from_ ≤ s ∧ s < fin e
instance (e : Ext) (s : Int) : Decidable (Has e s) := by unfold Has; infer_instance
theorem say_first : ∀ {l : List Ext} {j : Nat} {e : Ext} {s : Int}, l[j]? = some e → Has e s → (∀ (i : Nat) (x : Ext), i < j → l[i]? = some x → ¬ Has x s) → say l s = (e.kind, page e s)
  | [], j, e, s, h, _, _ => by simp at h
  | a :: l, 0, e, s, h, h1, _ => by
    have ha : a = e := by simpa using h
    subst ha
    rw [say, if_pos (show a.from_ ≤ s ∧ s < fin a from h1)]
  | a :: l, j + 1, e, s, h, h1, h2 => by
    have h0 := h2 0 a (by omega) rfl
    rw [say, if_neg (show ¬ (a.from_ ≤ s ∧ s < fin a) from h0)]
    exact say_first (l := l) (j := j) (by simpa using h) h1 fun i x hi hx => h2 (i + 1) x (by omega) (by simpa using hx)
theorem say_never {l : List Ext} {s : Int} (h : ∀ (i : Nat) (x : Ext), i < l.length → l[i]? = some x → ¬ Has x s) : say l s = (0, 0) := by
  refine say_none fun e he => ?_
  obtain ⟨i, hi, hx⟩ := List.getElem_of_mem he
  exact h i e hi (by rw [List.getElem?_eq_getElem hi, hx])

set_option maxHeartbeats 1000000 in
theorem has_yes (e : Ext) (s : Int) (ho : One e) (h : Has e s) (w : World) : Calls Tryz.prog 75 #[.agg #[.int .i64 e.from_, .int .i64 e.n, .int .i64 e.kind, .int .i64 e.at_], .int .i64 s] w fun r w' => r = .returned (.bool true) ∧ Below w.heap.size w w' := by
  have := ho.low; have := ho.high; have := ho.pos
  have HE := Lib.hid (fun w => end_any e.from_ e.n e.kind e.at_ (by omega) (by unfold fin at *; omega) (by omega) (by unfold fin at *; omega) w)
  obtain ⟨h1, h2⟩ := h
  have h2' : s < e.from_ + e.n := h2
  clear h2
  go_enter Tryz.func75, Tryz.ntmps75
  go_wp2_with fail
  refine (HE.out _).mono ?_
  rintro r w1 ⟨rfl, hb1⟩
  have HB := Lib.hid (below_kept (below_box w _) hb1)
  clear hb1
  go_wp2
  go_ret
  exact ⟨rfl, HB.out⟩
set_option maxHeartbeats 1000000 in
theorem has_no (e : Ext) (s : Int) (ho : One e) (h : ¬ Has e s) (w : World) : Calls Tryz.prog 75 #[.agg #[.int .i64 e.from_, .int .i64 e.n, .int .i64 e.kind, .int .i64 e.at_], .int .i64 s] w fun r w' => r = .returned (.bool false) ∧ Below w.heap.size w w' := by
  have := ho.low; have := ho.high; have := ho.pos
  have HE := Lib.hid (fun w => end_any e.from_ e.n e.kind e.at_ (by omega) (by unfold fin at *; omega) (by omega) (by unfold fin at *; omega) w)
  by_cases h1 : e.from_ ≤ s
  · have h2 : ¬ s < e.from_ + e.n := fun h2 => h ⟨h1, h2⟩
    have h2' : decide (s < e.from_ + e.n) = false := decide_eq_false h2
    clear h
    go_enter Tryz.func75, Tryz.ntmps75
    go_wp2_with fail
    refine (HE.out _).mono ?_
    rintro r w1 ⟨rfl, hb1⟩
    have HB := Lib.hid (below_kept (below_box w _) hb1)
    clear hb1
    go_wp2
    go_ret
    exact ⟨rfl, HB.out⟩
  · have h1' : decide (e.from_ ≤ s) = false := decide_eq_false h1
    clear h
    go_enter Tryz.func75, Tryz.ntmps75
    go_wp2
    go_ret
    exact ⟨rfl, below_box _ _⟩
set_option maxHeartbeats 1000000 in
theorem found_any (e : Ext) (s : Int) (X : Nat) (v : Bool) (ho : One e) (HH : Hid (∀ w, Calls Tryz.prog 75 #[.agg #[.int .i64 e.from_, .int .i64 e.n, .int .i64 e.kind, .int .i64 e.at_], .int .i64 s] w fun r w' => r = .returned (.bool v) ∧ Below w.heap.size w w')) (w : World) (hX : X < w.heap.size) (hs : w.cell? ⟨X, 0, none⟩ = some (.int .i64 s)) :
    Calls Tryz.prog 74 #[.agg #[.int .i64 e.from_, .int .i64 e.n, .int .i64 e.kind, .int .i64 e.at_], .pointer (some ⟨X, 0, none⟩)] w fun r w' => r = .returned (.bool v) ∧ Below w.heap.size w w' := by
  have HO := Lib.hid (one_any e ho.wf)
  rw [decide_eq_true ho] at HO
  obtain ⟨W, hW⟩ : ∃ W, W = w.alloc (.cells #[.int .i64 e.from_, .int .i64 e.n, .int .i64 e.kind, .int .i64 e.at_] 41) := ⟨_, rfl⟩
  have k1 : Blk W w.heap.size 41 #[.int .i64 e.from_, .int .i64 e.n, .int .i64 e.kind, .int .i64 e.at_] := by rw [hW]; exact Blk.new w _ _
  have hb0 : Below w.heap.size w W := by rw [hW]; exact below_box w _
  have K1 := Lib.hid k1
  have HB0 := Lib.hid hb0
  have HW := Lib.hid hW
  have HS : Hid (∀ w1, Below w.heap.size w w1 → w1.cell? ⟨X, 0, none⟩ = some (.int .i64 s)) := Lib.hid fun w1 h1 => (h1.cell (p := ⟨X, 0, none⟩) hX).trans hs
  clear hW k1 hb0 ho hs hX
  go_enter Tryz.func74, Tryz.ntmps74
  go_wp2_with fail
  rw [← HW.out]
  refine (HO.out _).mono ?_
  rintro r w1 ⟨rfl, hb1⟩
  have k2 := K1.out.below hb1 K1.out.lt
  obtain ⟨⟨a0, a1, a2, a3⟩, _⟩ := cells4 k2
  have hb01 := below_kept HB0.out hb1
  have s1 := HS.out _ hb01
  have HB := Lib.hid hb01
  clear hb1 k2 hb01
  go_wp2_with fail
  refine (HH.out _).mono ?_
  rintro r w2 ⟨rfl, hb2⟩
  have HB2 := Lib.hid (below_kept HB.out hb2)
  clear hb2
  go_wp2
  go_ret
  exact ⟨rfl, HB2.out⟩
theorem found_say (e : Ext) (s : Int) (X : Nat) (ho : One e) (w : World) (hX : X < w.heap.size) (hs : w.cell? ⟨X, 0, none⟩ = some (.int .i64 s)) :
    Calls Tryz.prog 74 #[.agg #[.int .i64 e.from_, .int .i64 e.n, .int .i64 e.kind, .int .i64 e.at_], .pointer (some ⟨X, 0, none⟩)] w fun r w' => r = .returned (.bool (decide (Has e s))) ∧ Below w.heap.size w w' := by
  by_cases h : Has e s
  · rw [decide_eq_true h]; exact found_any e s X true ho (Lib.hid (has_yes e s ho h)) w hX hs
  · rw [decide_eq_false h]; exact found_any e s X false ho (Lib.hid (has_no e s ho h)) w hX hs

set_option maxHeartbeats 2000000 in
theorem index_none (L : List Ext) (len cap : Nat) (hlen : len = L.length) (hm : len ≤ 4611686018427387904) (a : Option Addr) (s : Int) (X : Nat) (hno : ∀ (i : Nat) (x : Ext), i < len → L[i]? = some x → ¬ Has x s) (w : World) (hr : Exs w a L) (hO : ∀ e ∈ L, One e) (hX : X < w.heap.size) (hs : w.cell? ⟨X, 0, none⟩ = some (.int .i64 s)) :
    Calls Tryz.prog 73 #[.slice a len cap, .func (.func 74) #[] #[.pointer (some ⟨X, 0, none⟩)]] w fun r w' => r = .returned (.int .i64 (-1)) ∧ Below w.heap.size w w' := by
  have HR := Lib.hid hr
  have HO := Lib.hid hO
  have HL := Lib.hid hlen
  have HN := Lib.hid hno
  have HS := Lib.hid hs
  have HXX := Lib.hid hX
  clear hr hO hlen hno hs hX
  go_enter Tryz.func73, Tryz.ntmps73
  go_wp2
  go_loopw [8] (fun i wr => ∃ k : Nat, k ≤ len ∧ i = .int .i64 k ∧ Below w.heap.size w wr) (fun i _ => len - (intOf i).toNat)
  case atStart => exact ⟨0, Nat.zero_le _, rfl, Below.refl _ _⟩
  case round =>
    obtain ⟨k, hk, rfl, hbel⟩ := hrel
    by_cases hlt : k < len
    · obtain ⟨e, he⟩ : ∃ e, L[k]? = some e := ⟨_, List.getElem?_eq_getElem (by rw [← HL.out]; omega)⟩
      rcases HR.out with h0 | ⟨b, off, rfl, hb, hc⟩
      · rw [h0] at he; simp at he
      · obtain ⟨q0, q1, q2, q3⟩ := (hc k e he).kept hbel hb
        have ho := HO.out e (List.mem_of_getElem? he)
        have HF := Lib.hid (found_say e s X ho wr (Nat.lt_of_lt_of_le HXX.out hbel.size) ((hbel.cell (p := ⟨X, 0, none⟩) HXX.out).trans HS.out))
        rw [decide_eq_false (HN.out k e hlt he)] at HF
        have HB := Lib.hid hbel
        have t1 : (k : Int) < (len : Int) := by omega
        have t2 : (0 : Int) ≤ (k : Int) := by omega
        clear hc ho hbel he
        go_wp2_with fail
        refine HF.out.mono ?_
        rintro r w1 ⟨rfl, hb1⟩
        have HB1 := Lib.hid (below_kept HB.out hb1)
        clear hb1 HF
        go_wp2
        go_roundw
        case rel => exact ⟨k + 1, by omega, by go_num, HB1.out⟩
        case measure => simp [intOf]; omega
    · obtain rfl : k = len := by omega
      have i0 : ¬ (k : Int) < (k : Int) := by omega
      go_wp2
      go_ret
      exact ⟨rfl, hbel⟩

set_option maxHeartbeats 2000000 in
theorem index_some (L : List Ext) (len cap : Nat) (hlen : len = L.length) (hm : len ≤ 4611686018427387904) (a : Option Addr) (s : Int) (X : Nat) (j : Nat) (hj : j < len) (x0 : Ext) (hno : (∀ (i : Nat) (x : Ext), i < j → L[i]? = some x → ¬ Has x s) ∧ L[j]? = some x0 ∧ Has x0 s) (w : World) (hr : Exs w a L) (hO : ∀ e ∈ L, One e) (hX : X < w.heap.size) (hs : w.cell? ⟨X, 0, none⟩ = some (.int .i64 s)) :
    Calls Tryz.prog 73 #[.slice a len cap, .func (.func 74) #[] #[.pointer (some ⟨X, 0, none⟩)]] w fun r w' => r = .returned (.int .i64 (j : Int)) ∧ Below w.heap.size w w' := by
  have HR := Lib.hid hr
  have HO := Lib.hid hO
  have HL := Lib.hid hlen
  have HN := Lib.hid hno
  have HS := Lib.hid hs
  have HXX := Lib.hid hX
  clear hr hO hlen hno hs hX
  go_enter Tryz.func73, Tryz.ntmps73
  go_wp2
  go_loopw [8] (fun i wr => ∃ k : Nat, k ≤ j ∧ i = .int .i64 k ∧ Below w.heap.size w wr) (fun i _ => len - (intOf i).toNat)
  case atStart => exact ⟨0, Nat.zero_le _, rfl, Below.refl _ _⟩
  case round =>
    obtain ⟨k, hk, rfl, hbel⟩ := hrel
    by_cases hlt : k < j
    · obtain ⟨e, he⟩ : ∃ e, L[k]? = some e := ⟨_, List.getElem?_eq_getElem (by rw [← HL.out]; omega)⟩
      rcases HR.out with h0 | ⟨b, off, rfl, hb, hc⟩
      · rw [h0] at he; simp at he
      · obtain ⟨q0, q1, q2, q3⟩ := (hc k e he).kept hbel hb
        have ho := HO.out e (List.mem_of_getElem? he)
        have HF := Lib.hid (found_say e s X ho wr (Nat.lt_of_lt_of_le HXX.out hbel.size) ((hbel.cell (p := ⟨X, 0, none⟩) HXX.out).trans HS.out))
        rw [decide_eq_false (HN.out.1 k e hlt he)] at HF
        have HB := Lib.hid hbel
        have t1 : (k : Int) < (len : Int) := by omega
        have t2 : (0 : Int) ≤ (k : Int) := by omega
        clear hc ho hbel he
        go_wp2_with fail
        refine HF.out.mono ?_
        rintro r w1 ⟨rfl, hb1⟩
        have HB1 := Lib.hid (below_kept HB.out hb1)
        clear hb1 HF
        go_wp2
        go_roundw
        case rel => exact ⟨k + 1, by omega, by go_num, HB1.out⟩
        case measure => simp [intOf]; omega
    · obtain rfl : k = j := by omega
      obtain ⟨e, he⟩ : ∃ e, L[k]? = some e := ⟨_, List.getElem?_eq_getElem (by rw [← HL.out]; omega)⟩
      rcases HR.out with h0 | ⟨b, off, rfl, hb, hc⟩
      · rw [h0] at he; simp at he
      · obtain ⟨q0, q1, q2, q3⟩ := (hc k e he).kept hbel hb
        have ho := HO.out e (List.mem_of_getElem? he)
        have HF := Lib.hid (found_say e s X ho wr (Nat.lt_of_lt_of_le HXX.out hbel.size) ((hbel.cell (p := ⟨X, 0, none⟩) HXX.out).trans HS.out))
        rw [decide_eq_true (by have := HN.out.2; rw [he] at this; injection this.1 with e2; rw [e2]; exact this.2)] at HF
        have HB := Lib.hid hbel
        have t1 : (k : Int) < (len : Int) := by omega
        have t2 : (0 : Int) ≤ (k : Int) := by omega
        clear hc ho hbel he
        go_wp2_with fail
        refine HF.out.mono ?_
        rintro r w1 ⟨rfl, hb1⟩
        have HB1 := Lib.hid (below_kept HB.out hb1)
        clear hb1 HF
        go_wp2
        go_ret
        exact ⟨rfl, HB1.out⟩

/-- What Find has beside its list. -/
structure Fd (w : World) (s : Int) (w' : World) : Prop where
  box : Blk w' w.heap.size 3 #[.int .i64 s]
  bel : Below w.heap.size w w'
theorem Fd.below {w : World} {s : Int} {w1 w2 : World} (h : Fd w s w1) (hb : Below w1.heap.size w1 w2) : Fd w s w2 := ⟨h.box.below hb h.box.lt, h.bel.trans (hb.mono (Nat.le_of_lt h.box.lt))⟩
set_option maxHeartbeats 2000000 in
theorem find_none (L : List Ext) (len cap : Nat) (hlen : len = L.length) (hm : len ≤ 4611686018427387904) (a : Option Addr) (s : Int) (hno : ∀ (i : Nat) (x : Ext), i < len → L[i]? = some x → ¬ Has x s) (w : World) (hr : Exs w a L) (hO : ∀ e ∈ L, One e) :
    Calls Tryz.prog 35 #[.slice a len cap, .int .i64 s] w fun r w' => r = .returned (.tuple #[.int .i64 0, .int .i64 0]) ∧ Below w.heap.size w w' := by
  have hb0 : Below w.heap.size w (w.alloc (.cells #[.int .i64 s] 3)) := below_box w _
  have HI := Lib.hid (index_none L len cap hlen hm a s w.heap.size hno (w.alloc (.cells #[.int .i64 s] 3)) (hr.below hb0) hO (Blk.new w _ _).lt ((Blk.new w _ _).cell 0))
  clear hr hO hno hlen hb0
  go_enter Tryz.func35, Tryz.ntmps35
  go_wp2_with fail
  refine HI.out.mono ?_
  rintro r w1 ⟨rfl, hb1⟩
  have HB := Lib.hid (below_kept (below_box w _) hb1)
  clear hb1 HI
  go_wp2
  go_ret2
  exact ⟨rfl, HB.out⟩
set_option maxHeartbeats 4000000 in
theorem find_some (L : List Ext) (len cap : Nat) (hlen : len = L.length) (hm : len ≤ 4611686018427387904) (a : Option Addr) (s : Int) (j : Nat) (hj : j < len) (e : Ext) (hno : (∀ (i : Nat) (x : Ext), i < j → L[i]? = some x → ¬ Has x s) ∧ L[j]? = some e ∧ Has e s) (w : World) (hr : Exs w a L) (hO : ∀ e ∈ L, One e) :
    Calls Tryz.prog 35 #[.slice a len cap, .int .i64 s] w fun r w' => r = .returned (.tuple #[.int .i64 e.kind, .int .i64 (page e s)]) ∧ Below w.heap.size w w' := by
  have hb0 : Below w.heap.size w (w.alloc (.cells #[.int .i64 s] 3)) := below_box w _
  have HI := Lib.hid (index_some L len cap hlen hm a s w.heap.size j hj e hno (w.alloc (.cells #[.int .i64 s] 3)) (hr.below hb0) hO (Blk.new w _ _).lt ((Blk.new w _ _).cell 0))
  obtain ⟨_, he, h1, h2⟩ := hno
  have ho := hO e (List.mem_of_getElem? he)
  have := ho.low; have := ho.high; have := ho.pos
  have h2' := ho.2
  have HP := Lib.hid (fun w => page_any e.from_ e.n e.kind e.at_ s ho.low (by unfold fin at *; omega) (by omega) (by omega) (by omega) (by omega) w)
  rcases hr with h0 | ⟨b, off, rfl, hb, hc⟩
  · rw [h0] at he; simp at he
  · have HC := Lib.hid (hc j e he)
    have t1 : (j : Int) < (len : Int) := by omega
    have t2 : (0 : Int) ≤ (j : Int) := by omega
    have t3 : ¬ ((j : Int) < 0) := by omega
    clear hO hlen hb0 hc he h1 h2 h2' ho
    go_enter Tryz.func35, Tryz.ntmps35
    go_wp2_with fail
    refine HI.out.mono ?_
    rintro r w1 ⟨rfl, hb1⟩
    have hF : Fd w s w1.drew := ((Fd.mk (Blk.new w _ _) (below_box w _) : Fd w s (w.alloc (.cells #[.int .i64 s] 3))).below hb1).below (Below.refl _ _).drew
    have c0 := fun x : Wd (Fd w s) => x.ok.box.cell 0
    have c0' : ∀ x : Wd (Fd w s), x.w.cell? ⟨w.heap.size, 0, none⟩ = some (.int .i64 s) := fun x => c0 x
    have d0 := fun x : Wd (Fd w s) => (x.ok.bel.cell (p := ⟨b, off + j * 4, none⟩) hb).trans HC.out.1
    have d1 := fun x : Wd (Fd w s) => (x.ok.bel.cell (p := ⟨b, off + j * 4 + 1, none⟩) hb).trans HC.out.2.1
    have d2 := fun x : Wd (Fd w s) => (x.ok.bel.cell (p := ⟨b, off + j * 4 + 2, none⟩) hb).trans HC.out.2.2.1
    have d3 := fun x : Wd (Fd w s) => (x.ok.bel.cell (p := ⟨b, off + j * 4 + 3, none⟩) hb).trans HC.out.2.2.2
    have hNE : Nonempty (Wd (Fd w s)) := ⟨⟨_, hF⟩⟩
    have HFF := Lib.hid hF
    clear hF hb1 HI c0
    go_wp2
    refine wp_region_inv (Fd w s) (by kernel_rfl) (by kernel_rfl) HFF.out ?_
    repeat (go_big_quiet_step ((go_at_call 76; with_reducible refine inv_call _ (fun _ _ => Fd.below) (HP.out _))))
    refine wpQuiet_nil ?_
    intro _ hw'
    obtain ⟨⟨w9, h9⟩, hw''⟩ := hw'
    subst hw''
    have H9 := Lib.hid h9.bel
    clear h9 c0' d0 d1 d2 d3 HFF
    go_wp2
    go_ret2
    exact ⟨rfl, H9.out⟩
open Classical in
theorem first_nat (p : Nat → Prop) : ∀ n, (∃ j, j < n ∧ p j ∧ ∀ i, i < j → ¬ p i) ∨ ∀ i, i < n → ¬ p i := by
  intro n
  induction n with
  | zero => exact .inr fun i hi => by omega
  | succ n ih =>
    rcases ih with ⟨j, hj, h⟩ | h
    · exact .inl ⟨j, by omega, h⟩
    · by_cases hn : p n
      · exact .inl ⟨n, by omega, hn, h⟩
      · exact .inr fun i hi => by
          by_cases e : i = n
          · subst e; exact hn
          · exact h i (by omega)
theorem find_any (L : List Ext) (len cap : Nat) (hlen : len = L.length) (hm : len ≤ 4611686018427387904) (a : Option Addr) (s : Int) (w : World) (hr : Exs w a L) (hO : ∀ e ∈ L, One e) :
    Calls Tryz.prog 35 #[.slice a len cap, .int .i64 s] w fun r w' => r = .returned (.tuple #[.int .i64 (say L s).1, .int .i64 (say L s).2]) ∧ Below w.heap.size w w' := by
  rcases first_nat (fun i => ∃ x, L[i]? = some x ∧ Has x s) len with ⟨j, hj, ⟨e, he, hs⟩, hn⟩ | hn
  · have hno : ∀ (i : Nat) (x : Ext), i < j → L[i]? = some x → ¬ Has x s := fun i x hi hx hh => hn i hi ⟨x, hx, hh⟩
    rw [say_first he hs hno]
    exact find_some L len cap hlen hm a s j hj e ⟨hno, he, hs⟩ w hr hO
  · have hno : ∀ (i : Nat) (x : Ext), i < len → L[i]? = some x → ¬ Has x s := fun i x hi hx hh => hn i hi ⟨x, hx, hh⟩
    rw [say_never (by rw [← hlen]; exact hno)]
    exact find_none L len cap hlen hm a s hno w hr hO
end EX
end Go.Proofs.YtdjlflinepefbabGreat

/- What tree.find answers: what a tree says of a sector. No condition but those that each theorem names. -/
namespace Go.Proofs.YtdjlflinepefbabGreat
open Go.RowKit
namespace TR
open MM EX LF
set_option linter.unusedVariables false
set_option linter.unusedSimpArgs false

def FindOk (h : Nat) : Prop := ∀ (w : World) (t : Tr h), Rep h w t → Weak h t → WV (flat h t) → ∀ (s : Int), s ≤ 9223372036854775807 →
    Calls Tryz.prog 59 #[vl h t, .int .i64 s] w fun r w' => r = .returned (.tuple #[.int .i64 (say (flat h t) s).1, .int .i64 (say (flat h t) s).2]) ∧ Below w.heap.size w w'
theorem find_none_any (s : Int) (w : World) : Calls Tryz.prog 59 #[.nilIface, .int .i64 s] w fun r w' => r = .returned (.tuple #[.int .i64 0, .int .i64 0]) ∧ w = w' := by
  have a1 := as_nb
  have a2 := as_ni
  go_enter Tryz.func59, Tryz.ntmps59
  go_wp2
  go_ret2
  exact ⟨rfl, rfl⟩
set_option maxRecDepth 100000 in
set_option maxHeartbeats 4000000 in
theorem find0_ok : FindOk 0 := by
  intro w t hr hw hv s hs
  obtain ⟨A1, c1, hc1, hbk, hx⟩ := hr
  obtain ⟨k0, k1⟩ := cells2t hbk
  have hsz := hw.size_pos
  rw [show size 0 t = (lf t).xs.length from rfl] at hsz
  have HF := Lib.hid (find_any (lf t).xs (lf t).xs.length c1 rfl (by omega) A1 s w hx hv.1)
  rw [show flat 0 t = (lf t).xs from rfl, vl_zero]
  obtain ⟨p, hp⟩ : ∃ p, p = say (lf t).xs s := ⟨_, rfl⟩
  obtain ⟨n, hn⟩ : ∃ n, n = (lf t).xs.length := ⟨_, rfl⟩
  obtain ⟨BB, hBB⟩ : ∃ B, B = (lf t).blk := ⟨_, rfl⟩
  rw [← hp] at HF ⊢
  rw [← hn] at HF k1
  rw [← hBB] at k0 k1 ⊢
  obtain ⟨p1, p2⟩ := p
  clear hp hn hBB hx hbk hv hw hsz hc1 hs
  have a1 := as_bb
  go_enter Tryz.func59, Tryz.ntmps59
  go_wp2_with fail
  refine HF.out.mono ?_
  rintro r w1 ⟨rfl, hb1⟩
  go_wp2
  go_ret2
  exact ⟨rfl, hb1⟩
set_option maxRecDepth 100000 in
set_option maxHeartbeats 8000000 in
theorem find1_ok {h : Nat} (ih : FindOk h) : FindOk (h + 1) := by
  intro w t hr hw hv s hs
  have hU := iunder_any h t hw s
  have hsz := hw.size_pos
  rw [show size (h + 1) t = (nd t).xs.length from rfl] at hsz
  have hkw := hw.kid
  have hrw := hr
  rw [flat_succ] at hv ⊢
  obtain ⟨ks, hks⟩ : ∃ ks, ks = (nd t).xs := ⟨_, rfl⟩
  rw [← hks] at hU hsz hkw hv
  rw [← hks]
  obtain ⟨i, hi⟩ : ∃ i, i = und (keys h ks) s ks.length := ⟨_, rfl⟩
  have hil : i < ks.length := by have := und_le (keys h ks) s ks.length; omega
  obtain ⟨k, hk⟩ : ∃ k, ks[i]? = some k := ⟨_, List.getElem?_eq_getElem hil⟩
  have hkm := List.mem_of_getElem? hk
  rw [say_kids hv (fun k hk => (hkw k hk).flat_pos) s i hi hk]
  have HU1 : Hid (∀ w1, Below w.heap.size w w1 → Calls Tryz.prog 91 #[.pointer (some ⟨(nd t).blk, 0, none⟩), .int .i64 s] w1 fun r w' => r = .returned (.int .i64 (i : Nat)) ∧ Below w1.heap.size w1 w') := Lib.hid fun w1 h1 => by rw [hi]; exact hU w1 (hrw.below h1)
  obtain ⟨A1, c1, hc1, hbk, hvs, hrs⟩ := hr
  rw [← hks] at hc1 hbk hvs hrs
  have HIH : Hid (∀ w1, Below w.heap.size w w1 → Calls Tryz.prog 59 #[vl h k, .int .i64 s] w1 fun r w' => r = .returned (.tuple #[.int .i64 (say (flat h k) s).1, .int .i64 (say (flat h k) s).2]) ∧ Below w1.heap.size w1 w') := Lib.hid fun w1 h1 => ih w1 k ((hrs k hkm).below h1) (hkw k hkm) (hv.sub (kid_sub hkm)) s hs
  obtain ⟨kb, ko, rfl, hkb, hkc⟩ := (Nds.mk hvs hrs).get hk
  obtain ⟨nk, hnk⟩ : ∃ nk, nk = ks.length := ⟨_, rfl⟩
  rw [← hnk] at hbk hil
  rw [vl_succ]
  obtain ⟨BB, hBB⟩ : ∃ B, B = (nd t).blk := ⟨_, rfl⟩
  rw [← hBB] at hbk HU1
  rw [← hBB]
  obtain ⟨ve, hve⟩ : ∃ v, v = vl h k := ⟨_, rfl⟩
  rw [← hve] at hkc HIH
  obtain ⟨p, hp⟩ : ∃ p, p = say (flat h k) s := ⟨_, rfl⟩
  rw [← hp] at HIH ⊢
  obtain ⟨p1, p2⟩ := p
  have HK := Lib.hid hbk
  have t1 : (i : Int) < (nk : Int) := by omega
  have t2 : (0 : Int) ≤ (i : Int) := by omega
  clear hbk hrs hvs hkw hv hnk hks hi hU hrw hBB hw hc1 hil hsz hve hp hk hkm hs
  have a1 := as_ib
  have a2 := as_ii
  go_enter Tryz.func59, Tryz.ntmps59
  go_wp2
  have k1 := fun x : Wd (Bw w) => (HK.out.below x.ok.bel HK.out.lt).cell 1
  have k1' : ∀ x : Wd (Bw w), x.w.cell? ⟨BB, 1, none⟩ = some (.slice (some ⟨kb, ko, none⟩) nk c1) := k1
  have k2 := fun x : Wd (Bw w) => (x.ok.bel.cell (p := ⟨kb, ko + i, none⟩) hkb).trans hkc
  have HX1 := Lib.hid (fun x : Wd (Bw w) => HU1.out x.w x.ok.bel)
  have HX2 := Lib.hid (fun x : Wd (Bw w) => HIH.out x.w x.ok.bel)
  have HI : Hid (Bw w w.drew) := Lib.hid ⟨(Below.refl _ _).drew⟩
  have hNE : Nonempty (Wd (Bw w)) := ⟨⟨_, HI.out⟩⟩
  clear k1
  refine wp_region_inv (Bw w) (by kernel_rfl) (by kernel_rfl) HI.out ?_
  repeat (go_big_quiet_step (first | (go_at_call 91; with_reducible refine inv_call _ (fun _ _ => Bw.below) (HX1.out _)) | (go_at_call 59; with_reducible refine inv_call _ (fun _ _ => Bw.below) (HX2.out _))))
  refine wpQuiet_nil ?_
  intro _ hw'
  obtain ⟨⟨w9, h9⟩, hw''⟩ := hw'
  subst hw''
  have H9 := Lib.hid h9.bel
  clear h9 k1' k2 HI
  go_wp2
  go_ret2
  exact ⟨rfl, H9.out⟩
theorem find_ok : ∀ h, FindOk h
  | 0 => find0_ok
  | h + 1 => find1_ok (find_ok h)
end TR
end Go.Proofs.YtdjlflinepefbabGreat
