/- What package ext's has and Find answer, of a list of extents that may be. No condition but those that each theorem names. -/
import Derived.Test.YtomncnelkkmalabExT
namespace Go.Proofs.Ytomncnelkkmalab
open Go.RowKit
namespace EX
open MM
set_option linter.unusedVariables false
set_option linter.unusedSimpArgs false

/-- Has an extent a sector? -/
def Has (e : Ext) (s : Int) : Prop := e.from_ ≤ s ∧ s < fin e
instance (e : Ext) (s : Int) : Decidable (Has e s) := by unfold Has; infer_instance
theorem say_first : ∀ {l : List Ext} {j : Nat} {e : Ext} {s : Int}, l[j]? = some e → Has e s → (∀ (i : Nat) (x : Ext), i < j → l[i]? = some x → ¬ Has x s) → say l s = (e.kind, page e s)
  | [], j, e, s, h, _, _ => by simp at h
  | a :: l, 0, e, s, h, h1, _ => by
    have ha : a = e := by simpa using h
    subst ha
    rw [say, if_pos (show a.from_ ≤ s ∧ s < fin a from h1)]
  | a :: l, j + 1, e, s, h, h1, h2 => by
    have h0 := h2 0 a (by omega) rfl
    rw [say, if_neg (show ¬ (a.from_ ≤ s ∧ s < fin a) from h0)]
    exact say_first (l := l) (j := j) (by simpa using h) h1 fun i x hi hx => h2 (i + 1) x (by omega) (by simpa using hx)
theorem say_never {l : List Ext} {s : Int} (h : ∀ (i : Nat) (x : Ext), i < l.length → l[i]? = some x → ¬ Has x s) : say l s = (0, 0) := by
  refine say_none fun e he => ?_
  obtain ⟨i, hi, hx⟩ := List.getElem_of_mem he
  exact h i e hi (by rw [List.getElem?_eq_getElem hi, hx])

set_option maxHeartbeats 1000000 in
theorem has_yes (e : Ext) (s : Int) (ho : One e) (h : Has e s) (w : World) : Calls Try.prog 40 #[.agg #[.int .i64 e.from_, .int .i64 e.n, .int .i64 e.kind, .int .i64 e.at_], .int .i64 s] w fun r w' => r = .returned (.bool true) ∧ Below w.heap.size w w' := by
  have := ho.low; have := ho.high; have := ho.pos
  have HE := Lib.hid (fun w => end_any e.from_ e.n e.kind e.at_ (by omega) (by unfold fin at *; omega) (by omega) (by unfold fin at *; omega) w)
  obtain ⟨h1, h2⟩ := h
  have h2' : s < e.from_ + e.n := h2
  clear h2
  go_enter Try.func40, Try.ntmps40
  go_wp2_with fail
  refine (HE.out _).mono ?_
  rintro r w1 ⟨rfl, hb1⟩
  have HB := Lib.hid (below_kept (below_box w _) hb1)
  clear hb1
  go_wp2
  go_ret
  exact ⟨rfl, HB.out⟩
set_option maxHeartbeats 1000000 in
theorem has_no (e : Ext) (s : Int) (ho : One e) (h : ¬ Has e s) (w : World) : Calls Try.prog 40 #[.agg #[.int .i64 e.from_, .int .i64 e.n, .int .i64 e.kind, .int .i64 e.at_], .int .i64 s] w fun r w' => r = .returned (.bool false) ∧ Below w.heap.size w w' := by
  have := ho.low; have := ho.high; have := ho.pos
  have HE := Lib.hid (fun w => end_any e.from_ e.n e.kind e.at_ (by omega) (by unfold fin at *; omega) (by omega) (by unfold fin at *; omega) w)
  by_cases h1 : e.from_ ≤ s
  · have h2 : ¬ s < e.from_ + e.n := fun h2 => h ⟨h1, h2⟩
    have h2' : decide (s < e.from_ + e.n) = false := decide_eq_false h2
    clear h
    go_enter Try.func40, Try.ntmps40
    go_wp2_with fail
    refine (HE.out _).mono ?_
    rintro r w1 ⟨rfl, hb1⟩
    have HB := Lib.hid (below_kept (below_box w _) hb1)
    clear hb1
    go_wp2
    go_ret
    exact ⟨rfl, HB.out⟩
  · have h1' : decide (e.from_ ≤ s) = false := decide_eq_false h1
    clear h
    go_enter Try.func40, Try.ntmps40
    go_wp2
    go_ret
    exact ⟨rfl, below_box _ _⟩
set_option maxHeartbeats 1000000 in
theorem found_any (e : Ext) (s : Int) (X : Nat) (v : Bool) (ho : One e) (HH : Hid (∀ w, Calls Try.prog 40 #[.agg #[.int .i64 e.from_, .int .i64 e.n, .int .i64 e.kind, .int .i64 e.at_], .int .i64 s] w fun r w' => r = .returned (.bool v) ∧ Below w.heap.size w w')) (w : World) (hX : X < w.heap.size) (hs : w.cell? ⟨X, 0, none⟩ = some (.int .i64 s)) :
    Calls Try.prog 39 #[.agg #[.int .i64 e.from_, .int .i64 e.n, .int .i64 e.kind, .int .i64 e.at_], .pointer (some ⟨X, 0, none⟩)] w fun r w' => r = .returned (.bool v) ∧ Below w.heap.size w w' := by
  have HO := Lib.hid (one_any e ho.wf)
  rw [decide_eq_true ho] at HO
  obtain ⟨W, hW⟩ : ∃ W, W = w.alloc (.cells #[.int .i64 e.from_, .int .i64 e.n, .int .i64 e.kind, .int .i64 e.at_] 24) := ⟨_, rfl⟩
  have k1 : Blk W w.heap.size 24 #[.int .i64 e.from_, .int .i64 e.n, .int .i64 e.kind, .int .i64 e.at_] := by rw [hW]; exact Blk.new w _ _
  have hb0 : Below w.heap.size w W := by rw [hW]; exact below_box w _
  have K1 := Lib.hid k1
  have HB0 := Lib.hid hb0
  have HW := Lib.hid hW
  have HS : Hid (∀ w1, Below w.heap.size w w1 → w1.cell? ⟨X, 0, none⟩ = some (.int .i64 s)) := Lib.hid fun w1 h1 => (h1.cell (p := ⟨X, 0, none⟩) hX).trans hs
  clear hW k1 hb0 ho hs hX
  go_enter Try.func39, Try.ntmps39
  go_wp2_with fail
  rw [← HW.out]
  refine (HO.out _).mono ?_
  rintro r w1 ⟨rfl, hb1⟩
  have k2 := K1.out.below hb1 K1.out.lt
  obtain ⟨⟨a0, a1, a2, a3⟩, _⟩ := cells4 k2
  have hb01 := below_kept HB0.out hb1
  have s1 := HS.out _ hb01
  have HB := Lib.hid hb01
  clear hb1 k2 hb01
  go_wp2_with fail
  refine (HH.out _).mono ?_
  rintro r w2 ⟨rfl, hb2⟩
  have HB2 := Lib.hid (below_kept HB.out hb2)
  clear hb2
  go_wp2
  go_ret
  exact ⟨rfl, HB2.out⟩
theorem found_say (e : Ext) (s : Int) (X : Nat) (ho : One e) (w : World) (hX : X < w.heap.size) (hs : w.cell? ⟨X, 0, none⟩ = some (.int .i64 s)) :
    Calls Try.prog 39 #[.agg #[.int .i64 e.from_, .int .i64 e.n, .int .i64 e.kind, .int .i64 e.at_], .pointer (some ⟨X, 0, none⟩)] w fun r w' => r = .returned (.bool (decide (Has e s))) ∧ Below w.heap.size w w' := by
  by_cases h : Has e s
  · rw [decide_eq_true h]; exact found_any e s X true ho (Lib.hid (has_yes e s ho h)) w hX hs
  · rw [decide_eq_false h]; exact found_any e s X false ho (Lib.hid (has_no e s ho h)) w hX hs

set_option maxHeartbeats 2000000 in
theorem index_none (L : List Ext) (len cap : Nat) (hlen : len = L.length) (hm : len ≤ 4611686018427387904) (a : Option Addr) (s : Int) (X : Nat) (hno : ∀ (i : Nat) (x : Ext), i < len → L[i]? = some x → ¬ Has x s) (w : World) (hr : Exs w a L) (hO : ∀ e ∈ L, One e) (hX : X < w.heap.size) (hs : w.cell? ⟨X, 0, none⟩ = some (.int .i64 s)) :
    Calls Try.prog 38 #[.slice a len cap, .func (.func 39) #[] #[.pointer (some ⟨X, 0, none⟩)]] w fun r w' => r = .returned (.int .i64 (-1)) ∧ Below w.heap.size w w' := by
  have HR := Lib.hid hr
  have HO := Lib.hid hO
  have HL := Lib.hid hlen
  have HN := Lib.hid hno
  have HS := Lib.hid hs
  have HXX := Lib.hid hX
  clear hr hO hlen hno hs hX
  go_enter Try.func38, Try.ntmps38
  go_wp2
  go_loopw [8] (fun i wr => ∃ k : Nat, k ≤ len ∧ i = .int .i64 k ∧ Below w.heap.size w wr) (fun i _ => len - (intOf i).toNat)
  case atStart => exact ⟨0, Nat.zero_le _, rfl, Below.refl _ _⟩
  case round =>
    obtain ⟨k, hk, rfl, hbel⟩ := hrel
    by_cases hlt : k < len
    · obtain ⟨e, he⟩ : ∃ e, L[k]? = some e := ⟨_, List.getElem?_eq_getElem (by rw [← HL.out]; omega)⟩
      rcases HR.out with h0 | ⟨b, off, rfl, hb, hc⟩
      · rw [h0] at he; simp at he
      · obtain ⟨q0, q1, q2, q3⟩ := (hc k e he).kept hbel hb
        have ho := HO.out e (List.mem_of_getElem? he)
        have HF := Lib.hid (found_say e s X ho wr (Nat.lt_of_lt_of_le HXX.out hbel.size) ((hbel.cell (p := ⟨X, 0, none⟩) HXX.out).trans HS.out))
        rw [decide_eq_false (HN.out k e hlt he)] at HF
        have HB := Lib.hid hbel
        have t1 : (k : Int) < (len : Int) := by omega
        have t2 : (0 : Int) ≤ (k : Int) := by omega
        clear hc ho hbel he
        go_wp2_with fail
        refine HF.out.mono ?_
        rintro r w1 ⟨rfl, hb1⟩
        have HB1 := Lib.hid (below_kept HB.out hb1)
        clear hb1 HF
        go_wp2
        go_roundw
        case rel => exact ⟨k + 1, by omega, by go_num, HB1.out⟩
        case measure => simp [intOf]; omega
    · obtain rfl : k = len := by omega
      have i0 : ¬ (k : Int) < (k : Int) := by omega
      go_wp2
      go_ret
      exact ⟨rfl, hbel⟩

set_option maxHeartbeats 2000000 in
theorem index_some (L : List Ext) (len cap : Nat) (hlen : len = L.length) (hm : len ≤ 4611686018427387904) (a : Option Addr) (s : Int) (X : Nat) (j : Nat) (hj : j < len) (x0 : Ext) (hno : (∀ (i : Nat) (x : Ext), i < j → L[i]? = some x → ¬ Has x s) ∧ L[j]? = some x0 ∧ Has x0 s) (w : World) (hr : Exs w a L) (hO : ∀ e ∈ L, One e) (hX : X < w.heap.size) (hs : w.cell? ⟨X, 0, none⟩ = some (.int .i64 s)) :
    Calls Try.prog 38 #[.slice a len cap, .func (.func 39) #[] #[.pointer (some ⟨X, 0, none⟩)]] w fun r w' => r = .returned (.int .i64 (j : Int)) ∧ Below w.heap.size w w' := by
  have HR := Lib.hid hr
  have HO := Lib.hid hO
  have HL := Lib.hid hlen
  have HN := Lib.hid hno
  have HS := Lib.hid hs
  have HXX := Lib.hid hX
  clear hr hO hlen hno hs hX
  go_enter Try.func38, Try.ntmps38
  go_wp2
  go_loopw [8] (fun i wr => ∃ k : Nat, k ≤ j ∧ i = .int .i64 k ∧ Below w.heap.size w wr) (fun i _ => len - (intOf i).toNat)
  case atStart => exact ⟨0, Nat.zero_le _, rfl, Below.refl _ _⟩
  case round =>
    obtain ⟨k, hk, rfl, hbel⟩ := hrel
    by_cases hlt : k < j
    · obtain ⟨e, he⟩ : ∃ e, L[k]? = some e := ⟨_, List.getElem?_eq_getElem (by rw [← HL.out]; omega)⟩
      rcases HR.out with h0 | ⟨b, off, rfl, hb, hc⟩
      · rw [h0] at he; simp at he
      · obtain ⟨q0, q1, q2, q3⟩ := (hc k e he).kept hbel hb
        have ho := HO.out e (List.mem_of_getElem? he)
        have HF := Lib.hid (found_say e s X ho wr (Nat.lt_of_lt_of_le HXX.out hbel.size) ((hbel.cell (p := ⟨X, 0, none⟩) HXX.out).trans HS.out))
        rw [decide_eq_false (HN.out.1 k e hlt he)] at HF
        have HB := Lib.hid hbel
        have t1 : (k : Int) < (len : Int) := by omega
        have t2 : (0 : Int) ≤ (k : Int) := by omega
        clear hc ho hbel he
        go_wp2_with fail
        refine HF.out.mono ?_
        rintro r w1 ⟨rfl, hb1⟩
        have HB1 := Lib.hid (below_kept HB.out hb1)
        clear hb1 HF
        go_wp2
        go_roundw
        case rel => exact ⟨k + 1, by omega, by go_num, HB1.out⟩
        case measure => simp [intOf]; omega
    · obtain rfl : k = j := by omega
      obtain ⟨e, he⟩ : ∃ e, L[k]? = some e := ⟨_, List.getElem?_eq_getElem (by rw [← HL.out]; omega)⟩
      rcases HR.out with h0 | ⟨b, off, rfl, hb, hc⟩
      · rw [h0] at he; simp at he
      · obtain ⟨q0, q1, q2, q3⟩ := (hc k e he).kept hbel hb
        have ho := HO.out e (List.mem_of_getElem? he)
        have HF := Lib.hid (found_say e s X ho wr (Nat.lt_of_lt_of_le HXX.out hbel.size) ((hbel.cell (p := ⟨X, 0, none⟩) HXX.out).trans HS.out))
        rw [decide_eq_true (by have := HN.out.2; rw [he] at this; injection this.1 with e2; rw [e2]; exact this.2)] at HF
        have HB := Lib.hid hbel
        have t1 : (k : Int) < (len : Int) := by omega
        have t2 : (0 : Int) ≤ (k : Int) := by omega
        clear hc ho hbel he
        go_wp2_with fail
        refine HF.out.mono ?_
        rintro r w1 ⟨rfl, hb1⟩
        have HB1 := Lib.hid (below_kept HB.out hb1)
        clear hb1 HF
        go_wp2
        go_ret
        exact ⟨rfl, HB1.out⟩

/-- What Find has beside its list. -/
structure Fd (w : World) (s : Int) (w' : World) : Prop where
  box : Blk w' w.heap.size 3 #[.int .i64 s]
  bel : Below w.heap.size w w'
theorem Fd.below {w : World} {s : Int} {w1 w2 : World} (h : Fd w s w1) (hb : Below w1.heap.size w1 w2) : Fd w s w2 := ⟨h.box.below hb h.box.lt, h.bel.trans (hb.mono (Nat.le_of_lt h.box.lt))⟩
set_option maxHeartbeats 2000000 in
theorem find_none (L : List Ext) (len cap : Nat) (hlen : len = L.length) (hm : len ≤ 4611686018427387904) (a : Option Addr) (s : Int) (hno : ∀ (i : Nat) (x : Ext), i < len → L[i]? = some x → ¬ Has x s) (w : World) (hr : Exs w a L) (hO : ∀ e ∈ L, One e) :
    Calls Try.prog 18 #[.slice a len cap, .int .i64 s] w fun r w' => r = .returned (.tuple #[.int .i64 0, .int .i64 0]) ∧ Below w.heap.size w w' := by
  have hb0 : Below w.heap.size w (w.alloc (.cells #[.int .i64 s] 3)) := below_box w _
  have HI := Lib.hid (index_none L len cap hlen hm a s w.heap.size hno (w.alloc (.cells #[.int .i64 s] 3)) (hr.below hb0) hO (Blk.new w _ _).lt ((Blk.new w _ _).cell 0))
  clear hr hO hno hlen hb0
  go_enter Try.func18, Try.ntmps18
  go_wp2_with fail
  refine HI.out.mono ?_
  rintro r w1 ⟨rfl, hb1⟩
  have HB := Lib.hid (below_kept (below_box w _) hb1)
  clear hb1 HI
  go_wp2
  go_ret2
  exact ⟨rfl, HB.out⟩
set_option maxHeartbeats 4000000 in
theorem find_some (L : List Ext) (len cap : Nat) (hlen : len = L.length) (hm : len ≤ 4611686018427387904) (a : Option Addr) (s : Int) (j : Nat) (hj : j < len) (e : Ext) (hno : (∀ (i : Nat) (x : Ext), i < j → L[i]? = some x → ¬ Has x s) ∧ L[j]? = some e ∧ Has e s) (w : World) (hr : Exs w a L) (hO : ∀ e ∈ L, One e) :
    Calls Try.prog 18 #[.slice a len cap, .int .i64 s] w fun r w' => r = .returned (.tuple #[.int .i64 e.kind, .int .i64 (page e s)]) ∧ Below w.heap.size w w' := by
  have hb0 : Below w.heap.size w (w.alloc (.cells #[.int .i64 s] 3)) := below_box w _
  have HI := Lib.hid (index_some L len cap hlen hm a s w.heap.size j hj e hno (w.alloc (.cells #[.int .i64 s] 3)) (hr.below hb0) hO (Blk.new w _ _).lt ((Blk.new w _ _).cell 0))
  obtain ⟨_, he, h1, h2⟩ := hno
  have ho := hO e (List.mem_of_getElem? he)
  have := ho.low; have := ho.high; have := ho.pos
  have h2' := ho.2
  have HP := Lib.hid (fun w => page_any e.from_ e.n e.kind e.at_ s ho.low (by unfold fin at *; omega) (by omega) (by omega) (by omega) (by omega) w)
  rcases hr with h0 | ⟨b, off, rfl, hb, hc⟩
  · rw [h0] at he; simp at he
  · have HC := Lib.hid (hc j e he)
    have t1 : (j : Int) < (len : Int) := by omega
    have t2 : (0 : Int) ≤ (j : Int) := by omega
    have t3 : ¬ ((j : Int) < 0) := by omega
    clear hO hlen hb0 hc he h1 h2 h2' ho
    go_enter Try.func18, Try.ntmps18
    go_wp2_with fail
    refine HI.out.mono ?_
    rintro r w1 ⟨rfl, hb1⟩
    have hF : Fd w s w1.drew := ((Fd.mk (Blk.new w _ _) (below_box w _) : Fd w s (w.alloc (.cells #[.int .i64 s] 3))).below hb1).below (Below.refl _ _).drew
    have c0 := fun x : Wd (Fd w s) => x.ok.box.cell 0
    have c0' : ∀ x : Wd (Fd w s), x.w.cell? ⟨w.heap.size, 0, none⟩ = some (.int .i64 s) := fun x => c0 x
    have d0 := fun x : Wd (Fd w s) => (x.ok.bel.cell (p := ⟨b, off + j * 4, none⟩) hb).trans HC.out.1
    have d1 := fun x : Wd (Fd w s) => (x.ok.bel.cell (p := ⟨b, off + j * 4 + 1, none⟩) hb).trans HC.out.2.1
    have d2 := fun x : Wd (Fd w s) => (x.ok.bel.cell (p := ⟨b, off + j * 4 + 2, none⟩) hb).trans HC.out.2.2.1
    have d3 := fun x : Wd (Fd w s) => (x.ok.bel.cell (p := ⟨b, off + j * 4 + 3, none⟩) hb).trans HC.out.2.2.2
    have hNE : Nonempty (Wd (Fd w s)) := ⟨⟨_, hF⟩⟩
    have HFF := Lib.hid hF
    clear hF hb1 HI c0
    go_wp2
    refine wp_region_inv (Fd w s) (by kernel_rfl) (by kernel_rfl) HFF.out ?_
    repeat (go_big_quiet_step ((go_at_call 41; with_reducible refine inv_call _ (fun _ _ => Fd.below) (HP.out _))))
    refine wpQuiet_nil ?_
    intro _ hw'
    obtain ⟨⟨w9, h9⟩, hw''⟩ := hw'
    subst hw''
    have H9 := Lib.hid h9.bel
    clear h9 c0' d0 d1 d2 d3 HFF
    go_wp2
    go_ret2
    exact ⟨rfl, H9.out⟩
open Classical in
theorem first_nat (p : Nat → Prop) : ∀ n, (∃ j, j < n ∧ p j ∧ ∀ i, i < j → ¬ p i) ∨ ∀ i, i < n → ¬ p i := by
  intro n
  induction n with
  | zero => exact .inr fun i hi => by omega
  | succ n ih =>
    rcases ih with ⟨j, hj, h⟩ | h
    · exact .inl ⟨j, by omega, h⟩
    · by_cases hn : p n
      · exact .inl ⟨n, by omega, hn, h⟩
      · exact .inr fun i hi => by
          by_cases e : i = n
          · subst e; exact hn
          · exact h i (by omega)
theorem find_any (L : List Ext) (len cap : Nat) (hlen : len = L.length) (hm : len ≤ 4611686018427387904) (a : Option Addr) (s : Int) (w : World) (hr : Exs w a L) (hO : ∀ e ∈ L, One e) :
    Calls Try.prog 18 #[.slice a len cap, .int .i64 s] w fun r w' => r = .returned (.tuple #[.int .i64 (say L s).1, .int .i64 (say L s).2]) ∧ Below w.heap.size w w' := by
  rcases first_nat (fun i => ∃ x, L[i]? = some x ∧ Has x s) len with ⟨j, hj, ⟨e, he, hs⟩, hn⟩ | hn
  · have hno : ∀ (i : Nat) (x : Ext), i < j → L[i]? = some x → ¬ Has x s := fun i x hi hx hh => hn i hi ⟨x, hx, hh⟩
    rw [say_first he hs hno]
    exact find_some L len cap hlen hm a s j hj e ⟨hno, he, hs⟩ w hr hO
  · have hno : ∀ (i : Nat) (x : Ext), i < len → L[i]? = some x → ¬ Has x s := fun i x hi hx hh => hn i hi ⟨x, hx, hh⟩
    rw [say_never (by rw [← hlen]; exact hno)]
    exact find_none L len cap hlen hm a s hno w hr hO
end EX
end Go.Proofs.Ytomncnelkkmalab
