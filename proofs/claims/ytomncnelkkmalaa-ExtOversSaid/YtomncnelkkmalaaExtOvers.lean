/- The law ExtOvers holds: its Go text answers true for every input, and leaves its arguments as they were. No condition beyond the statement's own. -/
import Derived.Test.YtomncnelkkmalaaRows
import Derived.Test.YtomncnelkkmalaaExH
import Derived.Test.YtomncnelkkmalaaExW
import Derived.Test.YtomncnelkkmalaaOpen7
import Derived.Test.YtomncnelkkmalaaOpen
import Derived.Test.YtomncnelkkmalaaShort
import Derived.ProofKit
import Derived.OpenShut
import Derived.ShutString
import Derived.ChangeOld
import Derived.Below
import Derived.SizedLaws
namespace Go.Proofs.Ytomncnelkkmalaa.extOvers
open Go.ChangeShapes Go.WideShapes Go.ChangeAt Go.RowKit
open Go.ChangeMaps (open_string shut_string)
open Go.Proofs.Ytomncnelkkmalaa.FM
set_option linter.unusedVariables false
set_option linter.unusedSimpArgs false

theorem own : ownKnob Try.prog.godebug = none := by kernel_rfl
theorem laidOut : laidOutB Try.prog = true := by kernel_rfl

open MM EX OP

set_option maxHeartbeats 1000000 in
theorem big (a0 : Option Addr) (len0 cap0 : Nat) (L0 : List EX.Ext) (x1 : EX.Ext) (w : World) (lm0 : len0 ≤ maxLen) (hbig : ¬ len0 ≤ 60) :
    Calls Try.prog 6 #[.slice a0 len0 cap0, .agg #[.int .i64 x1.from_, .int .i64 x1.n, .int .i64 x1.kind, .int .i64 x1.at_]] w fun e w' => e = .returned (.bool true) ∧ Below w.heap.size w w' := by
  have hf : decide ((len0 : Int) ≤ 60) = false := decide_eq_false (by omega)
  have HF := Lib.hid (few_any len0 cap0 lm0 a0)
  rw [hf] at HF
  clear hf lm0 hbig
  go_enter Try.func6, Try.ntmps6
  go_wp2_with fail
  refine (HF.out _).mono ?_
  rintro r w1 ⟨rfl, rfl⟩
  go_wp2_with fail
  refine (awake_any _).mono ?_
  rintro r w2 ⟨rfl, hb2⟩
  have B2 := Lib.hid hb2
  clear hb2
  go_wp2
  go_ret
  exact ⟨rfl, (below_box w _).trans (B2.out.mono (by simp))⟩

/-- The extent's box. -/
structure Ox (w : World) (x1 : Ext) (w' : World) : Prop where
  blk : Blk w' w.heap.size 24 #[.int .i64 x1.from_, .int .i64 x1.n, .int .i64 x1.kind, .int .i64 x1.at_]
  bel : Below w.heap.size w w'
theorem ox_s {w w' : World} {x1 : Ext} (h : Ox w x1 w') : (w'.cell? ⟨w.heap.size, 0, none⟩ = some (.int .i64 x1.from_) ∧ w'.cell? ⟨w.heap.size, 1, none⟩ = some (.int .i64 x1.n) ∧ w'.cell? ⟨w.heap.size, 2, none⟩ = some (.int .i64 x1.kind) ∧ w'.cell? ⟨w.heap.size, 3, none⟩ = some (.int .i64 x1.at_) ∧ Ox w x1 w') := by
  obtain ⟨⟨a0, a1, a2, a3⟩, _⟩ := cells4 h.blk
  exact ⟨a0, a1, a2, a3, h⟩
theorem ox_of {w w' : World} {x1 : Ext} (h : (w'.cell? ⟨w.heap.size, 0, none⟩ = some (.int .i64 x1.from_) ∧ w'.cell? ⟨w.heap.size, 1, none⟩ = some (.int .i64 x1.n) ∧ w'.cell? ⟨w.heap.size, 2, none⟩ = some (.int .i64 x1.kind) ∧ w'.cell? ⟨w.heap.size, 3, none⟩ = some (.int .i64 x1.at_) ∧ Ox w x1 w')) : Ox w x1 w' := h.2.2.2.2
theorem Ox.below {w : World} {x1 : Ext} {w1 w2 : World} (h : Ox w x1 w1) (hb : Below w1.heap.size w1 w2) : Ox w x1 w2 := ⟨h.blk.below hb h.blk.lt, h.bel.trans (hb.mono (Nat.le_of_lt h.blk.lt))⟩
theorem Ox.far {w w1 : World} {x1 : Ext} (h : Ox w x1 w1) {X : Nat} (hX : w.heap.size < X) (x0 y0 z0 v0 : Value) : Ox w x1 ((((w1.setCell ⟨X, 0, none⟩ x0).setCell ⟨X, 1, none⟩ y0).setCell ⟨X, 2, none⟩ z0).setCell ⟨X, 3, none⟩ v0) := by
  have hne : w.heap.size ≠ X := by omega
  exact ⟨(((h.blk.far hne _).far hne _).far hne _).far hne _, stored4_below h.bel (Nat.le_of_lt hX) _ _ _ _⟩
theorem exs_far {w : World} {A : Option Addr} {L : List Ext} (h : Exs w A L) {X : Nat} (hX : ∀ x, A = some x → X < x.block) (x0 y0 z0 v0 : Value) : Exs ((((w.setCell ⟨X, 0, none⟩ x0).setCell ⟨X, 1, none⟩ y0).setCell ⟨X, 2, none⟩ z0).setCell ⟨X, 3, none⟩ v0) A L := by
  rcases h with h | ⟨b, off, rfl, hlt, hc⟩
  · exact .inl h
  · have hb : b ≠ X := by have := hX _ rfl; simp at this; omega
    have key : ∀ (w1 : World) (j : Nat) (u : Value) (o : Nat), (w1.setCell ⟨X, j, none⟩ u).cell? ⟨b, o, none⟩ = w1.cell? ⟨b, o, none⟩ := fun w1 j u o => World.cell?_setCell_other _ _ _ _ (fun e => hb (congrArg Addr.block e).symm)
    refine .inr ⟨b, off, rfl, by simpa [World.setCell] using hlt, fun i e hi => ?_⟩
    obtain ⟨h0, h1, h2, h3⟩ := hc i e hi
    exact ⟨by simp only [key]; exact h0, by simp only [key]; exact h1, by simp only [key]; exact h2, by simp only [key]; exact h3⟩
/-- Behind the references: the extent's box, its reference, the list's references. -/
structure Oz (w : World) (x1 : Ext) (X : Nat) (A : Option Addr) (L : List Ext) (w' : World) : Prop where
  ox : Ox w x1 w'
  var : Blk w' X 29 #[.int .i64 x1.from_, .int .i64 x1.n, .int .i64 x1.kind, .int .i64 x1.at_]
  refs : Exs w' A L
theorem Oz.below {w : World} {x1 : Ext} {X : Nat} {A : Option Addr} {L : List Ext} {w1 w2 : World} (h : Oz w x1 X A L w1) (hb : Below w1.heap.size w1 w2) : Oz w x1 X A L w2 := ⟨h.ox.below hb, h.var.below hb h.var.lt, h.refs.below hb⟩
theorem one_exs {w : World} {x1 : Ext} {X : Nat} (h : Blk w X 29 #[.int .i64 x1.from_, .int .i64 x1.n, .int .i64 x1.kind, .int .i64 x1.at_]) : Exs w (some ⟨X, 0, none⟩) [x1] := .inr ⟨X, 0, rfl, h.lt, fun i e hi => by
  match i, hi with
  | 0, hi =>
    have : e = x1 := by simpa using hi.symm
    subst this
    exact ⟨h.cell 0, h.cell 1, h.cell 2, h.cell 3⟩
  | i + 1, hi => simp at hi⟩

set_option maxHeartbeats 4000000 in
theorem far (a0 : Option Addr) (len0 cap0 : Nat) (L0 : List EX.Ext) (x1 : EX.Ext) (w : World) (hl0 : len0 = L0.length) (lm0 : len0 ≤ 60) (w0 : Exs w a0 L0) (v : Bool)
    (HCK : Hid (∀ (w1 : World) (A : Option Addr) (n c : Nat), n = L0.length → Exs w1 A L0 → Calls Try.prog 16 #[.slice A n c] w1 fun e w' => e = .returned (.bool v) ∧ Below w1.heap.size w1 w'))
    (HRC : Hid (v = true → Hid (∀ w1, Calls Try.prog 14 #[.agg #[.int .i64 x1.from_, .int .i64 x1.n, .int .i64 x1.kind, .int .i64 x1.at_]] w1 fun e w' => e = .returned (.bool false) ∧ Below w1.heap.size w1 w')))
    (HOV : Hid (∀ (w1 : World), Below w.heap.size w w1 → Calls Try.prog 23 #[.slice a0 len0 cap0, .agg #[.int .i64 x1.from_, .int .i64 x1.n, .int .i64 x1.kind, .int .i64 x1.at_]] w1 fun r w' => r = .returned (.tuple #[.slice none 0 0, .int .i64 1]) ∧ Below w1.heap.size w1 w')) :
    Calls Try.prog 6 #[.slice a0 len0 cap0, .agg #[.int .i64 x1.from_, .int .i64 x1.n, .int .i64 x1.kind, .int .i64 x1.at_]] w fun e w' => e = .returned (.bool true) ∧ Below w.heap.size w w' := by
  have hl60 : len0 ≤ 60 := lm0
  have HX := Lib.hid w0
  have HL := Lib.hid hl0
  have hf : decide ((len0 : Int) ≤ 60) = true := decide_eq_true (by omega)
  have HF := Lib.hid (few_any len0 cap0 (by unfold maxLen; omega) a0)
  rw [hf] at HF
  clear hf
  obtain ⟨W, hW⟩ : ∃ W, W = w.alloc (.cells #[.int .i64 x1.from_, .int .i64 x1.n, .int .i64 x1.kind, .int .i64 x1.at_] 24) := ⟨_, rfl⟩
  have hox : Ox w x1 W := ⟨by rw [hW]; exact Blk.new w _ _, by rw [hW]; exact below_box w _⟩
  have HS : Hid (W.drew.cell? ⟨w.heap.size, 0, none⟩ = some (.int .i64 x1.from_) ∧ W.drew.cell? ⟨w.heap.size, 1, none⟩ = some (.int .i64 x1.n) ∧ W.drew.cell? ⟨w.heap.size, 2, none⟩ = some (.int .i64 x1.kind) ∧ W.drew.cell? ⟨w.heap.size, 3, none⟩ = some (.int .i64 x1.at_) ∧ Ox w x1 W.drew) := Lib.hid (ox_s (hox.below (Below.refl _ _).drew))
  have HSA : Hid (∀ cs : Array Value, ((W.alloc (.cells cs 29)).drew.cell? ⟨w.heap.size, 0, none⟩ = some (.int .i64 x1.from_) ∧ (W.alloc (.cells cs 29)).drew.cell? ⟨w.heap.size, 1, none⟩ = some (.int .i64 x1.n) ∧ (W.alloc (.cells cs 29)).drew.cell? ⟨w.heap.size, 2, none⟩ = some (.int .i64 x1.kind) ∧ (W.alloc (.cells cs 29)).drew.cell? ⟨w.heap.size, 3, none⟩ = some (.int .i64 x1.at_) ∧ Ox w x1 (W.alloc (.cells cs 29)).drew)) := Lib.hid fun cs => ox_s (hox.below (below_box W _).drew)
  have HXB : Hid (∀ (cs : Array Value) (w5 : World), Below (W.alloc (.cells cs 29)).drew.heap.size (W.alloc (.cells cs 29)).drew w5 → Blk w5 W.heap.size 29 cs) := Lib.hid fun cs w5 h5 => (show Blk (W.alloc (.cells cs 29)).drew W.heap.size 29 cs from Blk.new W _ _).below h5 (show W.heap.size < (W.alloc (.cells cs 29)).drew.heap.size from (Blk.new W 29 cs).lt)
  have HEX : Hid (w.heap.size < W.heap.size) := Lib.hid hox.blk.lt
  have HRF := Lib.hid (fun w1 (h : Below w.heap.size w w1) => refs_new L0 len0 cap0 HL.out (by omega) a0 w1 (HX.out.below h))
  obtain ⟨⟨a0', a1', a2', a3'⟩, _⟩ := cells4 hox.blk
  have HW := Lib.hid hW
  have HB0 := Lib.hid hox.bel
  clear hl0 w0 hW hox
  go_enter Try.func6, Try.ntmps6
  go_wp2_with fail
  rw [← HW.out]
  refine (HF.out _).mono ?_
  rintro r w1 ⟨rfl, rfl⟩
  clear HF
  go_wp2
  go_region_held3 (fun w' => (w'.cell? ⟨w.heap.size, 0, none⟩ = some (.int .i64 x1.from_) ∧ w'.cell? ⟨w.heap.size, 1, none⟩ = some (.int .i64 x1.n) ∧ w'.cell? ⟨w.heap.size, 2, none⟩ = some (.int .i64 x1.kind) ∧ w'.cell? ⟨w.heap.size, 3, none⟩ = some (.int .i64 x1.at_) ∧ Ox w x1 w')) (first | with_reducible exact HS.out | with_reducible exact HSA.out _ | with_reducible assumption | with_reducible exact ox_s ((ox_of (by assumption)).below (below_box _ _)) | with_reducible exact ox_s ((ox_of (by assumption)).far HEX.out _ _ _ _)) ((go_at_call 17; refine (HRF.out _ (ox_of (by assumption)).bel).mono ?_; rintro r w5 ⟨A1, n1, c1, rfl, hn1, hx1, hb1, hf1⟩; have HN1 := Lib.hid hn1; clear hn1; have hS5 := ox_s ((ox_of (by assumption)).below hb1); first | (have hx5 : Blk w5 W.heap.size 29 #[.int .i64 0, .int .i64 0, .int .i64 0, .int .i64 0] := (by with_reducible exact HXB.out _ _ hb1); obtain ⟨⟨z0, z1, z2, z3⟩, y0, y1, y2, y3⟩ := cells4 hx5) | (have hx5 : Blk w5 W.heap.size 29 #[.int .i64 x1.from_, .int .i64 x1.n, .int .i64 x1.kind, .int .i64 x1.at_] := (by with_reducible exact HXB.out _ _ hb1); obtain ⟨⟨z0, z1, z2, z3⟩, y0, y1, y2, y3⟩ := cells4 hx5) | skip))
  · obtain ⟨W6, hW6⟩ : ∃ W6, W6 = w5.alloc (.cells #[.int .i64 x1.from_, .int .i64 x1.n, .int .i64 x1.kind, .int .i64 x1.at_] 29) := ⟨_, rfl⟩
    obtain ⟨X, hX⟩ : ∃ X, X = w5.heap.size := ⟨_, rfl⟩
    have OZ : Hid (Oz w x1 X A1 L0 W6) := by
      show Oz _ _ _ _ _ _
      rw [hW6, hX]
      exact ⟨(ox_of hS5).below (below_box _ _), Blk.new w5 _ _, hx1.below (below_box _ _)⟩
    rw [← hW6, ← hX]
    clear hW6 hX hb1 hx1 hS5 HS HSA HXB HEX HRF a0' a1' a2' a3'
    obtain ⟨⟨d0, d1, d2, d3⟩, _⟩ := cells4 OZ.out.ox.blk
    go_wp2_with fail
    refine (HOV.out _ (OZ.out.ox.bel)).mono ?_
    rintro r w7 ⟨rfl, hb7⟩
    have OZ7 := Lib.hid (OZ.out.below hb7)
    clear hb7 d0 d1 d2 d3
    cases v
    · go_wp2_with fail
      refine (HCK.out _ _ _ _ HN1.out OZ7.out.refs).mono ?_
      rintro r w8 ⟨rfl, hb8⟩
      have OZ8 := Lib.hid (OZ7.out.below hb8)
      clear hb8
      go_wp2_with fail
      refine (awake_any _).mono ?_
      rintro r w4 ⟨rfl, hb4⟩
      have B4 := Lib.hid (OZ8.out.below hb4).ox.bel
      clear hb4
      go_wp2
      go_ret
      exact ⟨rfl, B4.out⟩
    · have HO1 := HRC.out rfl
      clear HRC
      go_wp2_with fail
      refine (HCK.out _ _ _ _ HN1.out OZ7.out.refs).mono ?_
      rintro r w8 ⟨rfl, hb8⟩
      have OZ8 := Lib.hid (OZ7.out.below hb8)
      clear hb8
      obtain ⟨⟨d0, d1, d2, d3⟩, _⟩ := cells4 OZ8.out.var
      go_wp2_with fail
      refine (HO1.out _).mono ?_
      rintro r w9 ⟨rfl, hb9⟩
      have OZ9 := Lib.hid (OZ8.out.below hb9)
      clear hb9 d0 d1 d2 d3
      go_wp2_with fail
      refine (awake_any _).mono ?_
      rintro r w4 ⟨rfl, hb4⟩
      have B4 := Lib.hid (OZ9.out.below hb4).ox.bel
      clear hb4
      go_wp2
      go_ret
      exact ⟨rfl, B4.out⟩
  · obtain ⟨W6, hW6⟩ : ∃ W6, W6 = ((((w5.setCell ⟨W.heap.size, 0, none⟩ (.int .i64 x1.from_)).setCell ⟨W.heap.size, 1, none⟩ (.int .i64 x1.n)).setCell ⟨W.heap.size, 2, none⟩ (.int .i64 x1.kind)).setCell ⟨W.heap.size, 3, none⟩ (.int .i64 x1.at_)) := ⟨_, rfl⟩
    obtain ⟨X, hX⟩ : ∃ X, X = W.heap.size := ⟨_, rfl⟩
    have OZ : Hid (Oz w x1 X A1 L0 W6) := by
      show Oz _ _ _ _ _ _
      rw [hW6, hX]
      exact ⟨(ox_of hS5).far HEX.out _ _ _ _, stored4 hx5 _ _ _ _, exs_far hx1 (fun x hx => by have := hf1 x hx; simp at this; omega) _ _ _ _⟩
    rw [← hW6, ← hX]
    clear hW6 hX hb1 hx1 hS5 HS HSA HXB HEX HRF a0' a1' a2' a3'
    obtain ⟨⟨d0, d1, d2, d3⟩, _⟩ := cells4 OZ.out.ox.blk
    go_wp2_with fail
    refine (HOV.out _ (OZ.out.ox.bel)).mono ?_
    rintro r w7 ⟨rfl, hb7⟩
    have OZ7 := Lib.hid (OZ.out.below hb7)
    clear hb7 d0 d1 d2 d3
    cases v
    · go_wp2_with fail
      refine (HCK.out _ _ _ _ HN1.out OZ7.out.refs).mono ?_
      rintro r w8 ⟨rfl, hb8⟩
      have OZ8 := Lib.hid (OZ7.out.below hb8)
      clear hb8
      go_wp2_with fail
      refine (awake_any _).mono ?_
      rintro r w4 ⟨rfl, hb4⟩
      have B4 := Lib.hid (OZ8.out.below hb4).ox.bel
      clear hb4
      go_wp2
      go_ret
      exact ⟨rfl, B4.out⟩
    · have HO1 := HRC.out rfl
      clear HRC
      go_wp2_with fail
      refine (HCK.out _ _ _ _ HN1.out OZ7.out.refs).mono ?_
      rintro r w8 ⟨rfl, hb8⟩
      have OZ8 := Lib.hid (OZ7.out.below hb8)
      clear hb8
      obtain ⟨⟨d0, d1, d2, d3⟩, _⟩ := cells4 OZ8.out.var
      go_wp2_with fail
      refine (HO1.out _).mono ?_
      rintro r w9 ⟨rfl, hb9⟩
      have OZ9 := Lib.hid (OZ8.out.below hb9)
      clear hb9 d0 d1 d2 d3
      go_wp2_with fail
      refine (awake_any _).mono ?_
      rintro r w4 ⟨rfl, hb4⟩
      have B4 := Lib.hid (OZ9.out.below hb4).ox.bel
      clear hb4
      go_wp2
      go_ret
      exact ⟨rfl, B4.out⟩

set_option maxHeartbeats 4000000 in
theorem yes (a0 : Option Addr) (len0 cap0 : Nat) (L0 : List EX.Ext) (x1 : EX.Ext) (w : World) (hl0 : len0 = L0.length) (lm0 : len0 ≤ 60) (w0 : Exs w a0 L0) (hv : Valid L0) (ho : EX.One x1) :
    Calls Try.prog 6 #[.slice a0 len0 cap0, .agg #[.int .i64 x1.from_, .int .i64 x1.n, .int .i64 x1.kind, .int .i64 x1.at_]] w fun e w' => e = .returned (.bool true) ∧ Below w.heap.size w w' := by
  have g0 := ho.low
  have g3 := ho.pos
  have g4 := ho.high
  have g1 : 0 ≤ x1.n := by omega
  have g2 : x1.n ≤ 16777216 - x1.from_ := by unfold fin at g4; omega
  have e9 : Hid ((over L0 x1).length ≤ 1000) := Lib.hid (by have := over_short L0 x1; rw [← hl0] at this; omega)
  have HV := Lib.hid hv
  have HO := Lib.hid ho
  have HOV : Hid (∀ (w1 : World), Below w.heap.size w w1 → Calls Try.prog 23 #[.slice a0 len0 cap0, .agg #[.int .i64 x1.from_, .int .i64 x1.n, .int .i64 x1.kind, .int .i64 x1.at_]] w1 (TupEnd (over L0 x1) w1)) := Lib.hid fun w1 h => over_yes L0 len0 cap0 hl0 (by unfold maxLen; omega) a0 x1 w1 (w0.below h) hv ho
  have HCK : Hid (∀ (w1 : World) (A : Option Addr) (n c : Nat), n = L0.length → Exs w1 A L0 → Calls Try.prog 16 #[.slice A n c] w1 fun e w' => e = .returned (.bool true) ∧ Below w1.heap.size w1 w') := Lib.hid fun w1 A n c h1 h2 => by have h3 := rcheck_any L0 n c h1 (by rw [h1, ← hl0]; unfold maxLen; omega) A w1 h2; rw [decide_eq_true hv] at h3; exact h3
  have HRO := Lib.hid (rone_any x1)
  rw [decide_eq_true ho] at HRO
  clear hv ho g3 g4
  have hl60 : len0 ≤ 60 := lm0
  have HX := Lib.hid w0
  have HL := Lib.hid hl0
  have hf : decide ((len0 : Int) ≤ 60) = true := decide_eq_true (by omega)
  have HF := Lib.hid (few_any len0 cap0 (by unfold maxLen; omega) a0)
  rw [hf] at HF
  clear hf
  obtain ⟨W, hW⟩ : ∃ W, W = w.alloc (.cells #[.int .i64 x1.from_, .int .i64 x1.n, .int .i64 x1.kind, .int .i64 x1.at_] 24) := ⟨_, rfl⟩
  have hox : Ox w x1 W := ⟨by rw [hW]; exact Blk.new w _ _, by rw [hW]; exact below_box w _⟩
  have HS : Hid (W.drew.cell? ⟨w.heap.size, 0, none⟩ = some (.int .i64 x1.from_) ∧ W.drew.cell? ⟨w.heap.size, 1, none⟩ = some (.int .i64 x1.n) ∧ W.drew.cell? ⟨w.heap.size, 2, none⟩ = some (.int .i64 x1.kind) ∧ W.drew.cell? ⟨w.heap.size, 3, none⟩ = some (.int .i64 x1.at_) ∧ Ox w x1 W.drew) := Lib.hid (ox_s (hox.below (Below.refl _ _).drew))
  have HSA : Hid (∀ cs : Array Value, ((W.alloc (.cells cs 29)).drew.cell? ⟨w.heap.size, 0, none⟩ = some (.int .i64 x1.from_) ∧ (W.alloc (.cells cs 29)).drew.cell? ⟨w.heap.size, 1, none⟩ = some (.int .i64 x1.n) ∧ (W.alloc (.cells cs 29)).drew.cell? ⟨w.heap.size, 2, none⟩ = some (.int .i64 x1.kind) ∧ (W.alloc (.cells cs 29)).drew.cell? ⟨w.heap.size, 3, none⟩ = some (.int .i64 x1.at_) ∧ Ox w x1 (W.alloc (.cells cs 29)).drew)) := Lib.hid fun cs => ox_s (hox.below (below_box W _).drew)
  have HXB : Hid (∀ (cs : Array Value) (w5 : World), Below (W.alloc (.cells cs 29)).drew.heap.size (W.alloc (.cells cs 29)).drew w5 → Blk w5 W.heap.size 29 cs) := Lib.hid fun cs w5 h5 => (show Blk (W.alloc (.cells cs 29)).drew W.heap.size 29 cs from Blk.new W _ _).below h5 (show W.heap.size < (W.alloc (.cells cs 29)).drew.heap.size from (Blk.new W 29 cs).lt)
  have HEX : Hid (w.heap.size < W.heap.size) := Lib.hid hox.blk.lt
  have HRF := Lib.hid (fun w1 (h : Below w.heap.size w w1) => refs_new L0 len0 cap0 HL.out (by omega) a0 w1 (HX.out.below h))
  obtain ⟨⟨a0', a1', a2', a3'⟩, _⟩ := cells4 hox.blk
  have HW := Lib.hid hW
  have HB0 := Lib.hid hox.bel
  clear hl0 w0 hW hox
  go_enter Try.func6, Try.ntmps6
  go_wp2_with fail
  rw [← HW.out]
  refine (HF.out _).mono ?_
  rintro r w1 ⟨rfl, rfl⟩
  clear HF
  go_wp2
  go_region_held3 (fun w' => (w'.cell? ⟨w.heap.size, 0, none⟩ = some (.int .i64 x1.from_) ∧ w'.cell? ⟨w.heap.size, 1, none⟩ = some (.int .i64 x1.n) ∧ w'.cell? ⟨w.heap.size, 2, none⟩ = some (.int .i64 x1.kind) ∧ w'.cell? ⟨w.heap.size, 3, none⟩ = some (.int .i64 x1.at_) ∧ Ox w x1 w')) (first | with_reducible exact HS.out | with_reducible exact HSA.out _ | with_reducible assumption | with_reducible exact ox_s ((ox_of (by assumption)).below (below_box _ _)) | with_reducible exact ox_s ((ox_of (by assumption)).far HEX.out _ _ _ _)) ((go_at_call 17; refine (HRF.out _ (ox_of (by assumption)).bel).mono ?_; rintro r w5 ⟨A1, n1, c1, rfl, hn1, hx1, hb1, hf1⟩; have HN1 := Lib.hid hn1; clear hn1; have hS5 := ox_s ((ox_of (by assumption)).below hb1); first | (have hx5 : Blk w5 W.heap.size 29 #[.int .i64 0, .int .i64 0, .int .i64 0, .int .i64 0] := (by with_reducible exact HXB.out _ _ hb1); obtain ⟨⟨z0, z1, z2, z3⟩, y0, y1, y2, y3⟩ := cells4 hx5) | (have hx5 : Blk w5 W.heap.size 29 #[.int .i64 x1.from_, .int .i64 x1.n, .int .i64 x1.kind, .int .i64 x1.at_] := (by with_reducible exact HXB.out _ _ hb1); obtain ⟨⟨z0, z1, z2, z3⟩, y0, y1, y2, y3⟩ := cells4 hx5) | skip))
  · obtain ⟨W6, hW6⟩ : ∃ W6, W6 = w5.alloc (.cells #[.int .i64 x1.from_, .int .i64 x1.n, .int .i64 x1.kind, .int .i64 x1.at_] 29) := ⟨_, rfl⟩
    obtain ⟨X, hX⟩ : ∃ X, X = w5.heap.size := ⟨_, rfl⟩
    have OZ : Hid (Oz w x1 X A1 L0 W6) := by
      show Oz _ _ _ _ _ _
      rw [hW6, hX]
      exact ⟨(ox_of hS5).below (below_box _ _), Blk.new w5 _ _, hx1.below (below_box _ _)⟩
    rw [← hW6, ← hX]
    clear hW6 hX hb1 hx1 hS5 HS HSA HXB HEX HRF a0' a1' a2' a3'
    obtain ⟨⟨d0, d1, d2, d3⟩, _⟩ := cells4 OZ.out.ox.blk
    go_wp2_with fail
    refine (HOV.out _ (OZ.out.ox.bel)).mono ?_
    rintro r w7 ⟨A2, n2, c2, rfl, hn2, hx2, hb7⟩
    have N2 := Lib.hid hn2
    have X2 := Lib.hid hx2
    have OZ7 := Lib.hid (OZ.out.below hb7)
    clear hb7 hn2 hx2 d0 d1 d2 d3
    go_wp2_with fail
    refine (HCK.out _ _ _ _ HN1.out OZ7.out.refs).mono ?_
    rintro r w8 ⟨rfl, hb8⟩
    have OZ8 := Lib.hid (OZ7.out.below hb8)
    have X3 := Lib.hid (X2.out.below hb8)
    clear hb8
    obtain ⟨⟨d0, d1, d2, d3⟩, _⟩ := cells4 OZ8.out.var
    go_wp2_with fail
    refine (HRO.out _).mono ?_
    rintro r w9 ⟨rfl, hb9⟩
    have OZ9 := Lib.hid (OZ8.out.below hb9)
    have X4 := Lib.hid (X3.out.below hb9)
    clear hb9 d0 d1 d2 d3
    go_wp2_with fail
    refine (awake_any _).mono ?_
    rintro r w4 ⟨rfl, hb4⟩
    have OZ4 := Lib.hid (OZ9.out.below hb4)
    have X5 := Lib.hid (X4.out.below hb4)
    clear hb4
    obtain ⟨⟨d0, d1, d2, d3⟩, _⟩ := cells4 OZ4.out.ox.blk
    obtain ⟨⟨b0, b1, b2, b3⟩, _⟩ := cells4 OZ4.out.var
    have hbx := below_box w4 (.cells #[.int .i64 x1.from_, .int .i64 x1.n, .int .i64 x1.kind, .int .i64 x1.at_] 29)
    have HH := Lib.hid (holds_yes (over L0 x1) L0 [x1] L0 n2 c2 len0 cap0 1 1 n1 c1 N2.out HL.out rfl HN1.out (by rw [N2.out]; exact e9.out) (by omega) (by omega) (by rw [HN1.out, ← HL.out]; omega) A2 a0 (some ⟨w4.heap.size, 0, none⟩) A1 x1.from_ x1.n g0 g1 g2 (w4.alloc (.cells #[.int .i64 x1.from_, .int .i64 x1.n, .int .i64 x1.kind, .int .i64 x1.at_] 29)) (X5.out.below hbx) (HX.out.below (OZ4.out.below hbx).ox.bel) (one_exs (Blk.new w4 _ _)) (OZ4.out.below hbx).refs (over_ok HV.out HO.out) HV.out.1 (fun e he => by rw [List.mem_singleton.1 he]; exact HO.out) HV.out.1 (fun s => by rw [over_say HV.out HO.out s]; unfold fin; by_cases h : x1.from_ ≤ s ∧ s < x1.from_ + x1.n; (rw [if_pos h, if_pos h, say_one, if_pos (by unfold fin; exact h)]); (rw [if_neg h, if_neg h])))
    have BX := Lib.hid (OZ4.out.below hbx).ox.bel
    clear hbx
    go_wp2_with fail
    refine (HH.out).mono ?_
    rintro r w5 ⟨rfl, hb5⟩
    have B5 := Lib.hid (below_kept BX.out hb5)
    clear hb5 HH
    go_wp2
    go_ret
    exact ⟨rfl, B5.out⟩
  · obtain ⟨W6, hW6⟩ : ∃ W6, W6 = ((((w5.setCell ⟨W.heap.size, 0, none⟩ (.int .i64 x1.from_)).setCell ⟨W.heap.size, 1, none⟩ (.int .i64 x1.n)).setCell ⟨W.heap.size, 2, none⟩ (.int .i64 x1.kind)).setCell ⟨W.heap.size, 3, none⟩ (.int .i64 x1.at_)) := ⟨_, rfl⟩
    obtain ⟨X, hX⟩ : ∃ X, X = W.heap.size := ⟨_, rfl⟩
    have OZ : Hid (Oz w x1 X A1 L0 W6) := by
      show Oz _ _ _ _ _ _
      rw [hW6, hX]
      exact ⟨(ox_of hS5).far HEX.out _ _ _ _, stored4 hx5 _ _ _ _, exs_far hx1 (fun x hx => by have := hf1 x hx; simp at this; omega) _ _ _ _⟩
    rw [← hW6, ← hX]
    clear hW6 hX hb1 hx1 hS5 HS HSA HXB HEX HRF a0' a1' a2' a3'
    obtain ⟨⟨d0, d1, d2, d3⟩, _⟩ := cells4 OZ.out.ox.blk
    go_wp2_with fail
    refine (HOV.out _ (OZ.out.ox.bel)).mono ?_
    rintro r w7 ⟨A2, n2, c2, rfl, hn2, hx2, hb7⟩
    have N2 := Lib.hid hn2
    have X2 := Lib.hid hx2
    have OZ7 := Lib.hid (OZ.out.below hb7)
    clear hb7 hn2 hx2 d0 d1 d2 d3
    go_wp2_with fail
    refine (HCK.out _ _ _ _ HN1.out OZ7.out.refs).mono ?_
    rintro r w8 ⟨rfl, hb8⟩
    have OZ8 := Lib.hid (OZ7.out.below hb8)
    have X3 := Lib.hid (X2.out.below hb8)
    clear hb8
    obtain ⟨⟨d0, d1, d2, d3⟩, _⟩ := cells4 OZ8.out.var
    go_wp2_with fail
    refine (HRO.out _).mono ?_
    rintro r w9 ⟨rfl, hb9⟩
    have OZ9 := Lib.hid (OZ8.out.below hb9)
    have X4 := Lib.hid (X3.out.below hb9)
    clear hb9 d0 d1 d2 d3
    go_wp2_with fail
    refine (awake_any _).mono ?_
    rintro r w4 ⟨rfl, hb4⟩
    have OZ4 := Lib.hid (OZ9.out.below hb4)
    have X5 := Lib.hid (X4.out.below hb4)
    clear hb4
    obtain ⟨⟨d0, d1, d2, d3⟩, _⟩ := cells4 OZ4.out.ox.blk
    obtain ⟨⟨b0, b1, b2, b3⟩, _⟩ := cells4 OZ4.out.var
    have hbx := below_box w4 (.cells #[.int .i64 x1.from_, .int .i64 x1.n, .int .i64 x1.kind, .int .i64 x1.at_] 29)
    have HH := Lib.hid (holds_yes (over L0 x1) L0 [x1] L0 n2 c2 len0 cap0 1 1 n1 c1 N2.out HL.out rfl HN1.out (by rw [N2.out]; exact e9.out) (by omega) (by omega) (by rw [HN1.out, ← HL.out]; omega) A2 a0 (some ⟨w4.heap.size, 0, none⟩) A1 x1.from_ x1.n g0 g1 g2 (w4.alloc (.cells #[.int .i64 x1.from_, .int .i64 x1.n, .int .i64 x1.kind, .int .i64 x1.at_] 29)) (X5.out.below hbx) (HX.out.below (OZ4.out.below hbx).ox.bel) (one_exs (Blk.new w4 _ _)) (OZ4.out.below hbx).refs (over_ok HV.out HO.out) HV.out.1 (fun e he => by rw [List.mem_singleton.1 he]; exact HO.out) HV.out.1 (fun s => by rw [over_say HV.out HO.out s]; unfold fin; by_cases h : x1.from_ ≤ s ∧ s < x1.from_ + x1.n; (rw [if_pos h, if_pos h, say_one, if_pos (by unfold fin; exact h)]); (rw [if_neg h, if_neg h])))
    have BX := Lib.hid (OZ4.out.below hbx).ox.bel
    clear hbx
    go_wp2_with fail
    refine (HH.out).mono ?_
    rintro r w5 ⟨rfl, hb5⟩
    have B5 := Lib.hid (below_kept BX.out hb5)
    clear hb5 HH
    go_wp2
    go_ret
    exact ⟨rfl, B5.out⟩

theorem walk (a0 : Option Addr) (len0 cap0 : Nat) (L0 : List EX.Ext) (x1 : EX.Ext) (w : World) (hl0 : len0 = L0.length) (lm0 : len0 ≤ maxLen) (w0 : EX.Exs w a0 L0) (wf0 : ∀ e ∈ L0, EX.WfE e) (w1 : EX.WfE x1) :
    Calls Try.prog 6 #[.slice a0 len0 cap0, .agg #[.int .i64 x1.from_, .int .i64 x1.n, .int .i64 x1.kind, .int .i64 x1.at_]] w fun e w' => e = .returned (.bool true) ∧ Below w.heap.size w w' := by
  by_cases hf : len0 ≤ 60
  · by_cases hv : Valid L0
    · by_cases ho : EX.One x1
      · exact yes a0 len0 cap0 L0 x1 w hl0 hf w0 hv ho
      · refine far a0 len0 cap0 L0 x1 w hl0 hf w0 true ?_ (Lib.hid fun _ => Lib.hid fun wq => ?_) ?_
        · exact Lib.hid fun w1 A n c h1 h2 => by have h3 := rcheck_any L0 n c h1 (by rw [h1, ← hl0]; unfold maxLen; omega) A w1 h2; rw [decide_eq_true hv] at h3; exact h3
        · have h := rone_any x1 wq
          rw [decide_eq_false ho] at h
          exact h
        · exact Lib.hid fun wq h => over_far L0 len0 cap0 hl0 lm0 a0 x1 wq (w0.below h) wf0 hv w1 ho
    · refine far a0 len0 cap0 L0 x1 w hl0 hf w0 false ?_ (Lib.hid fun h => by cases h) ?_
      · exact Lib.hid fun w1 A n c h1 h2 => by have h3 := rcheck_any L0 n c h1 (by rw [h1, ← hl0]; unfold maxLen; omega) A w1 h2; rw [decide_eq_false hv] at h3; exact h3
      · exact Lib.hid fun wq h => over_bad L0 len0 cap0 hl0 lm0 a0 x1 wq (w0.below h) wf0 hv
  · exact big a0 len0 cap0 L0 x1 w lm0 hf

set_option maxRecDepth 100000 in
theorem lifted (os : Os) (started : os.Started) (H : Type) (enc : TypeId × Value → H) :
    ReturnsInHanded {} Try.checked os 6 .any (Rows.extOversSpec.pre6 enc Try.prog Try.f6 Rows.extOversRow.domain false) (Rows.extOversSpec.post enc Try.prog Try.f6 false true false false) := by
  refine returnsInHanded_of_change_sized (C := Try.checked) own started (by kernel_rfl) Try.func6
    (ChangeSpec.witness6 (enc := enc) (C := Try.checked) false ⟨#[], #[.slice none 0 0, .agg #[.int .i64 0, .int .i64 0, .int .i64 0, .int .i64 0]], []⟩ 8 (by kernel_rfl) (by kernel_rfl) (by kernel_rfl) (by kernel_rfl)) ?_
  intro W base args ds gs before hval0 hW hcnd hsz0 _
  have hval : ∀ (j : Nat) t v, Try.f6.params[j]? = some t → args[j]? = some v → Value.okWide Try.prog W .any base t v := hval0
  have hW' := hW
  obtain ⟨p, q, hA0, hV, rfl, hfz, hnd⟩ := hW
  have hA : DataW.TrodAll enc Try.prog W 0 (fun _ => true) true Try.f6.params.toList args.toList ds p := hA0
  have hsz : (DataW.weightsEach Try.prog (Try.f6.params.toList ++ Rows.extOversSpec.plain.varTypes Try.prog) (ds ++ gs)).all (· ≤ reachBytes) = true := hsz0
  rw [Try.params6] at hA hval hsz
  obtain ⟨v0, vs0, d0, ds0, p0, q0, hargs, rfl, rfl, h0, r0⟩ := trodAll_cons hA
  obtain ⟨v1, vs1, d1, ds1, p1, q1, rfl, rfl, rfl, h1, r1⟩ := trodAll_cons r0
  obtain ⟨rfl, rfl, rfl⟩ := trodAll_nil r1
  obtain rfl : args = #[v0, v1] := by cases args; simp_all
  obtain ⟨rfl, rfl⟩ := trodVars_none hV
  have k0 := h0
  have lt0 : ∀ x ∈ p0, x.block < W.heap.size := by obtain ⟨m, hm⟩ := k0; exact DataW.trod_lt m _ _ _ hm
  obtain ⟨a0, len0, cap0, L0, rfl, hl0, lm0, w0, wf0⟩ := OP.open_exts (hval 0 22 v0 rfl rfl) h0
  have k1 := h1
  have lt1 : ∀ x ∈ p1, x.block < W.heap.size := by obtain ⟨m, hm⟩ := k1; exact DataW.trod_lt m _ _ _ hm
  obtain ⟨x1, rfl, w1⟩ := OP.open_ext (hval 1 24 v1 rfl rfl) h1
  clear hA0 hval0 hsz0
  refine (walk a0 len0 cap0 L0 x1 W hl0 lm0 w0 wf0 w1).mono fun e W' ⟨he, bel⟩ => ?_
  subst he
  exact ⟨_, rfl, _, _, _, [], _, [], hW', trodAll_mk1 (shut_bool Try.underlying4 _), (trodAll_cons_mk (Below.trod laidOut (by kernel_rfl) (of_decide_eq_true (by kernel_rfl)) k0 bel lt0) (trodAll_cons_mk (Below.trod laidOut (by kernel_rfl) (of_decide_eq_true (by kernel_rfl)) k1 bel lt1) trodAll_mk0)), rfl, bel.frame _, fun h => by cases h⟩

theorem over : Rows.extOversRow.holds Try.pinned (OpenSpec.ofChange Rows.extOversSpec) :=
  OpenClaim.holds_of_wide 6 Try.f6 rfl rfl rfl rfl rfl rfl rfl ⟨rfl, rfl, rfl, rfl, rfl⟩ rfl rfl rfl rfl rfl (by kernel_rfl) Try.func6 (by kernel_rfl)
    (of_decide_eq_true (by kernel_rfl)) (by unfold Func.isWrapper; first | (rw [if_pos (by decide +kernel)]; kernel_rfl) | (rw [if_neg (by decide +kernel)]; exact ⟨rfl, rfl⟩))
    (fun os started H enc _ => lifted os started H enc)

theorem proved : Rows.ExtOversSaid := over
#print axioms proved
end Go.Proofs.Ytomncnelkkmalaa.extOvers
