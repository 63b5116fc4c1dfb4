/- 2 texts laid together: each says at its head what it proves. No condition but those that each theorem names. -/
import Derived.Test.YtdjlflinepefbabGreatQ34
import Derived.WalkSpells
import Derived.WalkLawsBesides
import Derived.Outline
import Derived.BigQuiet
import Derived.Deep.QuietTactic
import Derived.IntWalk
import Derived.Lib.Hide
import Derived.Test.YtdjlflinepefbabGreatProg
import Derived.WalkKit
import Derived.LaidEql
import Derived.LaidEqlPtr
import Derived.Stop.Asserts
import Derived.RowKitTokens
import Derived.Below
import Derived.Deep.LoopGhost

/- What the array's small methods answer: those that change nothing. -/
namespace Go.Proofs.YtdjlflinepefbabGreat
namespace ND
open Go.RowKit MM
set_option linter.unusedVariables false
set_option linter.unusedSimpArgs false

/-- An error's number as a value. -/
def errV (c : Int) : Value := if c = 0 then .nilIface else .iface 51 (.int .i64 c)

theorem ready_down {w : World} {r : Ref} {d : Nd} (h : NandAt w r d) (hd : d.down = true) :
    Calls Tryz.prog 144 #[(.pointer (some ⟨r.pb, 0, none⟩))] w fun e w' => e = .returned (.iface 51 (.int .i64 9)) ∧ w = w' := by
  obtain ⟨_, _, _, _, _, _, _, c7⟩ := h.cells
  clear h
  rw [hd] at c7
  clear hd
  go_enter Tryz.func144, Tryz.ntmps144
  go_wp2
  go_ret
  exact ⟨rfl, rfl⟩
theorem ready_up {w : World} {r : Ref} {d : Nd} (h : NandAt w r d) (hd : d.down = false) :
    Calls Tryz.prog 144 #[(.pointer (some ⟨r.pb, 0, none⟩))] w fun e w' => e = .returned .nilIface ∧ w = w' := by
  obtain ⟨_, _, _, _, _, _, _, c7⟩ := h.cells
  clear h
  rw [hd] at c7
  clear hd
  go_enter Tryz.func144, Tryz.ntmps144
  go_wp2
  go_ret
  exact ⟨rfl, rfl⟩
theorem ready_nil (w : World) : Calls Tryz.prog 144 #[.pointer none] w fun e w' => e = .returned (.iface 51 (.int .i64 1)) ∧ w = w' := by
  go_enter Tryz.func144, Tryz.ntmps144
  go_wp2
  go_ret
  exact ⟨rfl, rfl⟩

theorem hasPage_any {w : World} {r : Ref} {d : Nd} (h : NandAt w r d) (p : Int) :
    Calls Tryz.prog 145 #[(.pointer (some ⟨r.pb, 0, none⟩)), .int .i64 p] w fun e w' => e = .returned (.bool (d.hasPage p)) ∧ w = w' := by
  obtain ⟨_, _, c2, _⟩ := h.cells
  clear h
  unfold Nd.hasPage
  obtain ⟨n, hn⟩ : ∃ n, n = d.B * d.P := ⟨_, rfl⟩
  rw [← hn] at c2 ⊢
  clear hn
  by_cases h0 : 0 ≤ p
  · go_enter Tryz.func145, Tryz.ntmps145
    go_wp2
    go_ret
    simp [h0]
  · go_enter Tryz.func145, Tryz.ntmps145
    go_wp2
    go_ret
    simp [h0] <;> omega
theorem cut_any (s : ByteArray) (w : World) (hs : s.size ≤ maxLen) : Calls Tryz.prog 179 #[.string s] w fun e w' => e = .returned (.string (cut s)) ∧ w = w' := by
  unfold maxLen at hs
  go_enter Tryz.func179, Tryz.ntmps179
  go_wp2
  · go_ret
    refine ⟨?_, rfl⟩
    unfold cut
    rw [Nat.min_eq_right (by omega)]; rfl
  · go_ret
    refine ⟨?_, rfl⟩
    unfold cut
    rw [Nat.min_eq_left (by omega), ByteArray.extract_zero_size]; rfl
theorem place_any {w : World} {r : Ref} {d : Nd} (h : NandAt w r d) (hp : 0 < d.P) (p : Nat) (hp2 : p ≤ 1000000) :
    Calls Tryz.prog 141 #[(.pointer (some ⟨r.pb, 0, none⟩)), .int .i64 p] w fun e w' => e = .returned (.tuple #[.int .i64 (p / d.P : Nat), .int .i64 (p % d.P : Nat)]) ∧ Below w.heap.size w w' := by
  obtain ⟨_, c1, _⟩ := h.cells
  clear h
  have hle : p / d.P ≤ p := Nat.div_le_self _ _
  have hw : wrap64 ((p : Int) / (d.P : Int)) = ((p / d.P : Nat) : Int) := by
    rw [← Int.natCast_ediv]
    have aux : ∀ q : Nat, q ≤ 1000000 → wrap64 (q : Int) = q := by intro q hq; unfold wrap64; omega
    exact aux _ (Nat.le_trans hle hp2)
  have hm : (p : Int) % (d.P : Int) = ((p % d.P : Nat) : Int) := by omega
  go_enter Tryz.func141, Tryz.ntmps141
  go_wp2
  go_quiet (fail)
  go_wp2
  go_ret2
  rw [hw, hm]
  exact ⟨rfl, drewN_below (Below.refl _ _) _⟩
theorem page_facts {d : Nd} (ok : d.Ok) {p : Int} (hp : d.hasPage p = true) : ∃ q : Nat, p = q ∧ q < d.B * d.P ∧ q ≤ 1000000 ∧ 0 < d.P ∧ q / d.P < d.B ∧ (q : Int).toNat = q := by
  have hq0 : 0 ≤ p ∧ p < (d.B * d.P : Nat) := by unfold Nd.hasPage at hp; simp at hp; exact ⟨hp.1, by exact_mod_cast hp.2⟩
  have hP0 : 0 < d.P := by have := ok.p1; omega
  have h1 : d.B * d.P ≤ 64 * 32 := Nat.mul_le_mul ok.b2 ok.p2
  exact ⟨p.toNat, by omega, by omega, by omega, hP0, by rw [Nat.div_lt_iff_lt_mul hP0]; omega, by omega⟩
theorem block_facts {d : Nd} (ok : d.Ok) {p : Int} (hp : d.hasBlock p = true) : ∃ q : Nat, p = q ∧ q < d.B ∧ (q : Int).toNat = q ∧ (0 : Int) ≤ (q : Int) ∧ (q : Int) < (d.B : Int) := by
  have hq0 : 0 ≤ p ∧ p < (d.B : Int) := by unfold Nd.hasBlock at hp; simp at hp; exact hp
  exact ⟨p.toNat, by omega, by omega, by omega, by omega, by omega⟩
theorem mayProgram_any {w : World} {r : Ref} {d : Nd} (h : NandAt w r d) (ok : d.Ok) (p : Int) (s : ByteArray) :
    Calls Tryz.prog 138 #[(.pointer (some ⟨r.pb, 0, none⟩)), .int .i64 p, .string s] w fun e w' => e = .returned (errV (d.mayProgram p s)) ∧ Below w.heap.size w w' := by
  have HP := Lib.hid (hasPage_any h p)
  have HN := Lib.hid h
  clear h
  unfold Nd.mayProgram
  cases hd : d.down with
  | true =>
    have HR := Lib.hid (ready_down HN.out hd)
    simp only [if_true]
    clear hd
    go_enter Tryz.func138, Tryz.ntmps138
    go_wp2_with fail
    refine HR.out.mono ?_
    rintro e w1 ⟨rfl, rfl⟩
    go_wp2
    go_ret
    exact ⟨rfl, Below.refl _ _⟩
  | false =>
    have HR := Lib.hid (ready_up HN.out hd)
    simp only [Bool.false_eq_true, if_false]
    clear hd
    cases hp : d.hasPage p with
    | false =>
      rw [hp] at HP
      simp only [true_or, if_true]
      clear hp
      go_enter Tryz.func138, Tryz.ntmps138
      go_wp2_with fail
      refine HR.out.mono ?_
      rintro e w1 ⟨rfl, rfl⟩
      go_wp2_with fail
      refine HP.out.mono ?_
      rintro e w1 ⟨rfl, rfl⟩
      go_wp2
      go_ret
      exact ⟨rfl, Below.refl _ _⟩
    | true =>
      rw [hp] at HP
      obtain ⟨q, rfl, hq, hq2, hP0, hb, hrep⟩ := page_facts ok hp
      obtain ⟨_, _, _, c3, _⟩ := HN.out.cells
      obtain ⟨c4, _, c5⟩ := HN.out.blocks.cell hb
      have HPL := Lib.hid (place_any HN.out hP0 q hq2)
      have HS := HN.out.own.lt
      have HS2 := HN.out.blocks.lt
      rw [hrep]
      obtain ⟨b, hbq⟩ : ∃ b, b = q / d.P := ⟨_, rfl⟩
      obtain ⟨m, hmq⟩ : ∃ m, m = q % d.P := ⟨_, rfl⟩
      rw [← hbq] at hb c4 c5 HPL ⊢
      rw [← hmq] at HPL ⊢
      simp only [Bool.true_eq_false, false_or]
      clear hp hrep hbq hmq hq hq2 hP0 HN
      by_cases hs : 128 < s.size
      · rw [if_pos hs]
        go_enter Tryz.func138, Tryz.ntmps138
        go_wp2_with fail
        refine HR.out.mono ?_
        rintro e w1 ⟨rfl, rfl⟩
        go_wp2_with fail
        refine HP.out.mono ?_
        rintro e w1 ⟨rfl, rfl⟩
        go_wp2
        go_ret
        exact ⟨rfl, Below.refl _ _⟩
      · rw [if_neg hs]
        go_enter Tryz.func138, Tryz.ntmps138
        go_wp2_with fail
        refine HR.out.mono ?_
        rintro e w1 ⟨rfl, rfl⟩
        go_wp2_with fail
        refine HP.out.mono ?_
        rintro e w1 ⟨rfl, rfl⟩
        go_wp2_with fail
        refine HPL.out.mono ?_
        rintro e w1 ⟨rfl, hb1⟩
        have d3 := (hb1.cell (p := ⟨r.pb, 3, none⟩) HS).trans c3
        have d4 := (hb1.cell (p := ⟨r.gb, b * 3, none⟩) HS2).trans c4
        have d5 := (hb1.cell (p := ⟨r.gb, b * 3 + 2, none⟩) HS2).trans c5
        have HB1 := Lib.hid hb1
        have e1 : (0 : Int) ≤ (b : Int) := by omega
        have e2 : (b : Int) < (d.B : Int) := by omega
        clear hb1 c3 c4 c5
        go_wp2
        all_goals (go_ret; refine ⟨?_, HB1.out⟩; first | rfl | (exfalso; clear HB1 HPL HR HP d3 d4 d5; simp_all; done) | (exfalso; clear HB1 HPL HR HP d3 d4 d5; simp_all; omega))
theorem read_any {w : World} {r : Ref} {d : Nd} (h : NandAt w r d) (ok : d.Ok) (p : Int) :
    Calls Tryz.prog 98 #[(.pointer (some ⟨r.pb, 0, none⟩)), .int .i64 p] w fun e w' => e = .returned (.tuple #[.string (d.read p).1, errV (d.read p).2]) ∧ Below w.heap.size w w' := by
  have HP := Lib.hid (hasPage_any h p)
  have HN := Lib.hid h
  clear h
  unfold Nd.read
  cases hd : d.down with
  | true =>
    have HR := Lib.hid (ready_down HN.out hd)
    simp only [if_true]
    clear hd
    go_enter Tryz.func98, Tryz.ntmps98
    go_wp2_with fail
    refine HR.out.mono ?_
    rintro e w1 ⟨rfl, rfl⟩
    go_wp2
    go_ret2
    exact ⟨rfl, Below.refl _ _⟩
  | false =>
    have HR := Lib.hid (ready_up HN.out hd)
    simp only [Bool.false_eq_true, if_false]
    clear hd
    cases hp : d.hasPage p with
    | false =>
      rw [hp] at HP
      simp only [if_true]
      clear hp
      go_enter Tryz.func98, Tryz.ntmps98
      go_wp2_with fail
      refine HR.out.mono ?_
      rintro e w1 ⟨rfl, rfl⟩
      go_wp2_with fail
      refine HP.out.mono ?_
      rintro e w1 ⟨rfl, rfl⟩
      go_wp2
      go_ret2
      exact ⟨rfl, Below.refl _ _⟩
    | true =>
      rw [hp] at HP
      obtain ⟨q, rfl, hq, hq2, hP0, hb, hrep⟩ := page_facts ok hp
      obtain ⟨_, _, c2, c3, _⟩ := HN.out.cells
      obtain ⟨c4, _, _⟩ := HN.out.blocks.cell hb
      have c6 := HN.out.pages.cell hq
      have HPL := Lib.hid (place_any HN.out hP0 q hq2)
      have HS := HN.out.own.lt
      have HS2 := HN.out.blocks.lt
      have HS3 := HN.out.pages.lt
      rw [hrep]
      obtain ⟨b, hbq⟩ : ∃ b, b = q / d.P := ⟨_, rfl⟩
      obtain ⟨m, hmq⟩ : ∃ m, m = q % d.P := ⟨_, rfl⟩
      rw [← hbq] at hb c4 HPL ⊢
      rw [← hmq] at HPL ⊢
      simp only [Bool.true_eq_false, if_false]
      obtain ⟨n, hn⟩ : ∃ n, n = d.B * d.P := ⟨_, rfl⟩
      rw [← hn] at hq c2
      clear hp hrep hbq hmq hq2 hP0 HN hn
      go_enter Tryz.func98, Tryz.ntmps98
      go_wp2_with fail
      refine HR.out.mono ?_
      rintro e w1 ⟨rfl, rfl⟩
      go_wp2_with fail
      refine HP.out.mono ?_
      rintro e w1 ⟨rfl, rfl⟩
      go_wp2_with fail
      refine HPL.out.mono ?_
      rintro e w1 ⟨rfl, hb1⟩
      have d2 := (hb1.cell (p := ⟨r.pb, 2, none⟩) HS).trans c2
      have d3 := (hb1.cell (p := ⟨r.pb, 3, none⟩) HS).trans c3
      have d4 := (hb1.cell (p := ⟨r.gb, b * 3, none⟩) HS2).trans c4
      have d6 := (hb1.cell (p := ⟨r.gp, q, none⟩) HS3).trans c6
      have HB1 := Lib.hid hb1
      have e1 : (0 : Int) ≤ (b : Int) := by omega
      have e2 : (b : Int) < (d.B : Int) := by omega
      have e3 : (0 : Int) ≤ (q : Int) := by omega
      have e4 : (q : Int) < (n : Int) := by omega
      clear hb1 c2 c3 c4 c6
      go_wp2
      all_goals (go_ret2; refine ⟨?_, HB1.out⟩; first | rfl | (rw [if_pos (by clear HB1 HPL HR HP; omega)]; rfl) | (rw [if_neg (by clear HB1 HPL HR HP; omega)]; rfl))
def Nd.nextAt (d : Nd) (b : Int) : Int := if d.hasBlock b = true then d.next b.toNat else 0
def Nd.wornAt (d : Nd) (b : Int) : Int := if d.hasBlock b = true then d.worn b.toNat else 0
def Nd.badAt (d : Nd) (b : Int) : Bool := if d.hasBlock b = true then d.bad b.toNat else false
theorem run_max2 (ts : Array TypeId) (t : TypeId) (a b : Int) (w : World) : (Builtin.max_ ts t #[.int .i64 a, .int .i64 b]).run Tryz.prog w = .ok (.int .i64 (max a b)) w := by
  have e : (if a < b then b else a) = max a b := by omega
  rw [← e]
  simp [Builtin.max_, Builtin.max2]
theorem run_min2 (ts : Array TypeId) (t : TypeId) (a b : Int) (w : World) : (Builtin.min_ ts t #[.int .i64 a, .int .i64 b]).run Tryz.prog w = .ok (.int .i64 (min a b)) w := by
  have e : (if b < a then b else a) = min a b := by omega
  rw [← e]
  simp [Builtin.min_, Builtin.min2]
theorem spoilt_any (m : Mis) (s : ByteArray) (w : World) (hj : m.junk.size ≤ 128) (hs : s.size ≤ 128) :
    Calls Tryz.prog 140 #[misV m, .string s] w fun e w' => e = .returned (.string (spoilt m s)) ∧ Below w.heap.size w w' := by
  have hmx := run_max2 #[3, 3] 3 m.keep 0
  have hmn := run_min2 #[3, 3] 3 (max m.keep 0) s.size
  unfold misV spoilt
  have hk : min (max m.keep 0) (s.size : Int) = (keepOf m s : Nat) := by unfold keepOf; omega
  have hks : keepOf m s ≤ s.size := by unfold keepOf; omega
  obtain ⟨k, hkk⟩ : ∃ k, k = keepOf m s := ⟨_, rfl⟩
  rw [hk, ← hkk] at hmn
  rw [← hkk] at hks ⊢
  obtain ⟨x, hx⟩ : ∃ x, x = max m.keep 0 := ⟨_, rfl⟩
  rw [← hx] at hmx hmn
  have e1 : (0 : Int) ≤ (k : Int) := by omega
  have e2 : (k : Int) ≤ (s.size : Int) := by omega
  have HCUT := Lib.hid (fun (t : ByteArray) (w' : World) (ht : t.size ≤ maxLen) => cut_any t w' ht)
  have HSZ : Hid ((s.extract 0 k ++ m.junk).size ≤ maxLen) := by
    show _ ≤ _
    rw [ByteArray.size_append, ByteArray.size_extract]
    unfold maxLen
    omega
  have hadd : ∀ w' : World, (Op.stringOp .add (s.extract 0 k) m.junk).run Tryz.prog w' = .ok (.string (s.extract 0 k ++ m.junk)) w' := fun w' => run_string_add_sum w' _ _ (by rw [ByteArray.size_extract]; omega)
  clear hk hkk hx
  go_enter Tryz.func140, Tryz.ntmps140
  go_wp2
  go_quiet (exact Calls.quiet_of_same ((HCUT.out _ _ HSZ.out).mono fun e w1 h => ⟨h.1, h.2.symm⟩))
  go_wp2
  go_ret
  exact ⟨rfl, drewN_below ((Below.refl _ _).alloc (Nat.le_refl _) _) _⟩
end ND
end Go.Proofs.YtdjlflinepefbabGreat

/- How an error lies in memory, as a tree; and what the model's own entries for internal/reflectlite answer at the two targets that package fault hands to errors.As. No condition but those that each theorem names. -/
namespace Go.Proofs.YtdjlflinepefbabGreat
namespace ER
open Go.RowKit Go.Extern.Stop Go.Stop Go.Extern
set_option linter.unusedVariables false
set_option linter.unusedSimpArgs false

/-- The value v is the error E in the world w, all that it is made of in blocks that meet P. -/
def IsErrP (w : World) (P : Nat → Prop) : Er → Value → Prop
  | .num c, v => v = .iface 51 (.int .i64 c) ∧ (Lit.int .i64 c).wf = true
  | .str, _ => False
  | .fault op n e, v => ∃ b x, v = .iface 136 (.pointer (some ⟨b, 0, none⟩)) ∧ P b ∧ w.heap[b]? = some (.cells #[.string op, .int .i64 n, x] 140 (0, 0)) ∧ (Lit.int .i64 n).wf = true ∧ op.size ≤ maxLen ∧ IsErrP w P e x
  | .join _ _, _ => False
/-- .. in blocks below B. -/
def IsErr (w : World) (B : Nat) (E : Er) (v : Value) : Prop := IsErrP w (fun b => b < B) E v

theorem IsErrP.keep {w w' : World} {P : Nat → Prop} (hk : ∀ k, P k → w'.heap[k]? = w.heap[k]?) : ∀ {E : Er} {v : Value}, IsErrP w P E v → IsErrP w' P E v := by
  intro E
  induction E with
  | num c => intro v h; exact h
  | str => intro v h; exact h
  | fault op n e ih =>
    rintro v ⟨b, x, hv, hb, hh, hn, hs, he⟩
    exact ⟨b, x, hv, hb, by rw [hk b hb]; exact hh, hn, hs, ih he⟩
  | join n k ih =>
    intro v h; exact h
theorem IsErrP.more {w : World} {P P' : Nat → Prop} (hP : ∀ k, P k → P' k) : ∀ {E : Er} {v : Value}, IsErrP w P E v → IsErrP w P' E v := by
  intro E
  induction E with
  | num c => intro v h; exact h
  | str =>
    intro v h; exact h
  | fault op n e ih =>
    rintro v ⟨b, x, hv, hb, hh, hn, hs, he⟩
    exact ⟨b, x, hv, hP b hb, hh, hn, hs, ih he⟩
  | join n k ih =>
    intro v h; exact h
theorem IsErrP.iface {w : World} {P : Nat → Prop} {E : Er} {v : Value} (h : IsErrP w P E v) : ∃ t x, v = .iface t x := by
  cases E with
  | num c => exact ⟨_, _, h.1⟩
  | str =>
    exact h.elim
  | fault op n e => obtain ⟨b, x, hv, _⟩ := h; exact ⟨_, _, hv⟩
  | join n k =>
    exact h.elim
theorem IsErrP.isErr {w : World} {P : Nat → Prop} {B : Nat} {E : Er} {v : Value} (h : IsErrP w P E v) (hP : ∀ k, P k → k < B) : IsErr w B E v := h.more hP
theorem IsErrP.below {w w' : World} {B : Nat} {E : Er} {v : Value} (h : IsErrP w (fun b => b < B) E v) (hb : Below B w w') : IsErr w' B E v := IsErrP.keep hb.block h
theorem IsErr.keep {w w' : World} {B : Nat} (hk : ∀ k, k < B → w'.heap[k]? = w.heap[k]?) {E : Er} {v : Value} (h : IsErr w B E v) : IsErr w' B E v := IsErrP.keep hk h
theorem IsErr.below {w w' : World} {B : Nat} {E : Er} {v : Value} (h : IsErr w B E v) (hb : Below B w w') : IsErr w' B E v := h.keep hb.block
theorem IsErr.more {w : World} {B B' : Nat} (hB : B ≤ B') {E : Er} {v : Value} (h : IsErr w B E v) : IsErr w B' E v := IsErrP.more (fun k hk => Nat.lt_of_lt_of_le hk hB) h
theorem IsErr.drew {w : World} {B : Nat} {E : Er} {v : Value} (h : IsErr w B E v) : IsErr w.drew B E v := IsErr.keep (w := w) (w' := w.drew) (fun k _ => rfl) h
theorem IsErr.iface {w : World} {B : Nat} {E : Er} {v : Value} (h : IsErr w B E v) : ∃ t x, v = .iface t x := IsErrP.iface h

/-! ### The method sets: what the assertions of errors.as and errors.is find -/
theorem noUnN (v : Value) (xT : TypeId) (w : World) : (Instr.typeAssert (.iface 51 v) xT 299 true).run Tryz.prog w = .ok (.tuple #[.nilIface, .bool false]) w := run_typeAssert_lacksB Tryz.underlying299 (by kernel_rfl) (by kernel_rfl) v xT w
theorem noUnsN (v : Value) (xT : TypeId) (w : World) : (Instr.typeAssert (.iface 51 v) xT 300 true).run Tryz.prog w = .ok (.tuple #[.nilIface, .bool false]) w := run_typeAssert_lacksB Tryz.underlying300 (by kernel_rfl) (by kernel_rfl) v xT w
theorem hasUnF (v : Value) (xT : TypeId) (w : World) : (Instr.typeAssert (.iface 136 v) xT 299 true).run Tryz.prog w = .ok (.tuple #[.iface 136 v, .bool true]) w := run_typeAssert_hasB Tryz.underlying299 (by kernel_rfl) v xT w
theorem methodUnF (v : Value) (w : World) : (Go.method 441 136 v "Unwrap").run Tryz.prog w = .ok (222, v) w := by kernel_rfl

/-! ### internal/reflectlite's types: the methods of a type's handle -/
theorem rtKind (h : Value) (w : World) : (Go.method 441 294 (.agg #[h]) "Kind").run Tryz.prog w = .ok (239, h) w := by kernel_rfl
theorem rtElem (h : Value) (w : World) : (Go.method 441 294 (.agg #[h]) "Elem").run Tryz.prog w = .ok (243, .agg #[h]) w := by kernel_rfl
theorem rtImplements (h : Value) (w : World) : (Go.method 441 294 (.agg #[h]) "Implements").run Tryz.prog w = .ok (244, .agg #[h]) w := by kernel_rfl
theorem rtAssignableTo (h : Value) (w : World) : (Go.method 441 294 (.agg #[h]) "AssignableTo").run Tryz.prog w = .ok (241, .agg #[h]) w := by kernel_rfl
theorem rtComparable (h : Value) (w : World) : (Go.method 441 294 (.agg #[h]) "Comparable").run Tryz.prog w = .ok (242, .agg #[h]) w := by kernel_rfl
theorem typeOfN (v : Value) (w : World) : (ReflectliteType.typeOf #[.iface 51 v]).run Tryz.prog w = .ok (.iface 294 (.agg #[.pointer (some ⟨0, 51, none⟩)])) w := by kernel_rfl
theorem typeOfF (v : Value) (w : World) : (ReflectliteType.typeOf #[.iface 136 v]).run Tryz.prog w = .ok (.iface 294 (.agg #[.pointer (some ⟨0, 136, none⟩)])) w := by kernel_rfl
theorem comparableN (w : World) : ((ReflectliteType.method fun t => do Rtype.noPackHeld "Comparable" t; Functor.map (fun a => Value.bool a.comparable) (typeInfo t)) #[.agg #[.pointer (some ⟨0, 51, none⟩)]]).run Tryz.prog w = .ok (.bool true) w := by kernel_rfl

theorem entKind (args : Array Value) (w : World) : (callFunc 239 args).run Tryz.prog w = (Sem.run Tryz.prog ((ReflectliteType.abiMethod fun t => do pure (.int .u8 (← Rtype.kind t)) : Array Value → Sem Value) args) w).andThen fun v w' => .ok (.value v) w' :=
  run_callFunc_extern (e := (ReflectliteType.abiMethod fun t => do pure (.int .u8 (← Rtype.kind t)))) Tryz.func239 (by kernel_rfl) (by kernel_rfl) (by kernel_rfl) (by kernel_rfl) args w
theorem entElemT (args : Array Value) (w : World) : (callFunc 243 args).run Tryz.prog w = (Sem.run Tryz.prog ((ReflectliteType.method ReflectliteType.elem : Array Value → Sem Value) args) w).andThen fun v w' => .ok (.value v) w' :=
  run_callFunc_extern (e := (ReflectliteType.method ReflectliteType.elem)) Tryz.func243 (by kernel_rfl) (by kernel_rfl) (by kernel_rfl) (by kernel_rfl) args w
theorem entImplements (args : Array Value) (w : World) : (callFunc 244 args).run Tryz.prog w = (Sem.run Tryz.prog ((ReflectliteType.relation "Implements" ReflectliteType.implements_ : Array Value → Sem Value) args) w).andThen fun v w' => .ok (.value v) w' :=
  run_callFunc_extern (e := (ReflectliteType.relation "Implements" ReflectliteType.implements_)) Tryz.func244 (by kernel_rfl) (by kernel_rfl) (by kernel_rfl) (by kernel_rfl) args w
theorem entTypeOf (args : Array Value) (w : World) : (callFunc 195 args).run Tryz.prog w = (Sem.run Tryz.prog ((ReflectliteType.typeOf : Array Value → Sem Value) args) w).andThen fun v w' => .ok (.value v) w' :=
  run_callFunc_extern (e := (ReflectliteType.typeOf)) Tryz.func195 (by kernel_rfl) (by kernel_rfl) (by kernel_rfl) (by kernel_rfl) args w
theorem entAssignableTo (args : Array Value) (w : World) : (callFunc 241 args).run Tryz.prog w = (Sem.run Tryz.prog ((ReflectliteType.relation "AssignableTo" ReflectliteType.assignableTo : Array Value → Sem Value) args) w).andThen fun v w' => .ok (.value v) w' :=
  run_callFunc_extern (e := (ReflectliteType.relation "AssignableTo" ReflectliteType.assignableTo)) Tryz.func241 (by kernel_rfl) (by kernel_rfl) (by kernel_rfl) (by kernel_rfl) args w
theorem entComparable (args : Array Value) (w : World) : (callFunc 242 args).run Tryz.prog w = (Sem.run Tryz.prog ((ReflectliteType.method fun t => do Rtype.noPackHeld "Comparable" t; pure (.bool (← typeInfo t).comparable) : Array Value → Sem Value) args) w).andThen fun v w' => .ok (.value v) w' :=
  run_callFunc_extern (e := (ReflectliteType.method fun t => do Rtype.noPackHeld "Comparable" t; pure (.bool (← typeInfo t).comparable))) Tryz.func242 (by kernel_rfl) (by kernel_rfl) (by kernel_rfl) (by kernel_rfl) args w

/-- The unfoldings of the entries that read or write memory. -/
theorem rlm (z : Sem Value) (f : TypeId → Addr → Nat → Nat → Sem Value) (v : Value) :
    ReflectliteValue.method z f #[v] = (do match ← ReflectliteValue.parts v with | none => z | some (t, a, fl) => f t a fl (fl % 32)) := rfl
end ER
end Go.Proofs.YtdjlflinepefbabGreat
