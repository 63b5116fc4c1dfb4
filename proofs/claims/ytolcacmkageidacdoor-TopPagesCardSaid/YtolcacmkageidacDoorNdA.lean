/- What the array's small methods answer: those that change nothing. -/
import Derived.Test.YtolcacmkageidacDoorNd
import Derived.Test.YtolcacmkageidacDoorErMath
import Derived.WalkSpells
import Derived.WalkLawsBesides
import Derived.Outline
import Derived.BigQuiet
import Derived.Deep.QuietTactic
import Derived.IntWalk
import Derived.Lib.Hide
namespace Go.Proofs.YtolcacmkageidacDoor
namespace ND
open Go.RowKit MM
set_option linter.unusedVariables false
set_option linter.unusedSimpArgs false

/-- An error's number as a value. -/
def errV (c : Int) : Value := if c = 0 then .nilIface else .iface 26 (.int .i64 c)

theorem ready_down {w : World} {r : Ref} {d : Nd} (h : NandAt w r d) (hd : d.down = true) :
    Calls Tryd.prog 52 #[(.pointer (some ⟨r.pb, 0, none⟩))] w fun e w' => e = .returned (.iface 26 (.int .i64 9)) ∧ w = w' := by
  obtain ⟨_, _, _, _, _, _, _, c7⟩ := h.cells
  clear h
  rw [hd] at c7
  clear hd
  go_enter Tryd.func52, Tryd.ntmps52
  go_wp2
  go_ret
  exact ⟨rfl, rfl⟩
theorem ready_up {w : World} {r : Ref} {d : Nd} (h : NandAt w r d) (hd : d.down = false) :
    Calls Tryd.prog 52 #[(.pointer (some ⟨r.pb, 0, none⟩))] w fun e w' => e = .returned .nilIface ∧ w = w' := by
  obtain ⟨_, _, _, _, _, _, _, c7⟩ := h.cells
  clear h
  rw [hd] at c7
  clear hd
  go_enter Tryd.func52, Tryd.ntmps52
  go_wp2
  go_ret
  exact ⟨rfl, rfl⟩
theorem ready_nil (w : World) : Calls Tryd.prog 52 #[.pointer none] w fun e w' => e = .returned (.iface 26 (.int .i64 1)) ∧ w = w' := by
  go_enter Tryd.func52, Tryd.ntmps52
  go_wp2
  go_ret
  exact ⟨rfl, rfl⟩

theorem hasPage_any {w : World} {r : Ref} {d : Nd} (h : NandAt w r d) (p : Int) :
    Calls Tryd.prog 53 #[(.pointer (some ⟨r.pb, 0, none⟩)), .int .i64 p] w fun e w' => e = .returned (.bool (d.hasPage p)) ∧ w = w' := by
  obtain ⟨_, _, c2, _⟩ := h.cells
  clear h
  unfold Nd.hasPage
  obtain ⟨n, hn⟩ : ∃ n, n = d.B * d.P := ⟨_, rfl⟩
  rw [← hn] at c2 ⊢
  clear hn
  by_cases h0 : 0 ≤ p
  · go_enter Tryd.func53, Tryd.ntmps53
    go_wp2
    go_ret
    simp [h0]
  · go_enter Tryd.func53, Tryd.ntmps53
    go_wp2
    go_ret
    simp [h0] <;> omega
theorem hasBlock_any {w : World} {r : Ref} {d : Nd} (h : NandAt w r d) (p : Int) :
    Calls Tryd.prog 32 #[(.pointer (some ⟨r.pb, 0, none⟩)), .int .i64 p] w fun e w' => e = .returned (.bool (d.hasBlock p)) ∧ w = w' := by
  obtain ⟨_, _, _, c3, _⟩ := h.cells
  clear h
  unfold Nd.hasBlock
  by_cases h0 : 0 ≤ p
  · go_enter Tryd.func32, Tryd.ntmps32
    go_wp2
    go_ret
    simp [h0]
  · go_enter Tryd.func32, Tryd.ntmps32
    go_wp2
    go_ret
    simp [h0] <;> omega
theorem hasBlock_nil (p : Int) (w : World) : Calls Tryd.prog 32 #[.pointer none, .int .i64 p] w fun e w' => e = .returned (.bool false) ∧ w = w' := by
  go_enter Tryd.func32, Tryd.ntmps32
  go_wp2
  go_ret
  exact ⟨rfl, rfl⟩
theorem cut_any (s : ByteArray) (w : World) (hs : s.size ≤ maxLen) : Calls Tryd.prog 25 #[.string s] w fun e w' => e = .returned (.string (cut s)) ∧ w = w' := by
  unfold maxLen at hs
  go_enter Tryd.func25, Tryd.ntmps25
  go_wp2
  · go_ret
    refine ⟨?_, rfl⟩
    unfold cut
    rw [Nat.min_eq_right (by omega)]; rfl
  · go_ret
    refine ⟨?_, rfl⟩
    unfold cut
    rw [Nat.min_eq_left (by omega), ByteArray.extract_zero_size]; rfl
theorem place_any {w : World} {r : Ref} {d : Nd} (h : NandAt w r d) (hp : 0 < d.P) (p : Nat) (hp2 : p ≤ 1000000) :
    Calls Tryd.prog 45 #[(.pointer (some ⟨r.pb, 0, none⟩)), .int .i64 p] w fun e w' => e = .returned (.tuple #[.int .i64 (p / d.P : Nat), .int .i64 (p % d.P : Nat)]) ∧ Below w.heap.size w w' := by
  obtain ⟨_, c1, _⟩ := h.cells
  clear h
  have hle : p / d.P ≤ p := Nat.div_le_self _ _
  have hw : wrap64 ((p : Int) / (d.P : Int)) = ((p / d.P : Nat) : Int) := by
    rw [← Int.natCast_ediv]
    have aux : ∀ q : Nat, q ≤ 1000000 → wrap64 (q : Int) = q := by intro q hq; unfold wrap64; omega
    exact aux _ (Nat.le_trans hle hp2)
  have hm : (p : Int) % (d.P : Int) = ((p % d.P : Nat) : Int) := by omega
  go_enter Tryd.func45, Tryd.ntmps45
  go_wp2
  go_quiet (fail)
  go_wp2
  go_ret2
  rw [hw, hm]
  exact ⟨rfl, drewN_below (Below.refl _ _) _⟩
theorem page_facts {d : Nd} (ok : d.Ok) {p : Int} (hp : d.hasPage p = true) : ∃ q : Nat, p = q ∧ q < d.B * d.P ∧ q ≤ 1000000 ∧ 0 < d.P ∧ q / d.P < d.B ∧ (q : Int).toNat = q := by
  have hq0 : 0 ≤ p ∧ p < (d.B * d.P : Nat) := by unfold Nd.hasPage at hp; simp at hp; exact ⟨hp.1, by exact_mod_cast hp.2⟩
  have hP0 : 0 < d.P := by have := ok.p1; omega
  have h1 : d.B * d.P ≤ 64 * 32 := Nat.mul_le_mul ok.b2 ok.p2
  exact ⟨p.toNat, by omega, by omega, by omega, hP0, by rw [Nat.div_lt_iff_lt_mul hP0]; omega, by omega⟩
theorem block_facts {d : Nd} (ok : d.Ok) {p : Int} (hp : d.hasBlock p = true) : ∃ q : Nat, p = q ∧ q < d.B ∧ (q : Int).toNat = q ∧ (0 : Int) ≤ (q : Int) ∧ (q : Int) < (d.B : Int) := by
  have hq0 : 0 ≤ p ∧ p < (d.B : Int) := by unfold Nd.hasBlock at hp; simp at hp; exact hp
  exact ⟨p.toNat, by omega, by omega, by omega, by omega, by omega⟩
theorem mayProgram_any {w : World} {r : Ref} {d : Nd} (h : NandAt w r d) (ok : d.Ok) (p : Int) (s : ByteArray) :
    Calls Tryd.prog 42 #[(.pointer (some ⟨r.pb, 0, none⟩)), .int .i64 p, .string s] w fun e w' => e = .returned (errV (d.mayProgram p s)) ∧ Below w.heap.size w w' := by
  have HP := Lib.hid (hasPage_any h p)
  have HN := Lib.hid h
  clear h
  unfold Nd.mayProgram
  cases hd : d.down with
  | true =>
    have HR := Lib.hid (ready_down HN.out hd)
    simp only [if_true]
    clear hd
    go_enter Tryd.func42, Tryd.ntmps42
    go_wp2_with fail
    refine HR.out.mono ?_
    rintro e w1 ⟨rfl, rfl⟩
    go_wp2
    go_ret
    exact ⟨rfl, Below.refl _ _⟩
  | false =>
    have HR := Lib.hid (ready_up HN.out hd)
    simp only [Bool.false_eq_true, if_false]
    clear hd
    cases hp : d.hasPage p with
    | false =>
      rw [hp] at HP
      simp only [true_or, if_true]
      clear hp
      go_enter Tryd.func42, Tryd.ntmps42
      go_wp2_with fail
      refine HR.out.mono ?_
      rintro e w1 ⟨rfl, rfl⟩
      go_wp2_with fail
      refine HP.out.mono ?_
      rintro e w1 ⟨rfl, rfl⟩
      go_wp2
      go_ret
      exact ⟨rfl, Below.refl _ _⟩
    | true =>
      rw [hp] at HP
      obtain ⟨q, rfl, hq, hq2, hP0, hb, hrep⟩ := page_facts ok hp
      obtain ⟨_, _, _, c3, _⟩ := HN.out.cells
      obtain ⟨c4, _, c5⟩ := HN.out.blocks.cell hb
      have HPL := Lib.hid (place_any HN.out hP0 q hq2)
      have HS := HN.out.own.lt
      have HS2 := HN.out.blocks.lt
      rw [hrep]
      obtain ⟨b, hbq⟩ : ∃ b, b = q / d.P := ⟨_, rfl⟩
      obtain ⟨m, hmq⟩ : ∃ m, m = q % d.P := ⟨_, rfl⟩
      rw [← hbq] at hb c4 c5 HPL ⊢
      rw [← hmq] at HPL ⊢
      simp only [Bool.true_eq_false, false_or]
      clear hp hrep hbq hmq hq hq2 hP0 HN
      by_cases hs : 128 < s.size
      · rw [if_pos hs]
        go_enter Tryd.func42, Tryd.ntmps42
        go_wp2_with fail
        refine HR.out.mono ?_
        rintro e w1 ⟨rfl, rfl⟩
        go_wp2_with fail
        refine HP.out.mono ?_
        rintro e w1 ⟨rfl, rfl⟩
        go_wp2
        go_ret
        exact ⟨rfl, Below.refl _ _⟩
      · rw [if_neg hs]
        go_enter Tryd.func42, Tryd.ntmps42
        go_wp2_with fail
        refine HR.out.mono ?_
        rintro e w1 ⟨rfl, rfl⟩
        go_wp2_with fail
        refine HP.out.mono ?_
        rintro e w1 ⟨rfl, rfl⟩
        go_wp2_with fail
        refine HPL.out.mono ?_
        rintro e w1 ⟨rfl, hb1⟩
        have d3 := (hb1.cell (p := ⟨r.pb, 3, none⟩) HS).trans c3
        have d4 := (hb1.cell (p := ⟨r.gb, b * 3, none⟩) HS2).trans c4
        have d5 := (hb1.cell (p := ⟨r.gb, b * 3 + 2, none⟩) HS2).trans c5
        have HB1 := Lib.hid hb1
        have e1 : (0 : Int) ≤ (b : Int) := by omega
        have e2 : (b : Int) < (d.B : Int) := by omega
        clear hb1 c3 c4 c5
        go_wp2
        all_goals (go_ret; refine ⟨?_, HB1.out⟩; first | rfl | (exfalso; clear HB1 HPL HR HP d3 d4 d5; simp_all; done) | (exfalso; clear HB1 HPL HR HP d3 d4 d5; simp_all; omega))
theorem mayErase_any {w : World} {r : Ref} {d : Nd} (h : NandAt w r d) (ok : d.Ok) (p : Int) :
    Calls Tryd.prog 56 #[(.pointer (some ⟨r.pb, 0, none⟩)), .int .i64 p] w fun e w' => e = .returned (errV (d.mayErase p)) ∧ w = w' := by
  have HP := Lib.hid (hasBlock_any h p)
  have HN := Lib.hid h
  clear h
  unfold Nd.mayErase
  cases hd : d.down with
  | true =>
    have HR := Lib.hid (ready_down HN.out hd)
    simp only [if_true]
    clear hd
    go_enter Tryd.func56, Tryd.ntmps56
    go_wp2_with fail
    refine HR.out.mono ?_
    rintro e w1 ⟨rfl, rfl⟩
    go_wp2
    go_ret
    exact ⟨rfl, rfl⟩
  | false =>
    have HR := Lib.hid (ready_up HN.out hd)
    simp only [Bool.false_eq_true, if_false]
    clear hd
    cases hp : d.hasBlock p with
    | false =>
      rw [hp] at HP
      simp only [if_true]
      clear hp
      go_enter Tryd.func56, Tryd.ntmps56
      go_wp2_with fail
      refine HR.out.mono ?_
      rintro e w1 ⟨rfl, rfl⟩
      go_wp2_with fail
      refine HP.out.mono ?_
      rintro e w1 ⟨rfl, rfl⟩
      go_wp2
      go_ret
      exact ⟨rfl, rfl⟩
    | true =>
      rw [hp] at HP
      obtain ⟨q, rfl, hb, hrep, e1, e2⟩ := block_facts ok hp
      obtain ⟨_, _, _, c3, _⟩ := HN.out.cells
      obtain ⟨_, _, c5⟩ := HN.out.blocks.cell hb
      rw [hrep]
      simp only [Bool.true_eq_false, if_false]
      clear hp hrep HN
      go_enter Tryd.func56, Tryd.ntmps56
      go_wp2_with fail
      refine HR.out.mono ?_
      rintro e w1 ⟨rfl, rfl⟩
      go_wp2_with fail
      refine HP.out.mono ?_
      rintro e w1 ⟨rfl, rfl⟩
      go_wp2
      all_goals (go_ret; refine ⟨?_, rfl⟩; first | rfl | (exfalso; clear HR HP c3 c5; simp_all; done))

theorem read_any {w : World} {r : Ref} {d : Nd} (h : NandAt w r d) (ok : d.Ok) (p : Int) :
    Calls Tryd.prog 28 #[(.pointer (some ⟨r.pb, 0, none⟩)), .int .i64 p] w fun e w' => e = .returned (.tuple #[.string (d.read p).1, errV (d.read p).2]) ∧ Below w.heap.size w w' := by
  have HP := Lib.hid (hasPage_any h p)
  have HN := Lib.hid h
  clear h
  unfold Nd.read
  cases hd : d.down with
  | true =>
    have HR := Lib.hid (ready_down HN.out hd)
    simp only [if_true]
    clear hd
    go_enter Tryd.func28, Tryd.ntmps28
    go_wp2_with fail
    refine HR.out.mono ?_
    rintro e w1 ⟨rfl, rfl⟩
    go_wp2
    go_ret2
    exact ⟨rfl, Below.refl _ _⟩
  | false =>
    have HR := Lib.hid (ready_up HN.out hd)
    simp only [Bool.false_eq_true, if_false]
    clear hd
    cases hp : d.hasPage p with
    | false =>
      rw [hp] at HP
      simp only [if_true]
      clear hp
      go_enter Tryd.func28, Tryd.ntmps28
      go_wp2_with fail
      refine HR.out.mono ?_
      rintro e w1 ⟨rfl, rfl⟩
      go_wp2_with fail
      refine HP.out.mono ?_
      rintro e w1 ⟨rfl, rfl⟩
      go_wp2
      go_ret2
      exact ⟨rfl, Below.refl _ _⟩
    | true =>
      rw [hp] at HP
      obtain ⟨q, rfl, hq, hq2, hP0, hb, hrep⟩ := page_facts ok hp
      obtain ⟨_, _, c2, c3, _⟩ := HN.out.cells
      obtain ⟨c4, _, _⟩ := HN.out.blocks.cell hb
      have c6 := HN.out.pages.cell hq
      have HPL := Lib.hid (place_any HN.out hP0 q hq2)
      have HS := HN.out.own.lt
      have HS2 := HN.out.blocks.lt
      have HS3 := HN.out.pages.lt
      rw [hrep]
      obtain ⟨b, hbq⟩ : ∃ b, b = q / d.P := ⟨_, rfl⟩
      obtain ⟨m, hmq⟩ : ∃ m, m = q % d.P := ⟨_, rfl⟩
      rw [← hbq] at hb c4 HPL ⊢
      rw [← hmq] at HPL ⊢
      simp only [Bool.true_eq_false, if_false]
      obtain ⟨n, hn⟩ : ∃ n, n = d.B * d.P := ⟨_, rfl⟩
      rw [← hn] at hq c2
      clear hp hrep hbq hmq hq2 hP0 HN hn
      go_enter Tryd.func28, Tryd.ntmps28
      go_wp2_with fail
      refine HR.out.mono ?_
      rintro e w1 ⟨rfl, rfl⟩
      go_wp2_with fail
      refine HP.out.mono ?_
      rintro e w1 ⟨rfl, rfl⟩
      go_wp2_with fail
      refine HPL.out.mono ?_
      rintro e w1 ⟨rfl, hb1⟩
      have d2 := (hb1.cell (p := ⟨r.pb, 2, none⟩) HS).trans c2
      have d3 := (hb1.cell (p := ⟨r.pb, 3, none⟩) HS).trans c3
      have d4 := (hb1.cell (p := ⟨r.gb, b * 3, none⟩) HS2).trans c4
      have d6 := (hb1.cell (p := ⟨r.gp, q, none⟩) HS3).trans c6
      have HB1 := Lib.hid hb1
      have e1 : (0 : Int) ≤ (b : Int) := by omega
      have e2 : (b : Int) < (d.B : Int) := by omega
      have e3 : (0 : Int) ≤ (q : Int) := by omega
      have e4 : (q : Int) < (n : Int) := by omega
      clear hb1 c2 c3 c4 c6
      go_wp2
      all_goals (go_ret2; refine ⟨?_, HB1.out⟩; first | rfl | (rw [if_pos (by clear HB1 HPL HR HP; omega)]; rfl) | (rw [if_neg (by clear HB1 HPL HR HP; omega)]; rfl))
def Nd.nextAt (d : Nd) (b : Int) : Int := if d.hasBlock b = true then d.next b.toNat else 0
def Nd.wornAt (d : Nd) (b : Int) : Int := if d.hasBlock b = true then d.worn b.toNat else 0
def Nd.badAt (d : Nd) (b : Int) : Bool := if d.hasBlock b = true then d.bad b.toNat else false
theorem bad_any {w : World} {r : Ref} {d : Nd} (h : NandAt w r d) (ok : d.Ok) (p : Int) :
    Calls Tryd.prog 16 #[(.pointer (some ⟨r.pb, 0, none⟩)), .int .i64 p] w fun e w' => e = .returned (.bool (d.badAt p)) ∧ w = w' := by
  have HP := Lib.hid (hasBlock_any h p)
  unfold Nd.badAt
  cases hp : d.hasBlock p with
  | false =>
    rw [hp] at HP
    simp only [Bool.false_eq_true, if_false]
    clear hp h
    go_enter Tryd.func16, Tryd.ntmps16
    go_wp2_with fail
    refine HP.out.mono ?_
    rintro e w1 ⟨rfl, rfl⟩
    go_wp2
    go_ret
    exact ⟨rfl, rfl⟩
  | true =>
    rw [hp] at HP
    obtain ⟨q, rfl, hb, hrep, e1, e2⟩ := block_facts ok hp
    obtain ⟨_, _, _, c3, _⟩ := h.cells
    obtain ⟨c4, c5, c6⟩ := h.blocks.cell hb
    rw [hrep]
    simp only [if_true]
    clear hp hrep h
    go_enter Tryd.func16, Tryd.ntmps16
    go_wp2_with fail
    refine HP.out.mono ?_
    rintro e w1 ⟨rfl, rfl⟩
    go_wp2
    go_ret
    exact ⟨rfl, rfl⟩
theorem bad_nil (p : Int) (w : World) : Calls Tryd.prog 16 #[.pointer none, .int .i64 p] w fun e w' => e = .returned (.bool false) ∧ w = w' := by
  have HP := Lib.hid (hasBlock_nil p w)
  go_enter Tryd.func16, Tryd.ntmps16
  go_wp2_with fail
  refine HP.out.mono ?_
  rintro e w1 ⟨rfl, rfl⟩
  go_wp2
  go_ret
  exact ⟨rfl, rfl⟩
theorem run_max2 (ts : Array TypeId) (t : TypeId) (a b : Int) (w : World) : (Builtin.max_ ts t #[.int .i64 a, .int .i64 b]).run Tryd.prog w = .ok (.int .i64 (max a b)) w := by
  have e : (if a < b then b else a) = max a b := by omega
  rw [← e]
  simp [Builtin.max_, Builtin.max2]
theorem run_min2 (ts : Array TypeId) (t : TypeId) (a b : Int) (w : World) : (Builtin.min_ ts t #[.int .i64 a, .int .i64 b]).run Tryd.prog w = .ok (.int .i64 (min a b)) w := by
  have e : (if b < a then b else a) = min a b := by omega
  rw [← e]
  simp [Builtin.min_, Builtin.min2]
theorem spoilt_any (m : Mis) (s : ByteArray) (w : World) (hj : m.junk.size ≤ 128) (hs : s.size ≤ 128) :
    Calls Tryd.prog 44 #[misV m, .string s] w fun e w' => e = .returned (.string (spoilt m s)) ∧ Below w.heap.size w w' := by
  have hmx := run_max2 #[3, 3] 3 m.keep 0
  have hmn := run_min2 #[3, 3] 3 (max m.keep 0) s.size
  unfold misV spoilt
  have hk : min (max m.keep 0) (s.size : Int) = (keepOf m s : Nat) := by unfold keepOf; omega
  have hks : keepOf m s ≤ s.size := by unfold keepOf; omega
  obtain ⟨k, hkk⟩ : ∃ k, k = keepOf m s := ⟨_, rfl⟩
  rw [hk, ← hkk] at hmn
  rw [← hkk] at hks ⊢
  obtain ⟨x, hx⟩ : ∃ x, x = max m.keep 0 := ⟨_, rfl⟩
  rw [← hx] at hmx hmn
  have e1 : (0 : Int) ≤ (k : Int) := by omega
  have e2 : (k : Int) ≤ (s.size : Int) := by omega
  have HCUT := Lib.hid (fun (t : ByteArray) (w' : World) (ht : t.size ≤ maxLen) => cut_any t w' ht)
  have HSZ : Hid ((s.extract 0 k ++ m.junk).size ≤ maxLen) := by
    show _ ≤ _
    rw [ByteArray.size_append, ByteArray.size_extract]
    unfold maxLen
    omega
  have hadd : ∀ w' : World, (Op.stringOp .add (s.extract 0 k) m.junk).run Tryd.prog w' = .ok (.string (s.extract 0 k ++ m.junk)) w' := fun w' => run_string_add_sum w' _ _ (by rw [ByteArray.size_extract]; omega)
  clear hk hkk hx
  go_enter Tryd.func44, Tryd.ntmps44
  go_wp2
  go_quiet (exact Calls.quiet_of_same ((HCUT.out _ _ HSZ.out).mono fun e w1 h => ⟨h.1, h.2.symm⟩))
  go_wp2
  go_ret
  exact ⟨rfl, drewN_below ((Below.refl _ _).alloc (Nat.le_refl _) _) _⟩
end ND
end Go.Proofs.YtolcacmkageidacDoor
