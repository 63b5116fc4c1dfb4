/- The law FieldSplits holds: its Go text answers true for every input, and leaves its arguments as they were. No condition beyond the statement's own. -/
import Derived.Test.YtbabeiehdjccpabRows
import Derived.Test.YtbabeiehdjccpabSame
import Derived.Test.YtbabeiehdjccpabAwake1
import Derived.ProofKit
import Derived.OpenShut
import Derived.ShutString
import Derived.ChangeOld
import Derived.Below
import Derived.SizedLaws
namespace Go.Proofs.Ytbabeiehdjccpab.fieldSplits
open Go.ChangeShapes Go.WideShapes Go.ChangeAt Go.RowKit
open Go.ChangeMaps (open_string shut_string)
open Go.Proofs.Ytbabeiehdjccpab.FM
set_option linter.unusedVariables false
set_option linter.unusedSimpArgs false

theorem own : ownKnob Try.prog.godebug = none := by kernel_rfl
theorem laidOut : laidOutB Try.prog = true := by kernel_rfl

theorem split_place (a : Int) (n : Nat) (h : n ≤ 300) : ∃ k : Nat, (wrap64 (wrap64 (a.tmod ((n : Int) + 1) + (n : Int)) + 1)).tmod ((n : Int) + 1) = (k : Int) ∧ k ≤ n := by
  have hp : (0 : Int) < (n : Int) + 1 := by omega
  have h1 := Int.tmod_lt_of_pos a hp
  have h2 := Int.lt_tmod_of_pos a hp
  generalize a.tmod ((n : Int) + 1) = q at h1 h2 ⊢
  have e1 : wrap64 (q + (n : Int)) = q + (n : Int) := IntWalk.wrap64_in _ ⟨by omega, by omega⟩
  rw [e1, IntWalk.wrap64_in _ ⟨by omega, by omega⟩, Int.tmod_eq_emod_of_nonneg (by omega)]
  have h3 := Int.emod_nonneg (q + (n : Int) + 1) (by omega : (n : Int) + 1 ≠ 0)
  have h4 := Int.emod_lt_of_pos (q + (n : Int) + 1) hp
  refine ⟨((q + (n : Int) + 1) % ((n : Int) + 1)).toNat, ?_, ?_⟩ <;> omega

theorem size_int (w : World) : (sizeOf (Try.prog.elem 22)).run Try.prog w = .ok 1 w := by kernel_rfl
theorem elem_int : Try.prog.underlying 22 = some (.slice (Try.prog.elem 22)) := by kernel_rfl

theorem Row.moved {k : IntKind} {w : World} {b off len : Nat} {Z : Nat → Int} (h : ∀ i, i < len → w.cell? ⟨b, off + i, none⟩ = some (.int k (Z i))) (j : Nat) : ∀ i, i < len - j → w.cell? ⟨b, off + j + i, none⟩ = some (.int k (Z (j + i))) := by
  intro i hi
  rw [Nat.add_assoc]
  exact h (j + i) (by omega)

theorem sub_front {w : World} {a : Option Addr} {len cap k : Nat} {Z : Nat → Int} (hr : FM.Row .i64 w a len Z) (hk : k ≤ len) (hc : len ≤ cap) :
    ∃ A, (∀ w', (Instr.slice 22 (.slice a len cap) none (some (.int .i64 (k : Int))) none).run Try.prog w' = .ok (.slice A k cap) w') ∧ FM.Row .i64 w A k Z := by
  refine ⟨if cap = 0 then a else a.map (·.add (0 * 1)), fun w' => ?_, ?_⟩
  · rw [run_slice_h w' 22 a len cap elem_int .i64 (k : Int) (by omega) (by omega), size_int]
    rfl
  · rcases hr with h | ⟨b, off, rfl, hb, hcell⟩
    · exact .inl (by omega)
    · by_cases h0 : k = 0
      · exact .inl h0
      · refine .inr ⟨b, off, ?_, hb, fun i hi => hcell i (by omega)⟩
        rw [if_neg (by omega)]
        show some ((⟨b, off, none⟩ : Addr).add (0 * 1)) = _
        rw [Addr.add_lit]; rfl
theorem sub_back {w : World} {a : Option Addr} {len cap k : Nat} {Z : Nat → Int} (hr : FM.Row .i64 w a len Z) (hk : k ≤ len) (hc : len ≤ cap) :
    ∃ A, (∀ w', (Instr.slice 22 (.slice a len cap) (some (.int .i64 (k : Int))) none none).run Try.prog w' = .ok (.slice A (len - k) (cap - k)) w') ∧ FM.Row .i64 w A (len - k) (fun i => Z (k + i)) := by
  refine ⟨if cap = k then a else a.map (·.add (k * 1)), fun w' => ?_, ?_⟩
  · rw [run_slice_l w' 22 a len cap elem_int .i64 (k : Int) (by omega) (by omega), size_int]
    rfl
  · by_cases h0 : len - k = 0
    · exact .inl h0
    · rcases hr with h | ⟨b, off, rfl, hb, hcell⟩
      · omega
      · refine .inr ⟨b, off + k, ?_, hb, Row.moved hcell k⟩
        rw [if_neg (by omega), Nat.mul_one]
        show some ((⟨b, off, none⟩ : Addr).add k) = _
        rw [Addr.add_lit]

/-- Take's answer where it refuses. -/
def Refuses (x : Int) (w : World) (e : Ending) (w' : World) : Prop := e = .returned (.tuple #[.slice none 0 0, .string ⟨#[]⟩, .int .i64 x]) ∧ Below w.heap.size w w'
/-- Take's answer where it takes. -/
def Takes (R : ByteArray) (len : Nat) (xs : List Value) (w : World) (e : Ending) (w' : World) : Prop := ∃ v, e = .returned (.tuple #[v, .string R, .int .i64 0]) ∧ w'.ownsRow w.heap.size 33 1 v len xs ∧ Below w.heap.size w w'

set_option maxHeartbeats 1600000 in
/-- The whole and its front are refused. -/
theorem both (a0 : ByteArray) (a1 A : Option Addr) (len1 cap1 k : Nat) (a2 x y : Int) (hlen : len1 ≤ 300) (hk : (wrap64 (wrap64 (a2.tmod ((len1 : Int) + 1) + (len1 : Int)) + 1)).tmod ((len1 : Int) + 1) = (k : Int)) (w : World)
    (hs : ∀ w', (Instr.slice 22 (.slice a1 len1 cap1) none (some (.int .i64 (k : Int))) none).run Try.prog w' = .ok (.slice A k cap1) w') (hx : (x == 0) = false) (hy : (y == 0) = false)
    (H1 : Hid (Calls Try.prog 10 #[.string a0, .slice a1 len1 cap1] w (Refuses x w)))
    (H2 : Hid (∀ w', Below w.heap.size w w' → Calls Try.prog 10 #[.string a0, .slice A k cap1] w' (Refuses y w'))) :
    Calls Try.prog 4 #[.string a0, .slice a1 len1 cap1, .int .i64 a2] w fun e w' => e = .returned (.bool true) ∧ Below w.heap.size w w' := by
  have hx2 : (x != 0) = true := by simpa using hx
  have hy2 : (y != 0) = true := by simpa using hy
  go_enter Try.func4, Try.ntmps4
  go_wp2_with fail
  refine H1.out.mono ?_
  rintro e w1 ⟨rfl, hb1⟩
  go_wp2_with fail
  refine (H2.out _ hb1).mono ?_
  rintro e w2 ⟨rfl, hb2⟩
  go_wp2_with fail
  refine (awake_any _).mono ?_
  rintro e w3 ⟨rfl, hb3⟩
  have hb : Below w.heap.size w w3 := hb1.trans ((hb2.mono hb1.size).trans (hb3.mono (Nat.le_trans hb1.size hb2.size)))
  go_wp2
  go_ret
  exact ⟨rfl, hb⟩

set_option maxHeartbeats 1600000 in
/-- The whole and its back are refused alike. -/
theorem backed (a0 M : ByteArray) (a1 A B : Option Addr) (len1 cap1 k : Nat) (a2 x : Int) (xs : List Value) (hlen : len1 ≤ 300) (hk : (wrap64 (wrap64 (a2.tmod ((len1 : Int) + 1) + (len1 : Int)) + 1)).tmod ((len1 : Int) + 1) = (k : Int)) (w : World)
    (hs : ∀ w', (Instr.slice 22 (.slice a1 len1 cap1) none (some (.int .i64 (k : Int))) none).run Try.prog w' = .ok (.slice A k cap1) w')
    (ht : ∀ w', (Instr.slice 22 (.slice a1 len1 cap1) (some (.int .i64 (k : Int))) none none).run Try.prog w' = .ok (.slice B (len1 - k) (cap1 - k)) w') (hx : (x == 0) = false)
    (H1 : Hid (Calls Try.prog 10 #[.string a0, .slice a1 len1 cap1] w (Refuses x w)))
    (H2 : Hid (∀ w', Below w.heap.size w w' → Calls Try.prog 10 #[.string a0, .slice A k cap1] w' (Takes M k xs w')))
    (H3 : Hid (∀ w', Below w.heap.size w w' → Calls Try.prog 10 #[.string M, .slice B (len1 - k) (cap1 - k)] w' (Refuses x w'))) :
    Calls Try.prog 4 #[.string a0, .slice a1 len1 cap1, .int .i64 a2] w fun e w' => e = .returned (.bool true) ∧ Below w.heap.size w w' := by
  have hx2 : (x != 0) = true := by simpa using hx
  go_enter Try.func4, Try.ntmps4
  go_wp2_with fail
  refine H1.out.mono ?_
  rintro e w1 ⟨rfl, hb1⟩
  go_wp2_with fail
  refine (H2.out _ hb1).mono ?_
  rintro e w2 ⟨v, rfl, _, hb2⟩
  have hb12 := hb1.trans (hb2.mono hb1.size)
  go_wp2_with fail
  refine (H3.out _ hb12).mono ?_
  rintro e w3 ⟨rfl, hb3⟩
  go_wp2_with fail
  refine (awake_any _).mono ?_
  rintro e w4 ⟨rfl, hb4⟩
  have hb : Below w.heap.size w w4 := hb12.trans ((hb3.mono hb12.size).trans (hb4.mono (Nat.le_trans hb12.size hb3.size)))
  go_wp2
  go_ret
  exact ⟨rfl, hb⟩

/-- An append whose run is known, behind whatever guard that is met. -/
theorem wpList_append_run {P : Program} {ops : Array Oper} {rest : List Oper} {o : Oper} {a : Act} {w w' : World} {Q : Exit → Act → World → Prop} (s x : Operand) (t : TypeId)
    (ho : o.op = .call { callee := .builtin .append, args := #[s, x], argTypes := #[t, t] }) (hw : Region.wanted o (yielded ops a.tmps) = true) (v u v' : Value) (hs : a.eval s = v) (hx : a.eval x = u)
    (hrun : (Builtin.append_ #[t, t] o.type #[v, u]).run P w = .ok v' w') (h : wpList P ops Q rest (a.put o.dst v') w') : wpList P ops Q (o :: rest) a w := by
  refine wpList_step fun K hK => ?_
  rw [if_pos hw]
  unfold Oper.wp
  simp [execOp, ho, resolve, invoke, builtin, hs, hx, hrun, Result.andThen]
  exact hK _ _ h

theorem append_src {W : World} {B B2 n m : Nat} {v u : Value} {xs news : List Value} (hown : W.ownsRow B 33 1 v n xs) (hsrc : W.ownsRow B2 33 1 u m news) (h1 : ∀ x ∈ news, x.oneCell' = true) (hn : n + m ≤ 1000) (hB : B ≤ W.heap.size) :
    ∃ v' W', (Builtin.append_ #[24, 24] 24 #[v, u]).run Try.prog W = .ok v' W' ∧ W'.ownsRow B 33 1 v' (n + m) (xs ++ news) ∧ Below B W W' := by
  obtain ⟨i0, hi, hz0, hz1, hz2⟩ := info_parts info_u64
  rcases hsrc.2 with ⟨rfl, rfl⟩ | ⟨g, cap, cur, rfl, hb, hg, hrest⟩
  · have hnil : news = [] := List.eq_nil_of_length_eq_zero (by simpa using hsrc.1)
    subst hnil
    refine ⟨v, W, run_append_owned_none (w := W) B 24 24 33 i0 1 Try.underlying24 hi v n xs hown, by simpa using hown, Below.refl _ _⟩
  · obtain ⟨v', W', hr, h2, h3, _⟩ := run_append_own (P := Try.prog) W B 24 24 33 i0 (.int .u64 0) 1 8 Try.underlying24 hi hz0 hz1 hz2 rfl (by decide) v n xs hown ⟨g, 0, none⟩ m cap news hsrc.1 (hsrc.cells (g := g) rfl) h1 (by unfold maxLen; omega) (by omega) hB
    exact ⟨v', W', hr, h2, (Below.refl B W).grown h3 hB (fun j hj => (hown.lt j hj).1)⟩
theorem own_below {w w' : World} {B k : Nat} {e : TypeId} {v : Value} {xs : List Value} (h : w.ownsRow B e 1 v k xs) (hb : Below w.heap.size w w') : w'.ownsRow B e 1 v k xs :=
  h.kept (row := none) ⟨hb.os, hb.tape, hb.output, hb.size, fun j hj _ => hb.block j hj⟩ (by cases v.ownBlock <;> simp)
theorem nums_one (l : List UInt8) (Z : Nat → Int) (k : Nat) : ∀ x ∈ nums l Z k, x.oneCell' = true := by
  intro x hx
  simp only [nums, List.mem_map] at hx
  obtain ⟨i, _, rfl⟩ := hx
  rfl

set_option maxHeartbeats 3200000 in
/-- All is taken, in one piece and in two. -/
theorem taken (a0 M R : ByteArray) (a1 A B : Option Addr) (len1 cap1 k : Nat) (a2 : Int) (Z Z2 : Nat → Int) (hlen : len1 ≤ 300) (hkl : k ≤ len1) (hk : (wrap64 (wrap64 (a2.tmod ((len1 : Int) + 1) + (len1 : Int)) + 1)).tmod ((len1 : Int) + 1) = (k : Int)) (w : World)
    (hs : ∀ w', (Instr.slice 22 (.slice a1 len1 cap1) none (some (.int .i64 (k : Int))) none).run Try.prog w' = .ok (.slice A k cap1) w')
    (ht : ∀ w', (Instr.slice 22 (.slice a1 len1 cap1) (some (.int .i64 (k : Int))) none none).run Try.prog w' = .ok (.slice B (len1 - k) (cap1 - k)) w')
    (hcat : Hid (nums a0.data.toList Z k ++ nums M.data.toList Z2 (len1 - k) = nums a0.data.toList Z len1))
    (H1 : Hid (Calls Try.prog 10 #[.string a0, .slice a1 len1 cap1] w (Takes R len1 (nums a0.data.toList Z len1) w)))
    (H2 : Hid (∀ w', Below w.heap.size w w' → Calls Try.prog 10 #[.string a0, .slice A k cap1] w' (Takes M k (nums a0.data.toList Z k) w')))
    (H3 : Hid (∀ w', Below w.heap.size w w' → Calls Try.prog 10 #[.string M, .slice B (len1 - k) (cap1 - k)] w' (Takes R (len1 - k) (nums M.data.toList Z2 (len1 - k)) w'))) :
    Calls Try.prog 4 #[.string a0, .slice a1 len1 cap1, .int .i64 a2] w fun e w' => e = .returned (.bool true) ∧ Below w.heap.size w w' := by
  go_enter Try.func4, Try.ntmps4
  go_wp2_with fail
  refine H1.out.mono ?_
  rintro e w1 ⟨v1, rfl, ho1, hb1⟩
  obtain ⟨b1, c1, rfl, hr1⟩ := own_row ho1
  have HR1 := Lib.hid hr1
  clear ho1 hr1
  go_wp2_with fail
  refine (H2.out _ hb1).mono ?_
  rintro e w2 ⟨v2, rfl, ho2, hb2⟩
  have HO2 := Lib.hid ho2
  clear ho2
  have hb12 := hb1.trans (hb2.mono hb1.size)
  go_wp2_with fail
  refine (H3.out _ hb12).mono ?_
  rintro e w3 ⟨v3, rfl, ho3, hb3⟩
  have HO3 := Lib.hid ho3
  clear ho3
  have hb13 := hb12.trans (hb3.mono hb12.size)
  go_wp2_with fail
  refine (awake_any _).mono ?_
  rintro e w4 ⟨rfl, hb4⟩
  have hb14 := hb13.trans (hb4.mono hb13.size)
  have z4 := hb14.size
  have own0 : (w4.alloc (.cells #[] 33)).ownsRow w4.heap.size 33 1 (.slice (some ⟨w4.heap.size, 0, none⟩) 0 0) 0 [] := World.ownsRow_made w4 #[] 0 (Nat.le_refl _) (Nat.zero_le _) rfl
  have al : Below w4.heap.size w4 (w4.alloc (.cells #[] 33)) := (Below.refl _ _).alloc (Nat.le_refl _) _
  have z24 : Below w2.heap.size w2 w4 := hb3.trans (hb4.mono hb3.size)
  have s5 := own_below HO2.out (z24.trans (al.mono z24.size))
  obtain ⟨u1, w5, run1, own1, hb5⟩ := append_src own0 s5 (nums_one _ _ _) (by omega) (by simp)
  have z45 : Below w4.heap.size w4 w5 := al.trans hb5
  have s6 := own_below HO3.out (hb4.trans (z45.mono hb4.size))
  obtain ⟨u2, w6, run2, own2, hb6⟩ := append_src own1 s6 (nums_one _ _ _) (by omega) z45.size
  have z46 : Below w4.heap.size w4 w6 := z45.trans hb6
  have hb16 : Below w.heap.size w w6 := hb14.trans (z46.mono z4)
  have z16 : Below w1.heap.size w1 w6 := by
    have z12 := hb2.size
    have z13 := hb3.size
    have z14 := hb4.size
    exact hb2.trans ((hb3.mono z12).trans ((hb4.mono (by omega)).trans (z46.mono (by omega))))
  simp only [Nat.zero_add, List.nil_append] at own2
  rw [hcat.out, show k + (len1 - k) = len1 by omega] at own2
  obtain ⟨b2, c2, rfl, hr2⟩ := own_row own2
  have HS := Lib.hid (same_yes b1 b2 len1 c1 c2 _ (by omega) w6 (HR1.out.kept z16 (Nat.le_refl _)) hr2)
  have HB := Lib.hid hb16
  clear own0 al z24 s5 own1 hb5 z45 s6 own2 hb6 z46 hb16 z16 hr2 z4 hb12 hb13 hb14 hb2 hb3 hb4
  go_wp2_with (first | (at_builtin; refine wpList_append_run _ _ 24 rfl rfl _ v2 u1 rfl rfl run1 ?_) | (at_builtin; refine wpList_append_run _ _ 24 rfl rfl u1 v3 _ rfl rfl run2 ?_))
  refine HS.out.mono ?_
  rintro e w7 ⟨rfl, hb7⟩
  have hb17 := HB.out.trans (hb7.mono HB.out.size)
  go_wp2
  go_ret
  exact ⟨rfl, hb17⟩

theorem pos_add (Z : Nat → Int) (k j : Nat) : pos Z (k + j) = pos Z k + pos (fun i => Z (k + i)) j := by
  induction j with
  | zero => rfl
  | succ j ih => rw [← Nat.add_assoc, pos, ih, pos]; omega
theorem num_drop (l : List UInt8) (Z : Nat → Int) (k i : Nat) : num (l.drop (pos Z k)) (fun i => Z (k + i)) i = num l Z (k + i) := by
  unfold num
  rw [List.drop_drop, pos_add]
theorem nums_cat (l : List UInt8) (Z : Nat → Int) (k j : Nat) : nums l Z k ++ nums (l.drop (pos Z k)) (fun i => Z (k + i)) j = nums l Z (k + j) := by
  induction j with
  | zero => simp [nums]
  | succ j ih => rw [nums_succ, ← List.append_assoc, ih, num_drop, ← Nat.add_assoc, nums_succ]

theorem walk (a0 : ByteArray) (a1 : Option Addr) (len1 cap1 : Nat) (z1 : List Int) (a2 : Int) (w : World) (w0 : a0.size ≤ 140737488351232) (w1 : FM.IsRow .i64 w a1 len1 cap1 z1) (w2 : (Lit.int .i64 a2).wf = true) :
    Calls Try.prog 4 #[.string a0, .slice a1 len1 cap1, .int .i64 a2] w fun e w' => e = .returned (.bool true) ∧ Below w.heap.size w w' := by
  obtain ⟨hr, hlc, hwf⟩ := w1.row
  clear w1 hwf
  generalize (fun i => z1.getD i 0) = Z at hr
  by_cases hlen : 300 < len1
  · clear hr
    go_enter Try.func4, Try.ntmps4
    go_wp2_with fail
    refine (awake_any _).mono ?_
    rintro e w1 ⟨rfl, hb1⟩
    go_wp2
    go_ret
    exact ⟨rfl, hb1⟩
  · have hl : len1 ≤ 300 := by omega
    obtain ⟨k, hk, hkl⟩ := split_place a2 len1 hl
    obtain ⟨A, hs, hrA⟩ := sub_front hr hkl hlc
    obtain ⟨B, ht, hrB⟩ := sub_back hr hkl hlc
    have hin0 : ∀ w', Below w.heap.size w w' → FM.Row .i64 w' A k Z := fun w' h => hrA.kept h (Nat.le_refl _)
    have hback : ∀ w', Below w.heap.size w w' → FM.Row .i64 w' B (len1 - k) (fun i => Z (k + i)) := fun w' h => hrB.kept h (Nat.le_refl _)
    have refuse : ∀ {x : Int} {w e w'}, (e = Ending.returned (.tuple #[.slice none 0 0, .string ⟨#[]⟩, .int .i64 x]) ∧ w = w') → Refuses x w e w' := fun h => ⟨h.1, h.2 ▸ Below.refl _ _⟩
    by_cases hbadF : ∃ i, i < k ∧ Bad (Z i)
    · obtain ⟨i, hi, hb⟩ := hbadF
      exact both a0 a1 A len1 cap1 k a2 1 1 hl hk w hs rfl rfl
        (Lib.hid ((take_arg a0 a1 len1 cap1 Z hl w hr ⟨i, by omega, hb⟩).mono fun e w' h => refuse h))
        (Lib.hid fun w' h => (take_arg a0 A k cap1 Z (by omega) w' (hin0 w' h) ⟨i, hi, hb⟩).mono fun e w'' h => refuse h)
    · have hokF : ∀ i, i < k → ¬ Bad (Z i) := fun i hi h => hbadF ⟨i, hi, h⟩
      by_cases hfit : pos Z k ≤ a0.size
      · have H2 : ∀ w', Below w.heap.size w w' → Calls Try.prog 10 #[.string a0, .slice A k cap1] w' (Takes (a0.extract (pos Z k) a0.size) k (nums a0.data.toList Z k) w') := fun w' h =>
          (take_good a0 w0 A k cap1 Z (by omega) w' (hin0 w' h) hokF k (Nat.le_refl _) hfit (fun h => by omega)).mono fun e w'' h => h.1 rfl
        have hMl : (a0.extract (pos Z k) a0.size).data.toList = a0.data.toList.drop (pos Z k) := cutAt_list a0 (pos Z k)
        have hMs : (a0.extract (pos Z k) a0.size).size = a0.size - pos Z k := cutAt_size a0 (pos Z k) hfit
        by_cases hbadB : ∃ i, i < len1 - k ∧ Bad (Z (k + i))
        · obtain ⟨i, hi, hb⟩ := hbadB
          exact backed a0 _ a1 A B len1 cap1 k a2 1 _ hl hk w hs ht rfl
            (Lib.hid ((take_arg a0 a1 len1 cap1 Z hl w hr ⟨k + i, by omega, hb⟩).mono fun e w' h => refuse h))
            (Lib.hid H2)
            (Lib.hid fun w' h => (take_arg _ B (len1 - k) (cap1 - k) _ (by omega) w' (hback w' h) ⟨i, hi, hb⟩).mono fun e w'' h => refuse h)
        · have hokB : ∀ i, i < len1 - k → ¬ Bad (Z (k + i)) := fun i hi h => hbadB ⟨i, hi, h⟩
          have hok : ∀ i, i < len1 → ¬ Bad (Z i) := fun i hi => by
            by_cases hik : i < k
            · exact hokF i hik
            · have := hokB (i - k) (by omega)
              rwa [show k + (i - k) = i by omega] at this
          obtain ⟨J, hJ, hin, hout⟩ := place_of Z len1 a0.size
          have hkJ : k ≤ J := by
            by_cases h : k ≤ J
            · exact h
            · have h2 := hout (by omega)
              have h3 := pos_mono Z (show J + 1 ≤ k by omega)
              omega
          have eJ := pos_add Z k (J - k)
          rw [show k + (J - k) = J by omega] at eJ
          have hinB : pos (fun i => Z (k + i)) (J - k) ≤ (a0.extract (pos Z k) a0.size).size := by rw [hMs]; omega
          have houtB : J - k < len1 - k → (a0.extract (pos Z k) a0.size).size < pos (fun i => Z (k + i)) (J - k + 1) := by
            intro h
            have h2 := hout (by omega)
            have e2 := pos_add Z k (J - k + 1)
            rw [show k + (J - k + 1) = J + 1 by omega] at e2
            rw [hMs]; omega
          have T1 := take_good a0 w0 a1 len1 cap1 Z hl w hr hok J hJ hin hout
          have T3 : ∀ w', Below w.heap.size w w' → _ := fun w' h => take_good (a0.extract (pos Z k) a0.size) (by rw [hMs]; omega) B (len1 - k) (cap1 - k) (fun i => Z (k + i)) (by omega) w' (hback w' h) hokB (J - k) (by omega) hinB houtB
          by_cases hJl : J = len1
          · have eR : (a0.extract (pos Z k) a0.size).extract (pos (fun i => Z (k + i)) (len1 - k)) (a0.extract (pos Z k) a0.size).size = a0.extract (pos Z len1) a0.size := by
              have e3 := pos_add Z k (len1 - k)
              rw [show k + (len1 - k) = len1 by omega] at e3
              have e4 := cutAt_cutAt a0 (pos Z k) (pos (fun i => Z (k + i)) (len1 - k)) (by rw [hJl] at hin; omega)
              rw [hMs]
              unfold cutAt at e4
              rw [e4, e3]
            refine taken a0 (a0.extract (pos Z k) a0.size) (a0.extract (pos Z len1) a0.size) a1 A B len1 cap1 k a2 Z (fun i => Z (k + i)) hl hkl hk w hs ht (Lib.hid ?_) (Lib.hid (T1.mono fun e w' h => h.1 hJl)) (Lib.hid H2) (Lib.hid fun w' h => (T3 w' h).mono fun e w'' h => ?_)
            · rw [hMl, nums_cat, show k + (len1 - k) = len1 by omega]
            · have h2 := h.1 (by omega)
              rw [eR] at h2
              exact h2
          · exact backed a0 _ a1 A B len1 cap1 k a2 5 _ hl hk w hs ht rfl
              (Lib.hid (T1.mono fun e w' h => h.2 (by omega))) (Lib.hid H2)
              (Lib.hid fun w' h => (T3 w' h).mono fun e w'' h => h.2 (by omega))
      · obtain ⟨J, hJ, hin, hout⟩ := place_of Z k a0.size
        have hJk : J < k := by
          by_cases h : J < k
          · exact h
          · obtain rfl : J = k := by omega
            exact absurd hin hfit
        have H2 : ∀ w', Below w.heap.size w w' → Calls Try.prog 10 #[.string a0, .slice A k cap1] w' (Refuses 5 w') := fun w' h =>
          (take_good a0 w0 A k cap1 Z (by omega) w' (hin0 w' h) hokF J hJ hin hout).mono fun e w'' h => h.2 hJk
        by_cases hbadB : ∃ i, i < len1 ∧ Bad (Z i)
        · exact both a0 a1 A len1 cap1 k a2 1 5 hl hk w hs rfl rfl (Lib.hid ((take_arg a0 a1 len1 cap1 Z hl w hr hbadB).mono fun e w' h => refuse h)) (Lib.hid H2)
        · have hok : ∀ i, i < len1 → ¬ Bad (Z i) := fun i hi h => hbadB ⟨i, hi, h⟩
          exact both a0 a1 A len1 cap1 k a2 5 5 hl hk w hs rfl rfl (Lib.hid ((take_good a0 w0 a1 len1 cap1 Z hl w hr hok J (by omega) hin (fun _ => hout hJk)).mono fun e w' h => h.2 (by omega))) (Lib.hid H2)

set_option maxRecDepth 100000 in
theorem lifted (os : Os) (started : os.Started) (H : Type) (enc : TypeId × Value → H) :
    ReturnsInHanded {} Try.checked os 4 .any (Rows.fieldSplitsSpec.pre6 enc Try.prog Try.f4 Rows.fieldSplitsRow.domain false) (Rows.fieldSplitsSpec.post enc Try.prog Try.f4 false true false false) := by
  refine returnsInHanded_of_change_sized (C := Try.checked) own started (by kernel_rfl) Try.func4
    (ChangeSpec.witness6 (enc := enc) (C := Try.checked) false ⟨#[], #[.string ByteArray.empty, .slice none 0 0, .int .i64 0], []⟩ 8 (by kernel_rfl) (by kernel_rfl) (by kernel_rfl) (by kernel_rfl)) ?_
  intro W base args ds gs before hval0 hW hcnd hsz0 _
  have hval : ∀ (j : Nat) t v, Try.f4.params[j]? = some t → args[j]? = some v → Value.okWide Try.prog W .any base t v := hval0
  have hW' := hW
  obtain ⟨p, q, hA0, hV, rfl, hfz, hnd⟩ := hW
  have hA : DataW.TrodAll enc Try.prog W 0 (fun _ => true) true Try.f4.params.toList args.toList ds p := hA0
  have hsz : (DataW.weightsEach Try.prog (Try.f4.params.toList ++ Rows.fieldSplitsSpec.plain.varTypes Try.prog) (ds ++ gs)).all (· ≤ reachBytes) = true := hsz0
  rw [Try.params4] at hA hval hsz
  obtain ⟨v0, vs0, d0, ds0, p0, q0, hargs, rfl, rfl, h0, r0⟩ := trodAll_cons hA
  obtain ⟨v1, vs1, d1, ds1, p1, q1, rfl, rfl, rfl, h1, r1⟩ := trodAll_cons r0
  obtain ⟨v2, vs2, d2, ds2, p2, q2, rfl, rfl, rfl, h2, r2⟩ := trodAll_cons r1
  obtain ⟨rfl, rfl, rfl⟩ := trodAll_nil r2
  obtain rfl : args = #[v0, v1, v2] := by cases args; simp_all
  obtain ⟨rfl, rfl⟩ := trodVars_none hV
  obtain ⟨a0, rfl, rfl, rfl, m0⟩ := open_string Try.underlying9 (hval 0 9 v0 rfl rfl) h0
  obtain ⟨a1, len1, cap1, rfl⟩ := okWide_slice Try.underlying22 (hval 1 22 v1 rfl rfl)
  have k1 := h1
  have lt1 : ∀ x ∈ p1, x.block < W.heap.size := by obtain ⟨m, hm⟩ := k1; exact DataW.trod_lt m _ _ _ hm
  obtain ⟨z1, w1⟩ : ∃ zs, FM.IsRow .i64 W a1 len1 cap1 zs := by
    obtain ⟨fuel, hf⟩ := h1
    rcases open_ints Try.underlying22 Try.underlying3 (by kernel_rfl) hf with ⟨hcs, _⟩ | ⟨x, l, c, zs, hcs, _, hl, hm, hz, _, hcell, hwz⟩
    · simp [Value.cells] at hcs
      obtain ⟨rfl, rfl, rfl⟩ := hcs
      exact ⟨[], .inl ⟨rfl, rfl, rfl, rfl⟩⟩
    · simp [Value.cells] at hcs
      obtain ⟨rfl, rfl, rfl⟩ := hcs
      exact ⟨zs, .inr ⟨_, rfl, hl, hm, by simpa using hz, hcell, hwz⟩⟩
  obtain ⟨a2, rfl, rfl, rfl, w2⟩ := open_int Try.underlying3 (hval 2 3 v2 rfl rfl) h2
  have w0 : a0.size ≤ 140737488351232 := by have := sized_string hsz (j := 0) (t := 9) (bytes := a0.data.toList) rfl rfl; simpa [reachBytes] using this
  clear hA0 hval0 hsz0
  refine (walk a0 a1 len1 cap1 z1 a2 W w0 w1 w2).mono fun e W' ⟨he, bel⟩ => ?_
  subst he
  exact ⟨_, rfl, _, _, _, [], _, [], hW', trodAll_mk1 (shut_bool Try.underlying4 _), (trodAll_cons_mk (shut_string Try.underlying9 m0) (trodAll_cons_mk (Below.trod laidOut (by kernel_rfl) (of_decide_eq_true (by kernel_rfl)) k1 bel lt1) (trodAll_cons_mk (shut_int Try.underlying3 w2) trodAll_mk0))), rfl, bel.frame _, fun h => by cases h⟩

theorem over : Rows.fieldSplitsRow.holds Try.pinned (OpenSpec.ofChange Rows.fieldSplitsSpec) :=
  OpenClaim.holds_of_wide 4 Try.f4 rfl rfl rfl rfl rfl rfl rfl ⟨rfl, rfl, rfl, rfl, rfl⟩ rfl rfl rfl rfl rfl (by kernel_rfl) Try.func4 (by kernel_rfl)
    (of_decide_eq_true (by kernel_rfl)) (by unfold Func.isWrapper; first | (rw [if_pos (by decide +kernel)]; kernel_rfl) | (rw [if_neg (by decide +kernel)]; exact ⟨rfl, rfl⟩))
    (fun os started H enc _ => lifted os started H enc)

theorem proved : Rows.FieldSplitsSaid := over
#print axioms proved
end Go.Proofs.Ytbabeiehdjccpab.fieldSplits
