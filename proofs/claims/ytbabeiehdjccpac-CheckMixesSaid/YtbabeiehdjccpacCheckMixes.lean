/- The law CheckMixes holds: its Go text answers true for every input, and leaves its arguments as they were. No condition beyond the statement's own. -/
import Derived.Test.YtbabeiehdjccpacRows
import Derived.Test.YtbabeiehdjccpacAwake2
import Derived.Test.YtbabeiehdjccpacCrcLin
import Derived.Deep.AppendLies
import Derived.Deep.RegionHeld3
import Derived.PlainAid
import Derived.ProofKit
import Derived.OpenShut
import Derived.ShutString
import Derived.ChangeOld
import Derived.Below
import Derived.SizedLaws
namespace Go.Proofs.Ytbabeiehdjccpac.checkMixes
open Go.ChangeShapes Go.WideShapes Go.ChangeAt Go.RowKit
open Go.ChangeMaps (open_string shut_string)
open Go.Proofs.Ytbabeiehdjccpac.FM
set_option linter.unusedVariables false
set_option linter.unusedSimpArgs false

theorem own : ownKnob Try.prog.godebug = none := by kernel_rfl
theorem laidOut : laidOutB Try.prog = true := by kernel_rfl

open Go.Proofs.Ytbabeiehdjccpac.CM

theorem run_min_any (ts : Array TypeId) (t : TypeId) (x y z u : Int) (w : World) :
    (Builtin.min_ ts t #[.int .i64 x, .int .i64 y, .int .i64 z, .int .i64 u]).run Try.prog w = .ok (.int .i64 (if u < (if z < (if y < x then y else x) then z else (if y < x then y else x)) then u else (if z < (if y < x then y else x) then z else (if y < x then y else x)))) w := by
  simp [Builtin.min_, Builtin.min2]
theorem run_min4 (ts : Array TypeId) (t : TypeId) (a b c : Nat) (w : World) :
    (Builtin.min_ ts t #[.int .i64 (a : Int), .int .i64 (b : Int), .int .i64 (c : Int), .int .i64 5000]).run Try.prog w = .ok (.int .i64 ((min (min (min a b) c) 5000 : Nat) : Int)) w := by
  have e : (if (5000 : Int) < (if (c : Int) < (if (b : Int) < (a : Int) then (b : Int) else a) then (c : Int) else (if (b : Int) < (a : Int) then (b : Int) else a)) then (5000 : Int) else (if (c : Int) < (if (b : Int) < (a : Int) then (b : Int) else a) then (c : Int) else (if (b : Int) < (a : Int) then (b : Int) else a))) = ((min (min (min a b) c) 5000 : Nat) : Int) := by
    omega
  rw [run_min_any, e]

theorem bt_getD (s : ByteArray) (k : Nat) : PlainAid.bt s k = ((s.data.toList.getD k 0).toNat : Int) := by
  unfold PlainAid.bt
  split
  · rename_i h
    have h2 : k < s.data.toList.length := by rw [len_size]; exact h
    rw [List.getD_eq_getElem?_getD, List.getElem?_eq_getElem h2]
    rfl
  · rename_i h
    have h2 : s.data.toList.length ≤ k := by rw [len_size]; omega
    rw [List.getD_eq_getElem?_getD, List.getElem?_eq_none h2]
    rfl
theorem xor_byte (a b : UInt8) : bits .xor .u8 (a.toNat : Int) (b.toNat : Int) = ((a ^^^ b).toNat : Int) := by
  rw [u8_xor_nat _ _ a.toNat_lt b.toNat_lt, UInt8.toNat_xor]
theorem mix_byte (a b c : ByteArray) (k : Nat) : bits .xor .u8 (bits .xor .u8 (PlainAid.bt a k) (PlainAid.bt b k)) (PlainAid.bt c k) = ((a.data.toList.getD k 0 ^^^ b.data.toList.getD k 0 ^^^ c.data.toList.getD k 0).toNat : Int) := by
  rw [bt_getD, bt_getD, bt_getD, xor_byte, xor_byte]

theorem info_u8 : (Try.prog.info? 5).map (fun i => (i.zero, i.size, i.bytes)) = some (some (.int .u8 0), 1, 1) := by kernel_rfl

/-- The bytes as values. -/
def bv (l : List UInt8) : List Value := l.map fun b => Value.int .u8 (b.toNat : Int)

theorem mix_bv (a b c : ByteArray) (k : Nat) : bv (mix a.data.toList b.data.toList c.data.toList k) ++ [Value.int .u8 (bits .xor .u8 (bits .xor .u8 (PlainAid.bt a k) (PlainAid.bt b k)) (PlainAid.bt c k))] = bv (mix a.data.toList b.data.toList c.data.toList (k + 1)) := by
  rw [mix_byte]
  simp [bv, mix]
theorem mix_len (a b c : List UInt8) (k : Nat) : (mix a b c k).length = k := by
  induction k with
  | zero => rfl
  | succ k ih => simp [mix, ih]
theorem conv_own {B k : Nat} {v : Value} {l : List UInt8} (w : World) (h : w.ownsRow B 5 1 v k (bv l)) :
    (convert 32 9 v).run Try.prog w = .ok (.string (str l)) w := by
  have hlen : l.length = k := by simpa [bv] using h.1
  have hown := h
  rcases h.2 with ⟨rfl, hk⟩ | ⟨g, cap, cur, rfl, hb, hg, hrest⟩
  · have hl : l = [] := List.eq_nil_of_length_eq_zero (by omega)
    subst hl
    exact run_convert_bytes_nil w 32 5 Try.underlying32 Try.underlying5 0 0 9 Try.underlying9
  · have hc := run_convert_bytes_arg (P := Try.prog) w 32 5 Try.underlying32 Try.underlying5 g 0 k cap (l.map fun b => (b.toNat : Int)) (by simpa using hlen) (fun i hi => by
      have hil : i < l.length := by omega
      have h2 := hown.cells (g := g) rfl i (Value.int .u8 ((l[i]).toNat : Int)) (by simp [bv, hil])
      rw [← Addr.add_lit]
      rw [h2]
      simp [List.getD, hil]) 9 Try.underlying9
    rw [hc]
    have hid : ((fun n : Int => UInt8.ofNat n.toNat) ∘ fun b : UInt8 => (b.toNat : Int)) = id := by funext b; simp
    simp [strOfNums, str, hid]

theorem own_below {w w' : World} {B k : Nat} {e : TypeId} {v : Value} {xs : List Value} (h : w.ownsRow B e 1 v k xs) (hb : Below w.heap.size w w') : w'.ownsRow B e 1 v k xs :=
  h.kept (row := none) ⟨hb.os, hb.tape, hb.output, hb.size, fun j hj _ => hb.block j hj⟩ (by cases v.ownBlock <;> simp)
theorem run_upto (t : ByteArray) (k : Nat) (h : k ≤ t.size) (w : World) : (Instr.slice 9 (.string t) none (some (.int .i64 (k : Int))) none).run Try.prog w = .ok (.string (str (t.data.toList.take k))) w := by
  rw [run_slice_string_to_if w 9 t .i64 (k : Int) Try.underlying9, if_pos ⟨by omega, by omega⟩, Int.toNat_natCast]
  congr 2
  apply ByteArray.ext
  apply Array.toList_inj.1
  simp [str, ByteArray.data_extract, List.extract_eq_take_drop]

set_option maxHeartbeats 6400000 in
theorem walk (a0 : ByteArray) (a1 : ByteArray) (a2 : ByteArray) (w : World) (w0 : a0.size ≤ 140737488351232) (w1 : a1.size ≤ 140737488351232) (w2 : a2.size ≤ 140737488351232) :
    Calls Try.prog 6 #[.string a0, .string a1, .string a2] w fun e w' => e = .returned (.bool true) ∧ Below w.heap.size w w' := by
  obtain ⟨i0, hi, hz0, hz1, hz2⟩ := info_parts info_u8
  obtain ⟨n, hn⟩ : ∃ n, n = min (min (min a0.size a1.size) a2.size) 5000 := ⟨_, rfl⟩
  have hm := run_min4 #[3, 3, 3, 3] 3 a0.size a1.size a2.size
  rw [← hn] at hm
  have n0 : n ≤ a0.size := by omega
  have n1 : n ≤ a1.size := by omega
  have n2 : n ≤ a2.size := by omega
  have n5 : n ≤ 5000 := by omega
  clear hn
  go_enter Try.func6, Try.ntmps6
  go_wp2
  go_loopw [8, 9] (fun v i wr => ∃ k : Nat, k ≤ n ∧ i = .int .i64 k ∧ wr.ownsRow w.heap.size 5 1 v k (bv (mix a0.data.toList a1.data.toList a2.data.toList k)) ∧ Below w.heap.size w wr) (fun _ i _ => n - (intOf i).toNat)
  case atStart => exact ⟨0, Nat.zero_le _, rfl, World.ownsRow_nil _ _ _ _, Below.refl _ _⟩
  case round =>
    obtain ⟨k, hk, rfl, hown, hbel⟩ := hrel
    have hsz := hbel.size
    clear hm
    by_cases hlt : k < n
    · have g0 := PlainAid.get_bt a0
      have g1 := PlainAid.get_bt a1
      have g2 := PlainAid.get_bt a2
      have k0 : (0 : Int) ≤ (k : Int) := by omega
      have k1 : (k : Int) < (a0.size : Int) := by omega
      have k2 : (k : Int) < (a1.size : Int) := by omega
      have k3 : (k : Int) < (a2.size : Int) := by omega
      go_wp2
      go_region_held3 (fun _ => True) (first | trivial) ((refine step_append_lies _ (by rfl) _ _ 32 (by rfl) w.heap.size 5 i0 _ 1 1 Try.underlying32 hi hz0 hz1 hz2 rfl (by omega) _ k _ (by rfl) ((hown.alloc _).drew) ⟨wr.heap.size, 0, none⟩ 1 1 [.int .u8 (bits .xor .u8 (bits .xor .u8 (PlainAid.bt a0 k) (PlainAid.bt a1 k)) (PlainAid.bt a2 k))] (by rfl) (by rfl) (World.news_of_block (cs := #[.int .u8 (bits .xor .u8 (bits .xor .u8 (PlainAid.bt a0 k) (PlainAid.bt a1 k)) (PlainAid.bt a2 k))]) (t := 5) (fr := (0, 0)) (heap_alloc_new wr _)) (by simp [Value.oneCell']) (by omega) (by unfold maxLen; omega) (by omega) (by simp; omega) (wr.heap.size + 1) (by simp) ?_; intro gg cap w1 hown1 hgrow hat hlt2))
      all_goals
        rw [mix_bv] at hown1
        have hbel' : Below w.heap.size w w1 := ((hbel.alloc hsz _).drew).grown hgrow (by simp; omega) (fun j hj => (hown.lt j hj).1)
        have HOw := Lib.hid hown1
        clear hown1 hgrow hat
        go_wp2
        go_roundw
        case rel => exact ⟨k + 1, by omega, by go_num, HOw.out, hbel'⟩
        case measure => simp [intOf]; omega
    · obtain rfl : k = n := by omega
      have hsum := sum_mix a0.data.toList a1.data.toList a2.data.toList k (by rw [len_size]; omega) (by rw [len_size]; omega) (by rw [len_size]; omega)
      obtain ⟨L, hL⟩ : ∃ L, L = str (mix a0.data.toList a1.data.toList a2.data.toList k) := ⟨_, rfl⟩
      obtain ⟨A, hA⟩ : ∃ A, A = str (a0.data.toList.take k) := ⟨_, rfl⟩
      obtain ⟨B, hB⟩ : ∃ B, B = str (a1.data.toList.take k) := ⟨_, rfl⟩
      obtain ⟨C, hC⟩ : ∃ C, C = str (a2.data.toList.take k) := ⟨_, rfl⟩
      have sA : A.size ≤ 140737488355328 := by rw [hA, str_size, List.length_take]; omega
      have sB : B.size ≤ 140737488355328 := by rw [hB, str_size, List.length_take]; omega
      have sC : C.size ≤ 140737488355328 := by rw [hC, str_size, List.length_take]; omega
      have sL : L.size ≤ 140737488355328 := by rw [hL, str_size, mix_len]; omega
      have fA := run_upto a0 k n0
      have fB := run_upto a1 k n1
      have fC := run_upto a2 k n2
      rw [← hA] at fA
      rw [← hB] at fB
      rw [← hC] at fC
      have hfin : (((sum L.data.toList).toNat : Int) == bits .xor .u32 (bits .xor .u32 ((sum A.data.toList).toNat : Int) ((sum B.data.toList).toNat : Int)) ((sum C.data.toList).toNat : Int)) = true := by
        rw [beq_iff_eq, xor_val, xor_val, hL, hA, hB, hC]
        show ((sum (mix a0.data.toList a1.data.toList a2.data.toList k)).toNat : Int) = _
        rw [hsum]
        rfl
      have HC : Hid (∀ w', Below wr.heap.size wr w' → (convert 32 9 u8).run Try.prog w' = .ok (.string L) w') := fun w' hb => by rw [hL]; exact conv_own w' (own_below hown hb)
      have HS : Hid (∀ t : ByteArray, t.size ≤ 140737488355328 → ∀ w, Calls Try.prog 11 #[.string t] w fun e w' => e = .returned (.int .u32 ((sum t.data.toList).toNat : Int)) ∧ w = w') := sum_any
      clear hL hA hB hC hsum n0 n1 n2 n5 w0 w1 w2 hown hi hz0 hz1 hz2
      go_wp2
      go_region_held3 (fun w' => Below w.heap.size w w' ∧ (convert 32 9 u8).run Try.prog w' = .ok (.string L) w') (first | exact ⟨hbel.drew, HC.out _ ((Below.refl _ _).drew)⟩ | exact ⟨hb4, hc3⟩) (first | (go_at_call 7; refine (CM.awake_any _).mono ?_; rintro e w3 ⟨rfl, hb3⟩; have hb4 : Below w.heap.size w w3 := hbel.trans (Below.trans ((Below.refl _ _).drew) (hb3.mono hsz)); have hc3 := HC.out w3 ((Below.refl wr.heap.size wr).drew.trans hb3)) | (go_at_call 11; refine (HS.out _ (by assumption) _).mono ?_; rintro e w4 ⟨rfl, rfl⟩))
      all_goals (try go_wp2)
      all_goals go_ret
      all_goals exact ⟨rfl, hb4⟩

set_option maxRecDepth 100000 in
theorem lifted (os : Os) (started : os.Started) (H : Type) (enc : TypeId × Value → H) :
    ReturnsInHanded {} Try.checked os 6 .any (Rows.checkMixesSpec.pre6 enc Try.prog Try.f6 Rows.checkMixesRow.domain false) (Rows.checkMixesSpec.post enc Try.prog Try.f6 false true false false) := by
  refine returnsInHanded_of_change_sized (C := Try.checked) own started (by kernel_rfl) Try.func6
    (ChangeSpec.witness6 (enc := enc) (C := Try.checked) false ⟨#[], #[.string ByteArray.empty, .string ByteArray.empty, .string ByteArray.empty], []⟩ 8 (by kernel_rfl) (by kernel_rfl) (by kernel_rfl) (by kernel_rfl)) ?_
  intro W base args ds gs before hval0 hW hcnd hsz0 _
  have hval : ∀ (j : Nat) t v, Try.f6.params[j]? = some t → args[j]? = some v → Value.okWide Try.prog W .any base t v := hval0
  have hW' := hW
  obtain ⟨p, q, hA0, hV, rfl, hfz, hnd⟩ := hW
  have hA : DataW.TrodAll enc Try.prog W 0 (fun _ => true) true Try.f6.params.toList args.toList ds p := hA0
  have hsz : (DataW.weightsEach Try.prog (Try.f6.params.toList ++ Rows.checkMixesSpec.plain.varTypes Try.prog) (ds ++ gs)).all (· ≤ reachBytes) = true := hsz0
  rw [Try.params6] at hA hval hsz
  obtain ⟨v0, vs0, d0, ds0, p0, q0, hargs, rfl, rfl, h0, r0⟩ := trodAll_cons hA
  obtain ⟨v1, vs1, d1, ds1, p1, q1, rfl, rfl, rfl, h1, r1⟩ := trodAll_cons r0
  obtain ⟨v2, vs2, d2, ds2, p2, q2, rfl, rfl, rfl, h2, r2⟩ := trodAll_cons r1
  obtain ⟨rfl, rfl, rfl⟩ := trodAll_nil r2
  obtain rfl : args = #[v0, v1, v2] := by cases args; simp_all
  obtain ⟨rfl, rfl⟩ := trodVars_none hV
  obtain ⟨a0, rfl, rfl, rfl, m0⟩ := open_string Try.underlying9 (hval 0 9 v0 rfl rfl) h0
  obtain ⟨a1, rfl, rfl, rfl, m1⟩ := open_string Try.underlying9 (hval 1 9 v1 rfl rfl) h1
  obtain ⟨a2, rfl, rfl, rfl, m2⟩ := open_string Try.underlying9 (hval 2 9 v2 rfl rfl) h2
  have w0 : a0.size ≤ 140737488351232 := by have := sized_string hsz (j := 0) (t := 9) (bytes := a0.data.toList) rfl rfl; simpa [reachBytes] using this
  have w1 : a1.size ≤ 140737488351232 := by have := sized_string hsz (j := 1) (t := 9) (bytes := a1.data.toList) rfl rfl; simpa [reachBytes] using this
  have w2 : a2.size ≤ 140737488351232 := by have := sized_string hsz (j := 2) (t := 9) (bytes := a2.data.toList) rfl rfl; simpa [reachBytes] using this
  clear hA0 hval0 hsz0
  refine (walk a0 a1 a2 W w0 w1 w2).mono fun e W' ⟨he, bel⟩ => ?_
  subst he
  exact ⟨_, rfl, _, _, _, [], _, [], hW', trodAll_mk1 (shut_bool Try.underlying4 _), (trodAll_cons_mk (shut_string Try.underlying9 m0) (trodAll_cons_mk (shut_string Try.underlying9 m1) (trodAll_cons_mk (shut_string Try.underlying9 m2) trodAll_mk0))), rfl, bel.frame _, fun h => by cases h⟩

theorem over : Rows.checkMixesRow.holds Try.pinned (OpenSpec.ofChange Rows.checkMixesSpec) :=
  OpenClaim.holds_of_wide 6 Try.f6 rfl rfl rfl rfl rfl rfl rfl ⟨rfl, rfl, rfl, rfl, rfl⟩ rfl rfl rfl rfl rfl (by kernel_rfl) Try.func6 (by kernel_rfl)
    (of_decide_eq_true (by kernel_rfl)) (by unfold Func.isWrapper; first | (rw [if_pos (by decide +kernel)]; kernel_rfl) | (rw [if_neg (by decide +kernel)]; exact ⟨rfl, rfl⟩))
    (fun os started H enc _ => lifted os started H enc)

theorem proved : Rows.CheckMixesSaid := over
#print axioms proved
end Go.Proofs.Ytbabeiehdjccpac.checkMixes
