/- What scoriaref09.get, ReadLeaf and ReadInner answer: of any bytes. Condition: no text is longer than 2^47 bytes. -/
import Derived.Test.YtmndbdkodijlbaaLfO
import Derived.Test.YtmndbdkodijlbaaLfR
import Derived.Test.YtmndbdkodijlbaaRefGet
namespace Go.Proofs.Ytmndbdkodijlbaa
open Go.RowKit
namespace LF
open MM FM EX
set_option linter.unusedVariables false
set_option linter.unusedSimpArgs false

/-- The number of a field; 0, if it is not there. -/
def g (s : List UInt8) (a wd : Nat) : Nat := if a + wd ≤ s.length then val ((s.drop a).take wd) else 0
theorem g_lt (s : List UInt8) (a wd : Nat) (h : wd ≤ 4) : g s a wd < 4294967296 := by
  unfold g
  split
  · have h1 := val_lt ((s.drop a).take wd)
    have h2 : 256 ^ ((s.drop a).take wd).length ≤ 256 ^ 4 := Nat.pow_le_pow_right (by decide) (by rw [List.length_take]; omega)
    omega
  · omega
theorem rget9_any (s : List UInt8) (hs : s.length ≤ 140737488351232) (a wd : Nat) (h1 : 1 ≤ wd) (h8 : wd ≤ 4) (ha : a ≤ 1000000000000000000) (w : World) :
    Calls Try.prog 37 #[.string (str s), .int .i64 (a : Int), .int .i64 (wd : Int)] w fun r w' => r = .returned (.int .i64 (g s a wd : Nat)) ∧ w = w' := by
  have hz : (str s).size = s.length := str_size s
  have HP : Hid (∃ n : Int, ∀ w, Calls Try.prog 51 #[.string (str s), .int .i64 (a : Int), .int .i64 (wd : Int)] w fun e w' => e = .returned (.tuple #[.int .u64 (g s a wd : Nat), .int .i64 n]) ∧ w = w') := by
    by_cases h : a + wd ≤ s.length
    · refine ⟨0, fun w => ?_⟩
      have := rget_ok (str s) (by omega) a wd h1 (by omega) (by omega) w
      unfold g
      rw [if_pos h]
      exact this
    · refine ⟨5, fun w => ?_⟩
      have := rget_short (str s) (by omega) a wd (by omega) (by omega) (by omega) (by omega) w
      unfold g
      rw [if_neg h]
      exact this
  obtain ⟨n, hp⟩ := HP.out
  have HQ := Lib.hid hp
  have e1 := i64_nat (n := g s a wd) (by have := g_lt s a wd h8; omega)
  obtain ⟨S, hS⟩ : ∃ S, S = str s := ⟨_, rfl⟩
  obtain ⟨G, hG⟩ : ∃ G, G = g s a wd := ⟨_, rfl⟩
  rw [← hS, ← hG] at HQ
  rw [← hG] at e1
  rw [← hS, ← hG]
  clear hp HP hz hS hG hs ha
  go_enter Try.func37, Try.ntmps37
  go_wp2_with fail
  refine (HQ.out _).mono ?_
  rintro r w1 ⟨rfl, rfl⟩
  go_wp2
  go_ret
  exact ⟨rfl, rfl⟩
def rdE (s : List UInt8) (a : Nat) : Ext := ⟨(g s a 3 : Nat), (g s (a + 3) 4 : Nat), (g s (a + 7) 1 : Nat), (g s (a + 8) 2 : Nat)⟩
def rdK (s : List UInt8) (a : Nat) : Kid := ⟨(g s a 3 : Nat), (g s (a + 3) 2 : Nat)⟩
def rds {T : Type} (rd : List UInt8 → Nat → T) (wd : Nat) (s : List UInt8) (k : Nat) : List T := (List.range k).map fun i => rd s (1 + wd * i)
theorem rds_snoc {T : Type} (rd : List UInt8 → Nat → T) (wd : Nat) (s : List UInt8) (k : Nat) : rds rd wd s (k + 1) = rds rd wd s k ++ [rd s (1 + wd * k)] := by simp [rds, List.range_succ]
theorem rds_len {T : Type} (rd : List UInt8 → Nat → T) (wd : Nat) (s : List UInt8) (k : Nat) : (rds rd wd s k).length = k := by simp [rds]
theorem rd_decE (c : UInt8) (r : List UInt8) (i : Nat) (h : 10 * (i + 1) ≤ r.length) : rdE (c :: r) (1 + 10 * i) = decE (r.drop (10 * i)) := by
  have key : ∀ x y, x + y ≤ 10 → g (c :: r) (1 + 10 * i + x) y = val (((r.drop (10 * i)).drop x).take y) := by
    intro x y hxy
    unfold g
    rw [if_pos (by rw [List.length_cons]; omega), show 1 + 10 * i + x = (10 * i + x) + 1 from by omega, List.drop_succ_cons, List.drop_drop]
  unfold rdE decE
  have k0 := key 0 3 (by decide)
  rw [Nat.add_zero, List.drop_zero] at k0
  rw [k0, key 3 4 (by decide), key 7 1 (by decide), key 8 2 (by decide)]
theorem rd_decK (c : UInt8) (r : List UInt8) (i : Nat) (h : 5 * (i + 1) ≤ r.length) : rdK (c :: r) (1 + 5 * i) = decK (r.drop (5 * i)) := by
  have key : ∀ x y, x + y ≤ 5 → g (c :: r) (1 + 5 * i + x) y = val (((r.drop (5 * i)).drop x).take y) := by
    intro x y hxy
    unfold g
    rw [if_pos (by rw [List.length_cons]; omega), show 1 + 5 * i + x = (5 * i + x) + 1 from by omega, List.drop_succ_cons, List.drop_drop]
  unfold rdK decK
  have k0 := key 0 3 (by decide)
  rw [Nat.add_zero, List.drop_zero] at k0
  rw [k0, key 3 2 (by decide)]
/-- What is gone through is the node, if the bytes say one. -/
theorem rds_good {T : Type} (X : Nodes T) (rd : List UInt8 → Nat → T) (hrd : ∀ c r i, X.wd * (i + 1) ≤ r.length → rd (c :: r) (1 + X.wd * i) = X.dec (r.drop (X.wd * i))) {s : List UInt8} {L : List T} (h : Good X s L) {m : Nat} (hm : m ≤ 8)
    (hstop : m = 8 ∨ s.length ≤ 1 + X.wd * m) (hgo : ∀ k, k < m → 1 + X.wd * k < s.length) : rds rd X.wd s m = L := by
  obtain ⟨c, r, rfl, hr, hL, hok⟩ := (says_iff X s L).1 h
  have h8 := X.short L hok
  have hl : L.length = c.toNat := by rw [hL, decs_len]
  have hp := X.pos
  have hmc : m = c.toNat := by
    rcases Nat.lt_trichotomy m c.toNat with h1 | h1 | h1
    · have h2 : X.wd * (m + 1) ≤ X.wd * c.toNat := Nat.mul_le_mul_left _ h1
      rw [Nat.mul_succ] at h2
      rcases hstop with h3 | h3
      · omega
      · rw [List.length_cons] at h3; omega
    · exact h1
    · have := hgo c.toNat h1
      rw [List.length_cons] at this; omega
  rw [hL, hmc]
  unfold rds decs
  apply List.map_congr_left
  intro i hi
  rw [List.mem_range] at hi
  exact hrd c r i (by rw [hr]; exact Nat.mul_le_mul_left _ hi)
theorem eq_lists (a b : List UInt8) : ((str a).toList == (str b).toList) = decide (a = b) := by
  rw [str_toList, str_toList]
  by_cases h : a = b
  · subst h; simp
  · rw [decide_eq_false h]; simpa using h

theorem info_rE : (Try.prog.info? 64).map (fun i => (i.zero, i.size, i.bytes)) = some (some (.agg #[.int .i64 0, .int .i64 0, .int .i64 0, .int .i64 0]), 4, 32) := by kernel_rfl
set_option maxHeartbeats 8000000 in
theorem rReadLeaf_any (s : List UInt8) (hs : s.length ≤ 140737488351232) (w : World) :
    Calls Try.prog 17 #[.string (str s)] w (REnd nE Exs s w) := by
  obtain ⟨i0, hi, hz0, hz1, hz2⟩ := info_parts info_rE
  have hz : (str s).size = s.length := str_size s
  have HG : Hid (∀ (a wd : Nat) (v : Int), v = (a : Int) → 1 ≤ wd → wd ≤ 4 → a ≤ 1000000000000000000 → ∀ w, Calls Try.prog 37 #[.string (str s), .int .i64 v, .int .i64 (wd : Int)] w fun r w' => r = .returned (.int .i64 (g s a wd : Nat)) ∧ w = w') := Lib.hid fun a wd v hv h1 h2 h3 w => by
    rw [hv]; exact rget9_any s hs a wd h1 h2 h3 w
  have HEQ : Hid (∀ D, ((str (nodeB eB D)).toList == (str s).toList) = decide (nodeB eB D = s)) := Lib.hid fun D => eq_lists _ _
  obtain ⟨S, hS⟩ : ∃ S, S = str s := ⟨_, rfl⟩
  rw [← hS] at HG hz HEQ ⊢
  have HZ := Lib.hid hz
  clear hS hz hs
  go_enter Try.func17, Try.ntmps17
  go_wp2
  go_loopw [4, 5] (fun v i wr => ∃ (k q : Nat) (A : Option Addr) (cc : Nat), k ≤ 8 ∧ i = .int .i64 (q : Int) ∧ v = .slice A k cc ∧ Hid (q = 1 + 10 * k) ∧ Hid (∀ j, j < k → 1 + 10 * j < s.length) ∧ Hid (wr.ownsRow w.heap.size 64 4 (.slice A k cc) k (exCells (rds rdE 10 s k))) ∧ Below w.heap.size w wr) (fun _ i _ => s.length + 20 - (intOf i).toNat)
  case atStart => exact ⟨0, 1, none, 0, by decide, rfl, rfl, Lib.hid rfl, Lib.hid (fun j hj => by omega), Lib.hid (World.ownsRow_nil _ _ _ _), Below.refl _ _⟩
  case round =>
    obtain ⟨k, q, A, cc, hk, rfl, rfl, HQE, HGO, HOW, hbel⟩ := hrel
    have HBL := Lib.hid hbel
    have hsz := hbel.size
    by_cases hlt : 1 + 10 * k < s.length
    · have t1 : (q : Int) < (S.size : Int) := by have := HZ.out; have := HQE.out; omega
      by_cases hk8 : k < 8
      · have t2 : (k : Int) < 8 := by omega
        have HGO' : Hid (∀ j, j < k + 1 → 1 + 10 * j < s.length) := Lib.hid fun j hj => by
          by_cases e : j = k
          · subst e; exact hlt
          · exact HGO.out j (by omega)
        obtain ⟨q3, hq3⟩ : ∃ x, x = q + 3 := ⟨_, rfl⟩
        have w1 : IntKind.i64.wrap ((q : Int) + 3) = (q3 : Int) := by have := HQE.out; rw [IntWalk.i64_in _ (by omega)]; omega
        have HQ3 := Lib.hid hq3
        clear hq3
        obtain ⟨q7, hq7⟩ : ∃ x, x = q + 7 := ⟨_, rfl⟩
        have w2 : IntKind.i64.wrap ((q : Int) + 7) = (q7 : Int) := by have := HQE.out; rw [IntWalk.i64_in _ (by omega)]; omega
        have HQ7 := Lib.hid hq7
        clear hq7
        obtain ⟨q8, hq8⟩ : ∃ x, x = q + 8 := ⟨_, rfl⟩
        have w3 : IntKind.i64.wrap ((q : Int) + 8) = (q8 : Int) := by have := HQE.out; rw [IntWalk.i64_in _ (by omega)]; omega
        have HQ8 := Lib.hid hq8
        clear hq8
        obtain ⟨qn, hqn⟩ : ∃ x, x = q + 10 := ⟨_, rfl⟩
        have w9 : IntKind.i64.wrap ((q : Int) + 10) = (qn : Int) := by have := HQE.out; rw [IntWalk.i64_in _ (by omega)]; omega
        have HQN := Lib.hid hqn
        clear hqn
        have HLT := Lib.hid hlt
        clear hbel hlt
        go_wp2_with fail
        refine (HG.out (1 + 10 * k) 3 _ (by have := HQE.out; omega) (by decide) (by decide) (by omega) _).mono ?_
        rintro r w2 ⟨rfl, rfl⟩
        go_wp2_with fail
        refine (HG.out (1 + 10 * k + 3) 4 _ (by have := HQE.out; have := HQ3.out; omega) (by decide) (by decide) (by omega) _).mono ?_
        rintro r w3 ⟨rfl, rfl⟩
        go_wp2_with fail
        refine (HG.out (1 + 10 * k + 7) 1 _ (by have := HQE.out; have := HQ7.out; omega) (by decide) (by decide) (by omega) _).mono ?_
        rintro r w4 ⟨rfl, rfl⟩
        go_wp2_with fail
        refine (HG.out (1 + 10 * k + 8) 2 _ (by have := HQE.out; have := HQ8.out; omega) (by decide) (by decide) (by omega) _).mono ?_
        rintro r w5 ⟨rfl, rfl⟩
        go_wp2_with (at_builtin; refine wpList_append_own _ rfl _ _ 29 rfl w.heap.size 64 i0 (.agg #[.int .i64 0, .int .i64 0, .int .i64 0, .int .i64 0]) 4 32 Try.underlying29 hi hz0 hz1 hz2 rfl (by decide) _ _ _ rfl (HOW.out.alloc _) ⟨wr.heap.size, 0, none⟩ 1 1 [.int .i64 (g s (1 + 10 * k) 3 : Nat), .int .i64 (g s (1 + 10 * k + 3) 4 : Nat), .int .i64 (g s (1 + 10 * k + 7) 1 : Nat), .int .i64 (g s (1 + 10 * k + 8) 2 : Nat)] rfl rfl ?c1 ?c2 ?c3 ?c4 ?c5 ?_)
        case c1 => exact new_cells _ _ _
        case c2 => intro u hu; simp at hu; rcases hu with rfl | rfl | rfl | rfl <;> rfl
        case c3 => unfold maxLen; omega
        case c4 => omega
        case c5 => simp; omega
        intro v8 w8 own8 hgrow _
        have own9 : w8.ownsRow w.heap.size 64 4 v8 (k + 1) (exCells (rds rdE 10 s (k + 1))) := by
          rw [rds_snoc, ← exCells_snoc]; exact own8
        have hl8 : Below w.heap.size w w8 := (HBL.out.alloc hsz _).grown hgrow (by simp; omega) (fun j hj => (HOW.out.lt j hj).1)
        obtain ⟨A8, c8, rfl⟩ := own_slice own9
        have O8 := Lib.hid own9
        have L8 := Lib.hid hl8
        clear own8 own9 hl8 hgrow
        go_wp2
        go_roundw
        case rel => exact ⟨k + 1, qn, A8, c8, by omega, by go_num, rfl, Lib.hid (by have := HQE.out; have := HQN.out; omega), HGO', O8, L8.out⟩
        case measure => have := HLT.out; have := HQE.out; have := HQN.out; simp [intOf]; omega
      · obtain rfl : k = 8 := by omega
        have HST : Hid (8 = 8 ∨ s.length ≤ 1 + 10 * 8) := Lib.hid (by omega)
        obtain ⟨D, hD⟩ : ∃ D, D = rds rdE 10 s 8 := ⟨_, rfl⟩
        have hDl : D.length = 8 := by rw [hD, rds_len]
        have hO := HOW.out
        rw [← hD] at hO
        have hO' : wr.ownsRow w.heap.size 64 4 (.slice A 8 cc) D.length (exCells D) := by rw [hDl]; exact hO
        obtain ⟨A', c', e1, e2⟩ := own_exs hO'
        have hA : A' = A := (Value.slice.inj e1).1.symm
        rw [hA] at e2
        have HROW := Lib.hid e2
        have HDL := Lib.hid hDl
        have HU : Hid (∀ L, Good nE s L → L = D) := Lib.hid fun L h => by
          rw [hD]; exact (rds_good nE rdE (fun c r i h => rd_decE c r i h) h hk HST.out HGO.out).symm
        have HNO := Lib.hid (fun cap (h : ¬ Leafy D) => rLeaf_no D 8 cap hDl.symm (by omega) A wr e2 h)
        have HOK := Lib.hid (fun cap (h : Leafy D) => rLeaf_ok D 8 cap hDl.symm A wr e2 h)
        have HEQD := Lib.hid (HEQ.out D)
        clear hD hDl hO hO' e1 e2 hA hbel hlt
        by_cases hv : Leafy D
        · have HC := Lib.hid (HOK.out cc hv)
          have HV := Lib.hid hv
          obtain ⟨TS, hTS⟩ : ∃ T, T = str (nodeB eB D) := ⟨_, rfl⟩
          rw [← hTS] at HC HEQD
          clear hv hTS HOK HNO
          by_cases hq : nodeB eB D = s
          · have heq := HEQD.out
            rw [decide_eq_true hq] at heq
            have HQ := Lib.hid hq
            clear hq
            go_wp2_with fail
            refine HC.out.mono ?_
            rintro e w2 ⟨rfl, hb2⟩
            have HB2 := Lib.hid (bkept HBL.out hb2)
            have HR2 := Lib.hid (HROW.out.below hb2)
            clear hb2
            go_wp2
            go_ret2
            exact .inl ⟨D, A, _, _, ⟨HV.out, HQ.out⟩, rfl, HDL.out.symm, own_cap HOW.out, HR2.out, HB2.out⟩
          · have heq := HEQD.out
            rw [decide_eq_false hq] at heq
            have HQ := Lib.hid hq
            clear hq
            go_wp2_with fail
            refine HC.out.mono ?_
            rintro e w2 ⟨rfl, hb2⟩
            have HB2 := Lib.hid (bkept HBL.out hb2)
            clear hb2
            go_wp2
            go_ret2
            exact .inr ⟨fun L h => HQ.out (by rw [← HU.out L h]; exact h.2), rfl, HB2.out⟩
        · have HC := Lib.hid (HNO.out cc hv)
          have HV := Lib.hid hv
          clear hv HOK HNO
          go_wp2_with fail
          refine HC.out.mono ?_
          rintro e w2 ⟨rfl, hb2⟩
          have HB2 := Lib.hid (bkept HBL.out hb2)
          clear hb2
          go_wp2
          go_ret2
          exact .inr ⟨fun L h => HV.out (by rw [← HU.out L h]; exact h.1), rfl, HB2.out⟩
    · have t1 : ¬ (q : Int) < (S.size : Int) := by have := HZ.out; have := HQE.out; omega
      have HST : Hid (k = 8 ∨ s.length ≤ 1 + 10 * k) := Lib.hid (by omega)
      obtain ⟨D, hD⟩ : ∃ D, D = rds rdE 10 s k := ⟨_, rfl⟩
      have hDl : D.length = k := by rw [hD, rds_len]
      have hO := HOW.out
      rw [← hD] at hO
      have hO' : wr.ownsRow w.heap.size 64 4 (.slice A k cc) D.length (exCells D) := by rw [hDl]; exact hO
      obtain ⟨A', c', e1, e2⟩ := own_exs hO'
      have hA : A' = A := (Value.slice.inj e1).1.symm
      rw [hA] at e2
      have HROW := Lib.hid e2
      have HDL := Lib.hid hDl
      have HU : Hid (∀ L, Good nE s L → L = D) := Lib.hid fun L h => by
        rw [hD]; exact (rds_good nE rdE (fun c r i h => rd_decE c r i h) h hk HST.out HGO.out).symm
      have HNO := Lib.hid (fun cap (h : ¬ Leafy D) => rLeaf_no D k cap hDl.symm (by omega) A wr e2 h)
      have HOK := Lib.hid (fun cap (h : Leafy D) => rLeaf_ok D k cap hDl.symm A wr e2 h)
      have HEQD := Lib.hid (HEQ.out D)
      clear hD hDl hO hO' e1 e2 hA hbel hlt
      by_cases hv : Leafy D
      · have HC := Lib.hid (HOK.out cc hv)
        have HV := Lib.hid hv
        obtain ⟨TS, hTS⟩ : ∃ T, T = str (nodeB eB D) := ⟨_, rfl⟩
        rw [← hTS] at HC HEQD
        clear hv hTS HOK HNO
        by_cases hq : nodeB eB D = s
        · have heq := HEQD.out
          rw [decide_eq_true hq] at heq
          have HQ := Lib.hid hq
          clear hq
          go_wp2_with fail
          refine HC.out.mono ?_
          rintro e w2 ⟨rfl, hb2⟩
          have HB2 := Lib.hid (bkept HBL.out hb2)
          have HR2 := Lib.hid (HROW.out.below hb2)
          clear hb2
          go_wp2
          go_ret2
          exact .inl ⟨D, A, _, _, ⟨HV.out, HQ.out⟩, rfl, HDL.out.symm, own_cap HOW.out, HR2.out, HB2.out⟩
        · have heq := HEQD.out
          rw [decide_eq_false hq] at heq
          have HQ := Lib.hid hq
          clear hq
          go_wp2_with fail
          refine HC.out.mono ?_
          rintro e w2 ⟨rfl, hb2⟩
          have HB2 := Lib.hid (bkept HBL.out hb2)
          clear hb2
          go_wp2
          go_ret2
          exact .inr ⟨fun L h => HQ.out (by rw [← HU.out L h]; exact h.2), rfl, HB2.out⟩
      · have HC := Lib.hid (HNO.out cc hv)
        have HV := Lib.hid hv
        clear hv HOK HNO
        go_wp2_with fail
        refine HC.out.mono ?_
        rintro e w2 ⟨rfl, hb2⟩
        have HB2 := Lib.hid (bkept HBL.out hb2)
        clear hb2
        go_wp2
        go_ret2
        exact .inr ⟨fun L h => HV.out (by rw [← HU.out L h]; exact h.1), rfl, HB2.out⟩

theorem info_rK : (Try.prog.info? 68).map (fun i => (i.zero, i.size, i.bytes)) = some (some (.agg #[.int .i64 0, .int .i64 0]), 2, 16) := by kernel_rfl
set_option maxHeartbeats 8000000 in
theorem rReadInner_any (s : List UInt8) (hs : s.length ≤ 140737488351232) (w : World) :
    Calls Try.prog 19 #[.string (str s)] w (REnd nK Kds s w) := by
  obtain ⟨i0, hi, hz0, hz1, hz2⟩ := info_parts info_rK
  have hz : (str s).size = s.length := str_size s
  have HG : Hid (∀ (a wd : Nat) (v : Int), v = (a : Int) → 1 ≤ wd → wd ≤ 4 → a ≤ 1000000000000000000 → ∀ w, Calls Try.prog 37 #[.string (str s), .int .i64 v, .int .i64 (wd : Int)] w fun r w' => r = .returned (.int .i64 (g s a wd : Nat)) ∧ w = w') := Lib.hid fun a wd v hv h1 h2 h3 w => by
    rw [hv]; exact rget9_any s hs a wd h1 h2 h3 w
  have HEQ : Hid (∀ D, ((str (nodeB kB D)).toList == (str s).toList) = decide (nodeB kB D = s)) := Lib.hid fun D => eq_lists _ _
  obtain ⟨S, hS⟩ : ∃ S, S = str s := ⟨_, rfl⟩
  rw [← hS] at HG hz HEQ ⊢
  have HZ := Lib.hid hz
  clear hS hz hs
  go_enter Try.func19, Try.ntmps19
  go_wp2
  go_loopw [4, 5] (fun v i wr => ∃ (k q : Nat) (A : Option Addr) (cc : Nat), k ≤ 8 ∧ i = .int .i64 (q : Int) ∧ v = .slice A k cc ∧ Hid (q = 1 + 5 * k) ∧ Hid (∀ j, j < k → 1 + 5 * j < s.length) ∧ Hid (wr.ownsRow w.heap.size 68 2 (.slice A k cc) k (kdCells (rds rdK 5 s k))) ∧ Below w.heap.size w wr) (fun _ i _ => s.length + 20 - (intOf i).toNat)
  case atStart => exact ⟨0, 1, none, 0, by decide, rfl, rfl, Lib.hid rfl, Lib.hid (fun j hj => by omega), Lib.hid (World.ownsRow_nil _ _ _ _), Below.refl _ _⟩
  case round =>
    obtain ⟨k, q, A, cc, hk, rfl, rfl, HQE, HGO, HOW, hbel⟩ := hrel
    have HBL := Lib.hid hbel
    have hsz := hbel.size
    by_cases hlt : 1 + 5 * k < s.length
    · have t1 : (q : Int) < (S.size : Int) := by have := HZ.out; have := HQE.out; omega
      by_cases hk8 : k < 8
      · have t2 : (k : Int) < 8 := by omega
        have HGO' : Hid (∀ j, j < k + 1 → 1 + 5 * j < s.length) := Lib.hid fun j hj => by
          by_cases e : j = k
          · subst e; exact hlt
          · exact HGO.out j (by omega)
        obtain ⟨q3, hq3⟩ : ∃ x, x = q + 3 := ⟨_, rfl⟩
        have w1 : IntKind.i64.wrap ((q : Int) + 3) = (q3 : Int) := by have := HQE.out; rw [IntWalk.i64_in _ (by omega)]; omega
        have HQ3 := Lib.hid hq3
        clear hq3
        obtain ⟨qn, hqn⟩ : ∃ x, x = q + 5 := ⟨_, rfl⟩
        have w9 : IntKind.i64.wrap ((q : Int) + 5) = (qn : Int) := by have := HQE.out; rw [IntWalk.i64_in _ (by omega)]; omega
        have HQN := Lib.hid hqn
        clear hqn
        have HLT := Lib.hid hlt
        clear hbel hlt
        go_wp2_with fail
        refine (HG.out (1 + 5 * k) 3 _ (by have := HQE.out; omega) (by decide) (by decide) (by omega) _).mono ?_
        rintro r w2 ⟨rfl, rfl⟩
        go_wp2_with fail
        refine (HG.out (1 + 5 * k + 3) 2 _ (by have := HQE.out; have := HQ3.out; omega) (by decide) (by decide) (by omega) _).mono ?_
        rintro r w3 ⟨rfl, rfl⟩
        go_wp2_with (at_builtin; refine wpList_append_own _ rfl _ _ 35 rfl w.heap.size 68 i0 (.agg #[.int .i64 0, .int .i64 0]) 2 16 Try.underlying35 hi hz0 hz1 hz2 rfl (by decide) _ _ _ rfl (HOW.out.alloc _) ⟨wr.heap.size, 0, none⟩ 1 1 [.int .i64 (g s (1 + 5 * k) 3 : Nat), .int .i64 (g s (1 + 5 * k + 3) 2 : Nat)] rfl rfl ?c1 ?c2 ?c3 ?c4 ?c5 ?_)
        case c1 => exact new_cells _ _ _
        case c2 => intro u hu; simp at hu; rcases hu with rfl | rfl <;> rfl
        case c3 => unfold maxLen; omega
        case c4 => omega
        case c5 => simp; omega
        intro v8 w8 own8 hgrow _
        have own9 : w8.ownsRow w.heap.size 68 2 v8 (k + 1) (kdCells (rds rdK 5 s (k + 1))) := by
          rw [rds_snoc, ← kdCells_snoc]; exact own8
        have hl8 : Below w.heap.size w w8 := (HBL.out.alloc hsz _).grown hgrow (by simp; omega) (fun j hj => (HOW.out.lt j hj).1)
        obtain ⟨A8, c8, rfl⟩ := own_slice own9
        have O8 := Lib.hid own9
        have L8 := Lib.hid hl8
        clear own8 own9 hl8 hgrow
        go_wp2
        go_roundw
        case rel => exact ⟨k + 1, qn, A8, c8, by omega, by go_num, rfl, Lib.hid (by have := HQE.out; have := HQN.out; omega), HGO', O8, L8.out⟩
        case measure => have := HLT.out; have := HQE.out; have := HQN.out; simp [intOf]; omega
      · obtain rfl : k = 8 := by omega
        have HST : Hid (8 = 8 ∨ s.length ≤ 1 + 5 * 8) := Lib.hid (by omega)
        obtain ⟨D, hD⟩ : ∃ D, D = rds rdK 5 s 8 := ⟨_, rfl⟩
        have hDl : D.length = 8 := by rw [hD, rds_len]
        have hO := HOW.out
        rw [← hD] at hO
        have hO' : wr.ownsRow w.heap.size 68 2 (.slice A 8 cc) D.length (kdCells D) := by rw [hDl]; exact hO
        obtain ⟨A', c', e1, e2⟩ := own_kds hO'
        have hA : A' = A := (Value.slice.inj e1).1.symm
        rw [hA] at e2
        have HROW := Lib.hid e2
        have HDL := Lib.hid hDl
        have HU : Hid (∀ L, Good nK s L → L = D) := Lib.hid fun L h => by
          rw [hD]; exact (rds_good nK rdK (fun c r i h => rd_decK c r i h) h hk HST.out HGO.out).symm
        have HNO := Lib.hid (fun cap (h : ¬ Kidy D) => rInner_no D 8 cap hDl.symm (by omega) A wr e2 h)
        have HOK := Lib.hid (fun cap (h : Kidy D) => rInner_ok D 8 cap hDl.symm A wr e2 h)
        have HEQD := Lib.hid (HEQ.out D)
        clear hD hDl hO hO' e1 e2 hA hbel hlt
        by_cases hv : Kidy D
        · have HC := Lib.hid (HOK.out cc hv)
          have HV := Lib.hid hv
          obtain ⟨TS, hTS⟩ : ∃ T, T = str (nodeB kB D) := ⟨_, rfl⟩
          rw [← hTS] at HC HEQD
          clear hv hTS HOK HNO
          by_cases hq : nodeB kB D = s
          · have heq := HEQD.out
            rw [decide_eq_true hq] at heq
            have HQ := Lib.hid hq
            clear hq
            go_wp2_with fail
            refine HC.out.mono ?_
            rintro e w2 ⟨rfl, hb2⟩
            have HB2 := Lib.hid (bkept HBL.out hb2)
            have HR2 := Lib.hid (HROW.out.below hb2)
            clear hb2
            go_wp2
            go_ret2
            exact .inl ⟨D, A, _, _, ⟨HV.out, HQ.out⟩, rfl, HDL.out.symm, own_cap HOW.out, HR2.out, HB2.out⟩
          · have heq := HEQD.out
            rw [decide_eq_false hq] at heq
            have HQ := Lib.hid hq
            clear hq
            go_wp2_with fail
            refine HC.out.mono ?_
            rintro e w2 ⟨rfl, hb2⟩
            have HB2 := Lib.hid (bkept HBL.out hb2)
            clear hb2
            go_wp2
            go_ret2
            exact .inr ⟨fun L h => HQ.out (by rw [← HU.out L h]; exact h.2), rfl, HB2.out⟩
        · have HC := Lib.hid (HNO.out cc hv)
          have HV := Lib.hid hv
          clear hv HOK HNO
          go_wp2_with fail
          refine HC.out.mono ?_
          rintro e w2 ⟨rfl, hb2⟩
          have HB2 := Lib.hid (bkept HBL.out hb2)
          clear hb2
          go_wp2
          go_ret2
          exact .inr ⟨fun L h => HV.out (by rw [← HU.out L h]; exact h.1), rfl, HB2.out⟩
    · have t1 : ¬ (q : Int) < (S.size : Int) := by have := HZ.out; have := HQE.out; omega
      have HST : Hid (k = 8 ∨ s.length ≤ 1 + 5 * k) := Lib.hid (by omega)
      obtain ⟨D, hD⟩ : ∃ D, D = rds rdK 5 s k := ⟨_, rfl⟩
      have hDl : D.length = k := by rw [hD, rds_len]
      have hO := HOW.out
      rw [← hD] at hO
      have hO' : wr.ownsRow w.heap.size 68 2 (.slice A k cc) D.length (kdCells D) := by rw [hDl]; exact hO
      obtain ⟨A', c', e1, e2⟩ := own_kds hO'
      have hA : A' = A := (Value.slice.inj e1).1.symm
      rw [hA] at e2
      have HROW := Lib.hid e2
      have HDL := Lib.hid hDl
      have HU : Hid (∀ L, Good nK s L → L = D) := Lib.hid fun L h => by
        rw [hD]; exact (rds_good nK rdK (fun c r i h => rd_decK c r i h) h hk HST.out HGO.out).symm
      have HNO := Lib.hid (fun cap (h : ¬ Kidy D) => rInner_no D k cap hDl.symm (by omega) A wr e2 h)
      have HOK := Lib.hid (fun cap (h : Kidy D) => rInner_ok D k cap hDl.symm A wr e2 h)
      have HEQD := Lib.hid (HEQ.out D)
      clear hD hDl hO hO' e1 e2 hA hbel hlt
      by_cases hv : Kidy D
      · have HC := Lib.hid (HOK.out cc hv)
        have HV := Lib.hid hv
        obtain ⟨TS, hTS⟩ : ∃ T, T = str (nodeB kB D) := ⟨_, rfl⟩
        rw [← hTS] at HC HEQD
        clear hv hTS HOK HNO
        by_cases hq : nodeB kB D = s
        · have heq := HEQD.out
          rw [decide_eq_true hq] at heq
          have HQ := Lib.hid hq
          clear hq
          go_wp2_with fail
          refine HC.out.mono ?_
          rintro e w2 ⟨rfl, hb2⟩
          have HB2 := Lib.hid (bkept HBL.out hb2)
          have HR2 := Lib.hid (HROW.out.below hb2)
          clear hb2
          go_wp2
          go_ret2
          exact .inl ⟨D, A, _, _, ⟨HV.out, HQ.out⟩, rfl, HDL.out.symm, own_cap HOW.out, HR2.out, HB2.out⟩
        · have heq := HEQD.out
          rw [decide_eq_false hq] at heq
          have HQ := Lib.hid hq
          clear hq
          go_wp2_with fail
          refine HC.out.mono ?_
          rintro e w2 ⟨rfl, hb2⟩
          have HB2 := Lib.hid (bkept HBL.out hb2)
          clear hb2
          go_wp2
          go_ret2
          exact .inr ⟨fun L h => HQ.out (by rw [← HU.out L h]; exact h.2), rfl, HB2.out⟩
      · have HC := Lib.hid (HNO.out cc hv)
        have HV := Lib.hid hv
        clear hv HOK HNO
        go_wp2_with fail
        refine HC.out.mono ?_
        rintro e w2 ⟨rfl, hb2⟩
        have HB2 := Lib.hid (bkept HBL.out hb2)
        clear hb2
        go_wp2
        go_ret2
        exact .inr ⟨fun L h => HV.out (by rw [← HU.out L h]; exact h.1), rfl, HB2.out⟩
end LF
end Go.Proofs.Ytmndbdkodijlbaa
