/- What scoriaref12.get and Read answer: of any bytes. Condition: no text is longer than 2^47 bytes. -/
import Derived.Test.YtdjlflinepefbaaRtO
import Derived.Test.YtdjlflinepefbaaRefGet
namespace Go.Proofs.Ytdjlflinepefbaa
open Go.RowKit
namespace RT
open MM FM EX
open LF (decs decs_snoc decs_len flat_len)
set_option linter.unusedVariables false
set_option linter.unusedSimpArgs false

/-- The number of a field; 0, if it is not there. -/
def gt (s : List UInt8) (a wd : Nat) : Nat := if a + wd ≤ s.length then val ((s.drop a).take wd) else 0
theorem gt_lt (s : List UInt8) (a wd : Nat) (h : wd ≤ 5) : gt s a wd < 1099511627776 := by
  unfold gt
  split
  · have h1 := val_lt ((s.drop a).take wd)
    have h2 : 256 ^ ((s.drop a).take wd).length ≤ 256 ^ 5 := Nat.pow_le_pow_right (by decide) (by rw [List.length_take]; omega)
    omega
  · omega
theorem rget_any (s : List UInt8) (hs : s.length ≤ 140737488351232) (a wd : Nat) (h1 : 1 ≤ wd) (h8 : wd ≤ 5) (ha : a ≤ 1000000000000000000) (w : World) :
    Calls Try.prog 32 #[.string (str s), .int .i64 (a : Int), .int .i64 (wd : Int)] w fun r w' => r = .returned (.int .i64 (gt s a wd : Nat)) ∧ w = w' := by
  have hz : (str s).size = s.length := str_size s
  have HP : Hid (∃ n : Int, ∀ w, Calls Try.prog 49 #[.string (str s), .int .i64 (a : Int), .int .i64 (wd : Int)] w fun e w' => e = .returned (.tuple #[.int .u64 (gt s a wd : Nat), .int .i64 n]) ∧ w = w') := by
    by_cases h : a + wd ≤ s.length
    · refine ⟨0, fun w => ?_⟩
      have := rget_ok (str s) (by omega) a wd h1 (by omega) (by omega) w
      unfold gt
      rw [if_pos h]
      exact this
    · refine ⟨5, fun w => ?_⟩
      have := rget_short (str s) (by omega) a wd (by omega) (by omega) (by omega) (by omega) w
      unfold gt
      rw [if_neg h]
      exact this
  obtain ⟨n, hp⟩ := HP.out
  have HQ := Lib.hid hp
  have e1 := i64_nat (n := gt s a wd) (by have := gt_lt s a wd h8; omega)
  obtain ⟨S, hS⟩ : ∃ S, S = str s := ⟨_, rfl⟩
  obtain ⟨G, hG⟩ : ∃ G, G = gt s a wd := ⟨_, rfl⟩
  rw [← hS, ← hG] at HQ
  rw [← hG] at e1
  rw [← hS, ← hG]
  clear hp HP hz hS hG hs ha
  go_enter Try.func32, Try.ntmps32
  go_wp2_with fail
  refine (HQ.out _).mono ?_
  rintro r w1 ⟨rfl, rfl⟩
  go_wp2
  go_ret
  exact ⟨rfl, rfl⟩
def rdS (s : List UInt8) (a : Nat) : Ext := ⟨(gt s a 2 : Nat), (gt s (a + 2) 4 : Nat), if gt s (a + 8) 1 = 0 then -1 else (gt s (a + 6) 2 : Nat), (gt s (a + 8) 1 : Nat)⟩
def rds (s : List UInt8) (k : Nat) : List Ext := (List.range k).map fun i => rdS s (6 + 9 * i)
theorem rds_snoc (s : List UInt8) (k : Nat) : rds s (k + 1) = rds s k ++ [rdS s (6 + 9 * k)] := by simp [rds, List.range_succ]
theorem rds_len (s : List UInt8) (k : Nat) : (rds s k).length = k := by simp [rds]
/-- Bytes that say a record are gone through so. -/
theorem rds_good {s : List UInt8} {g : Int} {L : List Ext} (h : Says s g L) {m : Nat} (hm : m ≤ 8) (hstop : m = 8 ∨ s.length ≤ 6 + 9 * m) (hgo : ∀ k, k < m → 6 + 9 * k < s.length) : g = (gt s 0 5 : Nat) ∧ rds s m = L := by
  have hl := says_len h
  obtain ⟨h6, hr, hL, hg, hR⟩ := (says_iff s g L).1 h
  have hmc : m = L.length := by
    rcases Nat.lt_trichotomy m L.length with h1 | h1 | h1
    · rcases hstop with h3 | h3 <;> omega
    · exact h1
    · have := hgo L.length h1; omega
  refine ⟨?_, ?_⟩
  · rw [hg]; unfold gt genOf; rw [if_pos (by omega), List.drop_zero]
  · apply List.ext_getElem?
    intro i
    rw [hmc]
    by_cases hi : i < L.length
    · have hx : L[i]? = some L[i] := List.getElem?_eq_getElem hi
      have hd : L[i] = decS ((s.drop 6).drop (9 * i)) := by
        have e1 : (decs decS 9 (cntOf s) (s.drop 6))[i]? = some (decS ((s.drop 6).drop (9 * i))) := by
          unfold LF.decs
          rw [List.getElem?_map, List.getElem?_range (by rw [hL, decs_len] at hi; exact hi)]; rfl
        rw [← hL, hx] at e1
        exact Option.some.inj e1
      have hrest := hR.2.rest hx
      unfold rds
      rw [List.getElem?_map, List.getElem?_range hi, hx]
      simp only [Option.map_some, Option.some.injEq]
      have key : ∀ x y, x + y ≤ 9 → gt s (6 + 9 * i + x) y = val ((((s.drop 6).drop (9 * i)).drop x).take y) := by
        intro x y hxy
        unfold gt
        rw [if_pos (by omega), List.drop_drop, List.drop_drop, show 6 + (9 * i + x) = 6 + 9 * i + x from by omega]
      have k0 := key 0 2 (by decide)
      rw [Nat.add_zero, List.drop_zero] at k0
      rw [hd]
      rw [hd] at hrest
      unfold rdS decS
      rw [k0, key 2 4 (by decide), key 6 2 (by decide), key 8 1 (by decide)]
      unfold decS SpRest at hrest
      simp only at hrest
      congr 1
      by_cases hz : val ((((s.drop 6).drop (9 * i)).drop 8).take 1) = 0
      · rw [if_pos hz]
        by_cases hz2 : val ((((s.drop 6).drop (9 * i)).drop 6).take 2) = 0
        · rw [if_pos ⟨hz, hz2⟩]
        · rw [if_neg (fun h => hz2 h.2)] at hrest
          rcases hrest.2.2 with h9 | h9 <;> omega
      · rw [if_neg hz, if_neg (fun h => hz h.1)]
    · rw [List.getElem?_eq_none (by rw [rds_len]; omega), List.getElem?_eq_none (by omega)]
theorem eq_lists (a b : List UInt8) : ((str a).toList == (str b).toList) = decide (a = b) := by
  rw [str_toList, str_toList]
  by_cases h : a = b
  · subst h; simp
  · rw [decide_eq_false h]; simpa using h

theorem info_rS : (Try.prog.info? 76).map (fun i => (i.zero, i.size, i.bytes)) = some (some (.agg #[.int .i64 0, .int .i64 0, .int .i64 0, .int .i64 0]), 4, 32) := by kernel_rfl
set_option maxRecDepth 100000 in
set_option maxHeartbeats 8000000 in
theorem rRead_any (s : List UInt8) (hs : s.length ≤ 140737488351232) (w : World) :
    Calls Try.prog 15 #[.string (str s)] w (REnd s w) := by
  obtain ⟨i0, hi, hz0, hz1, hz2⟩ := info_parts info_rS
  have hz : (str s).size = s.length := str_size s
  have HG : Hid (∀ (a wd : Nat) (v : Int), v = (a : Int) → 1 ≤ wd → wd ≤ 5 → a ≤ 1000000000000000000 → ∀ w, Calls Try.prog 32 #[.string (str s), .int .i64 v, .int .i64 (wd : Int)] w fun r w' => r = .returned (.int .i64 (gt s a wd : Nat)) ∧ w = w') := Lib.hid fun a wd v hv h1 h2 h3 w => by
    rw [hv]; exact rget_any s hs a wd h1 h2 h3 w
  have HEQ : Hid (∀ g D, ((str (recB g D)).toList == (str s).toList) = decide (recB g D = s)) := Lib.hid fun g D => eq_lists _ _
  obtain ⟨S, hS⟩ : ∃ S, S = str s := ⟨_, rfl⟩
  rw [← hS] at HG hz HEQ ⊢
  have HZ := Lib.hid hz
  obtain ⟨gn, hgn⟩ : ∃ g, g = gt s 0 5 := ⟨_, rfl⟩
  have HG0 := Lib.hid (HG.out 0 5 0 rfl (by decide) (by decide) (by decide))
  rw [← hgn] at HG0
  have HGN := Lib.hid hgn
  clear hS hz hs hgn
  go_enter Try.func15, Try.ntmps15
  go_wp2_with fail
  refine (HG0.out _).mono ?_
  rintro r w0 ⟨rfl, rfl⟩
  go_wp2
  go_loopw [6, 7] (fun v i wr => ∃ (k q : Nat) (A : Option Addr) (cc : Nat), k ≤ 8 ∧ i = .int .i64 (q : Int) ∧ v = .slice A k cc ∧ Hid (q = 6 + 9 * k) ∧ Hid (∀ j, j < k → 6 + 9 * j < s.length) ∧ Hid (wr.ownsRow w.heap.size 76 4 (.slice A k cc) k (exCells (rds s k))) ∧ Below w.heap.size w wr) (fun _ i _ => s.length + 20 - (intOf i).toNat)
  case atStart => exact ⟨0, 6, none, 0, by decide, rfl, rfl, Lib.hid rfl, Lib.hid (fun j hj => by omega), Lib.hid (World.ownsRow_nil _ _ _ _), Below.refl _ _⟩
  case round =>
    obtain ⟨k, q, A, cc, hk, rfl, rfl, HQE, HGO, HOW, hbel⟩ := hrel
    have HBL := Lib.hid hbel
    have hsz := hbel.size
    by_cases hlt : 6 + 9 * k < s.length
    · have t1 : (q : Int) < (S.size : Int) := by have := HZ.out; have := HQE.out; omega
      by_cases hk8 : k < 8
      · have t2 : (k : Int) < 8 := by omega
        have HGO' : Hid (∀ j, j < k + 1 → 6 + 9 * j < s.length) := Lib.hid fun j hj => by
          by_cases e : j = k
          · subst e; exact hlt
          · exact HGO.out j (by omega)
        obtain ⟨q2, hq2⟩ : ∃ x, x = q + 2 := ⟨_, rfl⟩
        have w2 : IntKind.i64.wrap ((q : Int) + 2) = (q2 : Int) := by have := HQE.out; rw [IntWalk.i64_in _ (by omega)]; omega
        have HQ2 := Lib.hid hq2
        clear hq2
        obtain ⟨q6, hq6⟩ : ∃ x, x = q + 6 := ⟨_, rfl⟩
        have w6 : IntKind.i64.wrap ((q : Int) + 6) = (q6 : Int) := by have := HQE.out; rw [IntWalk.i64_in _ (by omega)]; omega
        have HQ6 := Lib.hid hq6
        clear hq6
        obtain ⟨q8, hq8⟩ : ∃ x, x = q + 8 := ⟨_, rfl⟩
        have w8 : IntKind.i64.wrap ((q : Int) + 8) = (q8 : Int) := by have := HQE.out; rw [IntWalk.i64_in _ (by omega)]; omega
        have HQ8 := Lib.hid hq8
        clear hq8
        obtain ⟨qn, hqn⟩ : ∃ x, x = q + 9 := ⟨_, rfl⟩
        have w9 : IntKind.i64.wrap ((q : Int) + 9) = (qn : Int) := by have := HQE.out; rw [IntWalk.i64_in _ (by omega)]; omega
        have HQN := Lib.hid hqn
        clear hqn
        have HLT := Lib.hid hlt
        obtain ⟨v0, hv0⟩ : ∃ x, x = gt s (6 + 9 * k) 2 := ⟨_, rfl⟩
        obtain ⟨v1, hv1⟩ : ∃ x, x = gt s (6 + 9 * k + 2) 4 := ⟨_, rfl⟩
        obtain ⟨v2, hv2⟩ : ∃ x, x = gt s (6 + 9 * k + 6) 2 := ⟨_, rfl⟩
        obtain ⟨v3, hv3⟩ : ∃ x, x = gt s (6 + 9 * k + 8) 1 := ⟨_, rfl⟩
        have HC0 := Lib.hid (HG.out (6 + 9 * k) 2 _ (show (q : Int) = _ by have := HQE.out; omega) (by decide) (by decide) (by have := HLT.out; omega))
        have HC1 := Lib.hid (HG.out (6 + 9 * k + 2) 4 _ (show (q2 : Int) = _ by have := HQE.out; have := HQ2.out; omega) (by decide) (by decide) (by have := HLT.out; omega))
        have HC2 := Lib.hid (HG.out (6 + 9 * k + 6) 2 _ (show (q6 : Int) = _ by have := HQE.out; have := HQ6.out; omega) (by decide) (by decide) (by have := HLT.out; omega))
        have HC3 := Lib.hid (HG.out (6 + 9 * k + 8) 1 _ (show (q8 : Int) = _ by have := HQE.out; have := HQ8.out; omega) (by decide) (by decide) (by have := HLT.out; omega))
        rw [← hv0] at HC0
        rw [← hv1] at HC1
        rw [← hv2] at HC2
        rw [← hv3] at HC3
        have HRD : Hid (∀ T : Int, T = (if v3 = 0 then -1 else ((v2 : Nat) : Int)) → rdS s (6 + 9 * k) = ⟨(v0 : Nat), (v1 : Nat), T, (v3 : Nat)⟩) := Lib.hid fun T hT => by unfold rdS; rw [← hv0, ← hv1, ← hv2, ← hv3, hT]
        clear hbel hlt hv0 hv1 hv2 hv3
        by_cases hh : v3 = 0
        · have HT := Lib.hid (HRD.out (-1) (by rw [if_pos hh]))
          subst hh
          go_wp2_with fail
          refine (HC0.out _).mono ?_
          rintro r x0 ⟨rfl, rfl⟩
          go_wp2_with fail
          refine (HC1.out _).mono ?_
          rintro r x1 ⟨rfl, rfl⟩
          go_wp2_with fail
          refine (HC2.out _).mono ?_
          rintro r x2 ⟨rfl, rfl⟩
          go_wp2_with fail
          refine (HC3.out _).mono ?_
          rintro r x3 ⟨rfl, rfl⟩
          go_wp2_with (at_builtin; refine wpList_append_own _ rfl _ _ 29 rfl w.heap.size 76 i0 (.agg #[.int .i64 0, .int .i64 0, .int .i64 0, .int .i64 0]) 4 32 Try.underlying29 hi hz0 hz1 hz2 rfl (by decide) _ _ _ rfl ((HOW.out.alloc _).alloc _) ⟨wr.heap.size + 1, 0, none⟩ 1 1 [.int .i64 (v0 : Nat), .int .i64 (v1 : Nat), .int .i64 (-1), .int .i64 0] rfl (by rfl) ?c1 ?c2 ?c3 ?c4 ?c5 ?_)
          case c1 => exact new_cellsH _ _ _ _ (by simp)
          case c2 => intro u hu; simp at hu; rcases hu with rfl | rfl | rfl | rfl <;> rfl
          case c3 => unfold maxLen; omega
          case c4 => omega
          case c5 => simp; omega
          intro v8 w8 own8 hgrow _
          have own9 : w8.ownsRow w.heap.size 76 4 v8 (k + 1) (exCells (rds s (k + 1))) := by
            rw [rds_snoc, ← exCells_snoc, HT.out]; exact own8
          have hl8 : Below w.heap.size w w8 := ((HBL.out.alloc hsz _).alloc (by simp; omega) _).grown hgrow (by simp; omega) (fun j hj => (HOW.out.lt j hj).1)
          obtain ⟨A8, c8, rfl⟩ := own_slice own9
          have O8 := Lib.hid own9
          have L8 := Lib.hid hl8
          clear own8 own9 hl8 hgrow
          go_wp2
          go_roundw
          case rel => exact ⟨k + 1, qn, A8, c8, by omega, by go_num, rfl, Lib.hid (by have := HQE.out; have := HQN.out; omega), HGO', O8, L8.out⟩
          case measure => have := HLT.out; have := HQE.out; have := HQN.out; simp [intOf]; omega
        · have HT := Lib.hid (HRD.out (v2 : Nat) (by rw [if_neg hh]))
          have hh' : ((v3 : Int) == 0) = false := by simp; omega
          clear hh
          go_wp2_with fail
          refine (HC0.out _).mono ?_
          rintro r x0 ⟨rfl, rfl⟩
          go_wp2_with fail
          refine (HC1.out _).mono ?_
          rintro r x1 ⟨rfl, rfl⟩
          go_wp2_with fail
          refine (HC2.out _).mono ?_
          rintro r x2 ⟨rfl, rfl⟩
          go_wp2_with fail
          refine (HC3.out _).mono ?_
          rintro r x3 ⟨rfl, rfl⟩
          go_wp2_with (at_builtin; refine wpList_append_own _ rfl _ _ 29 rfl w.heap.size 76 i0 (.agg #[.int .i64 0, .int .i64 0, .int .i64 0, .int .i64 0]) 4 32 Try.underlying29 hi hz0 hz1 hz2 rfl (by decide) _ _ _ rfl ((HOW.out.alloc _).alloc _) ⟨wr.heap.size + 1, 0, none⟩ 1 1 [.int .i64 (v0 : Nat), .int .i64 (v1 : Nat), .int .i64 (v2 : Nat), .int .i64 (v3 : Nat)] rfl (by rfl) ?c1 ?c2 ?c3 ?c4 ?c5 ?_)
          case c1 => exact new_cellsH _ _ _ _ (by simp)
          case c2 => intro u hu; simp at hu; rcases hu with rfl | rfl | rfl | rfl <;> rfl
          case c3 => unfold maxLen; omega
          case c4 => omega
          case c5 => simp; omega
          intro v8 w8 own8 hgrow _
          have own9 : w8.ownsRow w.heap.size 76 4 v8 (k + 1) (exCells (rds s (k + 1))) := by
            rw [rds_snoc, ← exCells_snoc, HT.out]; exact own8
          have hl8 : Below w.heap.size w w8 := ((HBL.out.alloc hsz _).alloc (by simp; omega) _).grown hgrow (by simp; omega) (fun j hj => (HOW.out.lt j hj).1)
          obtain ⟨A8, c8, rfl⟩ := own_slice own9
          have O8 := Lib.hid own9
          have L8 := Lib.hid hl8
          clear own8 own9 hl8 hgrow
          go_wp2
          go_roundw
          case rel => exact ⟨k + 1, qn, A8, c8, by omega, by go_num, rfl, Lib.hid (by have := HQE.out; have := HQN.out; omega), HGO', O8, L8.out⟩
          case measure => have := HLT.out; have := HQE.out; have := HQN.out; simp [intOf]; omega
      · obtain rfl : k = 8 := by omega
        have HST : Hid (8 = 8 ∨ s.length ≤ 6 + 9 * 8) := Lib.hid (by omega)
        obtain ⟨D, hD⟩ : ∃ D, D = rds s 8 := ⟨_, rfl⟩
        have hDl : D.length = 8 := by rw [hD, rds_len]
        have hO := HOW.out
        rw [← hD] at hO
        have hO' : wr.ownsRow w.heap.size 76 4 (.slice A 8 cc) D.length (exCells D) := by rw [hDl]; exact hO
        obtain ⟨A', c', e1, e2⟩ := own_exs hO'
        have hA : A' = A := (Value.slice.inj e1).1.symm
        rw [hA] at e2
        have HROW := Lib.hid e2
        have HDL := Lib.hid hDl
        have HU : Hid (∀ g L, Says s g L → g = (gn : Nat) ∧ L = D) := Lib.hid fun g L h => by
          have := rds_good h hk HST.out HGO.out
          rw [hD, HGN.out]; exact ⟨this.1, this.2.symm⟩
        have HNO := Lib.hid (fun cap (h : ¬ Recd (gn : Nat) D) => rWrite_no (gn : Nat) D 8 cap hDl.symm A wr e2 h)
        have HOK := Lib.hid (fun cap (h : Recd (gn : Nat) D) => rWrite_ok (gn : Nat) D 8 cap hDl.symm A wr e2 h)
        have HEQD := Lib.hid (HEQ.out (gn : Nat) D)
        clear hD hDl hO hO' e1 e2 hA hbel hlt
        by_cases hv : Recd (gn : Nat) D
        · have HC := Lib.hid (HOK.out cc hv)
          have HV := Lib.hid hv
          obtain ⟨TS, hTS⟩ : ∃ T, T = str (recB (gn : Nat) D) := ⟨_, rfl⟩
          rw [← hTS] at HC HEQD
          clear hv hTS HOK HNO
          by_cases hq : recB (gn : Nat) D = s
          · have heq := HEQD.out
            rw [decide_eq_true hq] at heq
            have HQ := Lib.hid hq
            clear hq
            go_wp2_with fail
            refine HC.out.mono ?_
            rintro e w2 ⟨rfl, hb2⟩
            have HB2 := Lib.hid (bkept HBL.out hb2)
            have HR2 := Lib.hid (HROW.out.below hb2)
            clear hb2
            go_wp2
            go_ret3
            exact .inl ⟨_, D, A, _, _, ⟨HV.out, HQ.out⟩, rfl, HDL.out.symm, own_cap HOW.out, HR2.out, HB2.out⟩
          · have heq := HEQD.out
            rw [decide_eq_false hq] at heq
            have HQ := Lib.hid hq
            clear hq
            go_wp2_with fail
            refine HC.out.mono ?_
            rintro e w2 ⟨rfl, hb2⟩
            have HB2 := Lib.hid (bkept HBL.out hb2)
            clear hb2
            go_wp2
            go_ret3
            exact .inr ⟨fun g L h => HQ.out (by obtain ⟨rfl, rfl⟩ := HU.out g L h; exact h.2), rfl, HB2.out⟩
        · have HC := Lib.hid (HNO.out cc hv)
          have HV := Lib.hid hv
          clear hv HOK HNO
          go_wp2_with fail
          refine HC.out.mono ?_
          rintro e w2 ⟨rfl, hb2⟩
          have HB2 := Lib.hid (bkept HBL.out hb2)
          clear hb2
          go_wp2
          go_ret3
          exact .inr ⟨fun g L h => HV.out (by obtain ⟨rfl, rfl⟩ := HU.out g L h; exact h.1), rfl, HB2.out⟩
    · have t1 : ¬ (q : Int) < (S.size : Int) := by have := HZ.out; have := HQE.out; omega
      have HST : Hid (k = 8 ∨ s.length ≤ 6 + 9 * k) := Lib.hid (by omega)
      obtain ⟨D, hD⟩ : ∃ D, D = rds s k := ⟨_, rfl⟩
      have hDl : D.length = k := by rw [hD, rds_len]
      have hO := HOW.out
      rw [← hD] at hO
      have hO' : wr.ownsRow w.heap.size 76 4 (.slice A k cc) D.length (exCells D) := by rw [hDl]; exact hO
      obtain ⟨A', c', e1, e2⟩ := own_exs hO'
      have hA : A' = A := (Value.slice.inj e1).1.symm
      rw [hA] at e2
      have HROW := Lib.hid e2
      have HDL := Lib.hid hDl
      have HU : Hid (∀ g L, Says s g L → g = (gn : Nat) ∧ L = D) := Lib.hid fun g L h => by
        have := rds_good h hk HST.out HGO.out
        rw [hD, HGN.out]; exact ⟨this.1, this.2.symm⟩
      have HNO := Lib.hid (fun cap (h : ¬ Recd (gn : Nat) D) => rWrite_no (gn : Nat) D k cap hDl.symm A wr e2 h)
      have HOK := Lib.hid (fun cap (h : Recd (gn : Nat) D) => rWrite_ok (gn : Nat) D k cap hDl.symm A wr e2 h)
      have HEQD := Lib.hid (HEQ.out (gn : Nat) D)
      clear hD hDl hO hO' e1 e2 hA hbel hlt
      by_cases hv : Recd (gn : Nat) D
      · have HC := Lib.hid (HOK.out cc hv)
        have HV := Lib.hid hv
        obtain ⟨TS, hTS⟩ : ∃ T, T = str (recB (gn : Nat) D) := ⟨_, rfl⟩
        rw [← hTS] at HC HEQD
        clear hv hTS HOK HNO
        by_cases hq : recB (gn : Nat) D = s
        · have heq := HEQD.out
          rw [decide_eq_true hq] at heq
          have HQ := Lib.hid hq
          clear hq
          go_wp2_with fail
          refine HC.out.mono ?_
          rintro e w2 ⟨rfl, hb2⟩
          have HB2 := Lib.hid (bkept HBL.out hb2)
          have HR2 := Lib.hid (HROW.out.below hb2)
          clear hb2
          go_wp2
          go_ret3
          exact .inl ⟨_, D, A, _, _, ⟨HV.out, HQ.out⟩, rfl, HDL.out.symm, own_cap HOW.out, HR2.out, HB2.out⟩
        · have heq := HEQD.out
          rw [decide_eq_false hq] at heq
          have HQ := Lib.hid hq
          clear hq
          go_wp2_with fail
          refine HC.out.mono ?_
          rintro e w2 ⟨rfl, hb2⟩
          have HB2 := Lib.hid (bkept HBL.out hb2)
          clear hb2
          go_wp2
          go_ret3
          exact .inr ⟨fun g L h => HQ.out (by obtain ⟨rfl, rfl⟩ := HU.out g L h; exact h.2), rfl, HB2.out⟩
      · have HC := Lib.hid (HNO.out cc hv)
        have HV := Lib.hid hv
        clear hv HOK HNO
        go_wp2_with fail
        refine HC.out.mono ?_
        rintro e w2 ⟨rfl, hb2⟩
        have HB2 := Lib.hid (bkept HBL.out hb2)
        clear hb2
        go_wp2
        go_ret3
        exact .inr ⟨fun g L h => HV.out (by obtain ⟨rfl, rfl⟩ := HU.out g L h; exact h.1), rfl, HB2.out⟩
end RT
end Go.Proofs.Ytdjlflinepefbaa
