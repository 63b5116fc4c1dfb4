/- The law TopPages holds: its Go text answers true for every input, and leaves its arguments as they were. No condition beyond the statement's own (errors.errorType holds what start-up lays; the card ties it to the program's text). -/
import Derived.Test.YtolcacmkageidacDoorRows
import Derived.Test.YtolcacmkageidacDoorCards
import Derived.Test.YtolcacmkageidacDoorTie
import Derived.Test.YtolcacmkageidacDoorPgsRow
import Derived.Test.YtolcacmkageidacDoorOpenPs
import Derived.Outline
import Derived.ProofKit
import Derived.OpenShut
import Derived.ShutString
import Derived.ChangeOld
import Derived.ChangeSame
import Derived.ChangeVars
import Derived.Below
import Derived.SizedLaws
import Derived.JoinedOf
import Derived.RowKitTokens
import Derived.LaidLaws
import Derived.LaidHandle
import Derived.LaidMore
import Derived.Stop.Joined
import Derived.SevenTiedAt
namespace Go.Proofs.YtolcacmkageidacDoor.topPages
open Go.ChangeShapes Go.WideShapes Go.ChangeAt Go.RowKit
open Go.ChangeMaps (open_string shut_string)
open Go.Proofs.YtolcacmkageidacDoor
set_option linter.unusedVariables false
set_option linter.unusedSimpArgs false

theorem own : ownKnob Tryd.prog.godebug = none := by kernel_rfl
theorem laidOut : laidOutB Tryd.prog = true := by kernel_rfl
theorem et : Tryd.prog.globalNamed "errors.errorType" = some 0 := by kernel_rfl
theorem rt : (Tryd.prog.cutTypes.find? (·.1 == "internal/reflectlite.rtype")).map (·.2) = some 124 := by kernel_rfl
theorem oneRow : ((List.range 174).filter fun t => Tryd.prog.rowNamed t [101, 114, 114, 111, 114]) = [32] := by kernel_rfl
theorem tsize : Tryd.prog.types.size = 174 := by kernel_rfl
/-- What the condition gives the walk. -/
theorem handle_of_laid {W : World} (h : laidMetH Tryd.prog [("errors.errorType", Rows.laid_errors_errorType)] W) : ER.ErrorType W := by
  have h' : laidMet Tryd.prog [] W ∧ handlesMet Tryd.prog [("errors.errorType", Rows.laid_errors_errorType)] W := h
  obtain ⟨name, u, ty, e1, e2, e3, e4, e5⟩ := h'.2 _ (List.mem_singleton.2 rfl)
  have en : name = [101, 114, 114, 111, 114] := (Option.some.inj e1).symm
  subst en
  obtain rfl := Option.some.inj (rt.symm.trans e2)
  have hm : ty ∈ (List.range 174).filter fun t => Tryd.prog.rowNamed t [101, 114, 114, 111, 114] := List.mem_filter.2 ⟨List.mem_range.2 (by rw [← tsize]; exact e3), e4⟩
  rw [oneRow] at hm
  obtain rfl := List.mem_singleton.1 hm
  have hh : typeHandle Tryd.prog 32 = .pointer (some ⟨1, 32, none⟩) := by kernel_rfl
  rw [hh] at e5
  have := World.var?_cell et e5 0
  unfold ER.ErrorType
  simpa using this
/-- A world that meets the condition: the settled one, the variable's cell laid. -/
noncomputable def laidWorld (os : Os) : World :=
  let w0 := World.holding Tryd.prog os ⟨#[], #[], []⟩
  { w0 with heap := w0.heap.modify 0 fun
      | .cells _ t frozen => .cells #[.iface 124 (.agg #[.pointer (some ⟨1, 32, none⟩)])] t frozen
      | o => o }
theorem laidWorld_met (os : Os) (args : Array Value) : laidMetH Tryd.prog [("errors.errorType", Rows.laid_errors_errorType)] ((laidWorld os).forCall (fun _ _ => 0) ⟨#[], args, []⟩).memory :=
  laidMetH_of_parts (laidMet_nil _ _) (by kernel_rfl)

open ER MM ND PG TP OP

set_option maxRecDepth 100000 in
set_option maxHeartbeats 8000000 in
theorem walk (a0 : Option Addr) (len0 cap0 : Nat) (Q0 : Nat → PG.Pg) (a1 : Int) (w : World) (l0 : len0 ≤ maxLen) (w0 : OP.Pgs w a0 len0 Q0) (w1 : (Lit.int .i64 a1).wf = true) (hg : ER.ErrorType w) :
    Calls Tryd.prog 4 #[.slice a0 len0 cap0, .int .i64 a1] w fun e w' => e = .returned (.bool true) ∧ Below w.heap.size w w' := by
  obtain ⟨B, hB, hB16⟩ := block_of a1
  obtain ⟨i0, hi, hz0, hz1, hz2⟩ := info_parts info_page
  have hl0 := l0
  unfold maxLen at hl0
  have HG := Lib.hid hg
  have HIN := Lib.hid w0
  have e8 := mul8 B hB16
  clear w0 hg
  go_enter Tryd.func4, Tryd.ntmps4
  go_wp2_with fail
  refine (TP.plain_any _).mono ?_
  rintro e w3 ⟨rfl, hb3⟩
  go_wp2_with fail
  refine (st_new 16 8 (by omega) w hb3).mono ?_
  rintro e w4 ⟨g, rfl, h4, k4⟩
  have H4 := Lib.hid h4
  clear h4 k4 hb3
  go_wp2_with fail
  refine (fine_any _).mono ?_
  rintro e w5 ⟨rfl, hb5⟩
  have H5 := Lib.hid (H4.out.below hb5)
  clear hb5 H4
  go_wp2
  clear hB
  go_loopw [7, 8] (fun kv iv wr => ∃ (i : Nat) (Ks : List Pg) (D : Nd), i ≤ len0 ∧ iv = .int .i64 i ∧ Ks.length ≤ 7 ∧ OwnP w wr kv Ks ∧ Hid (St w wr g D) ∧ Hid (Lk D B (Ks.map byt)) ∧ Hid (∀ p ∈ Ks, May p)) (fun _ iv _ => len0 - (intOf iv).toNat)
  case atStart => exact ⟨0, [], _, Nat.zero_le _, rfl, by simp, World.ownsRow_nil _ _ _ _, H5, Lib.hid (lk_fresh B), Lib.hid (fun p hp => by simp at hp)⟩
  case round =>
    obtain ⟨i, Ks, D, hi', rfl, hK7, hown, hst, hlk, hmay⟩ := hrel
    obtain ⟨A, c, hkv⟩ := own_slice hown
    obtain ⟨n, hn⟩ : ∃ n, n = Ks.length := ⟨_, rfl⟩
    rw [← hn] at hkv hK7
    subst hkv
    have HO := Lib.hid hown
    have HN := Lib.hid hn
    clear hown hn
    by_cases hlt : i < len0
    · by_cases h7 : n < 7
      · have t1 : (i : Int) < (len0 : Int) := by omega
        have t2 : (n : Int) < 7 := by omega
        rcases HIN.out with h0 | ⟨bl, off, rfl, hbl, hcs⟩
        · omega
        · have hc5 := (hcs i hlt).kept hst.out.bel hbl
          obtain ⟨q0, q1, q2, q3, q4⟩ := hc5
          have p0 : (0 : Int) ≤ (i : Int) := by omega
          have hcs0 := Lib.hid hcs
          clear hcs
          by_cases hm : May (Q0 i)
          · have HWR := Lib.hid (write_yes _ hm)
            have hsz := bytes_size hm
            obtain ⟨S, hS⟩ : ∃ S, S = byt (Q0 i) := ⟨_, rfl⟩
            have HWR' : Hid (∀ w, Calls Tryd.prog 5 #[.agg #[.int .i64 (Q0 i).kind, .int .i64 (Q0 i).space, .int .i64 (Q0 i).key, .int .i64 (Q0 i).seq, .string (Q0 i).body]] w fun e w' => e = .returned (.tuple #[.string S, .int .i64 0]) ∧ Below w.heap.size w w') := by rw [hS]; exact HWR
            have hsz' : S.size ≤ 128 := by rw [hS]; exact hsz
            have HM := Lib.hid hm
            have HS := Lib.hid hS
            clear HWR hsz hm hS
            go_wp2_with fail
            refine (HWR'.out _).mono ?_
            rintro e w6 ⟨rfl, hb6⟩
            have hst6 := hst.out.below hb6
            have hown6 := HO.out.errs (Errs.below hb6)
            have hc6 := Cells5.kept (p := Q0 i) ⟨q0, q1, q2, q3, q4⟩ hb6 (Nat.lt_of_lt_of_le hbl hst.out.bel.size)
            have e9 := add8 B n hB16 (by omega)
            obtain ⟨D', hD', hlk'⟩ := hlk.out.put_ hB16 (by rw [List.length_map, ← HN.out]; omega) S hsz'
            rw [List.length_map, ← HN.out] at hD'
            have hops : D.ops ≤ 4611686018427387904 := by rw [hlk.out.ops, List.length_map, ← HN.out]; omega
            have hwf : (Lit.int .i64 ((8 * B + n : Nat) : Int)).wf = true := WalkArith.wf_i64 (by omega)
            have HST6 := Lib.hid hst6
            have HOWN6 := Lib.hid hown6
            have HD' := Lib.hid hD'
            have HLK' := Lib.hid hlk'
            have HOPS := Lib.hid hops
            have HWF := Lib.hid hwf
            have HC6 := Lib.hid hc6
            clear hst6 hown6 hc6 hD' hlk' hops hwf hb6 q0 q1 q2 q3 q4
            go_wp2_with fail
            refine (st_program HST6.out HOPS.out _ HWF.out S).mono ?_
            rintro e w7 ⟨v7, rfl, he7, h7', k7⟩
            rw [HD'.out] at he7 h7'
            obtain rfl := he7.none rfl
            have hown7 := HOWN6.out.errs k7
            have hown7' : w7.ownsRow w.heap.size 23 5 (.slice A n c) n (pgCells Ks) := by
              have h := hown7
              unfold OwnP at h
              rw [← HN.out] at h
              exact h
            obtain ⟨q0, q1, q2, q3, q4⟩ := (hcs0.out i hlt).kept h7'.bel hbl
            have hbel7 := h7'.bel
            have HO7 := Lib.hid hown7'
            have HOP7 := Lib.hid hown7
            have HST7 := Lib.hid h7'
            have HBEL7 := Lib.hid hbel7
            clear hown7 hown7' h7' he7 k7 hbel7 HC6 HOWN6 HST6
            go_wp2_with (at_builtin; refine wpList_append_own _ rfl _ _ 47 rfl w.heap.size 23 i0 (.agg #[.int .i64 0, .int .i64 0, .int .i64 0, .int .i64 0, .string ⟨#[]⟩]) 5 48 Tryd.underlying47 hi hz0 hz1 hz2 rfl (by decide) _ _ _ rfl (HO7.out.alloc _) ⟨w7.heap.size, 0, none⟩ 1 1 [.int .i64 (Q0 i).kind, .int .i64 (Q0 i).space, .int .i64 (Q0 i).key, .int .i64 (Q0 i).seq, .string (Q0 i).body] rfl rfl ?c1 ?c2 ?c3 ?c4 ?c5 ?_)
            case c1 => exact new_cells _ _ _
            case c2 => intro u hu; simp at hu; rcases hu with rfl | rfl | rfl | rfl | rfl <;> rfl
            case c3 => unfold maxLen; omega
            case c4 => omega
            case c5 => simp; have := HBEL7.out.size; omega
            intro v' w8 hown8 hgrow _
            have hst8a : St w (w7.alloc (.cells #[.int .i64 (Q0 i).kind, .int .i64 (Q0 i).space, .int .i64 (Q0 i).key, .int .i64 (Q0 i).seq, .string (Q0 i).body] 23)) g D' := HST7.out.below (below_box w7 _)
            have hop8a : OwnP w (w7.alloc (.cells #[.int .i64 (Q0 i).kind, .int .i64 (Q0 i).space, .int .i64 (Q0 i).key, .int .i64 (Q0 i).seq, .string (Q0 i).body] 23)) (.slice A n c) Ks := HOP7.out.errs (Errs.below (below_box w7 _))
            have HST8 := Lib.hid (St.row hst8a hop8a hgrow)
            have HOP8 : Hid (OwnP w w8 v' (Ks ++ [Q0 i])) := by
              show World.ownsRow _ _ _ _ _ _ _
              rw [← pgCells_snoc, List.length_append, ← HN.out]
              exact hown8
            have HLK8 : Hid (Lk D' B ((Ks ++ [Q0 i]).map byt)) := by
              show Lk _ _ _
              rw [List.map_append, List.map_cons, List.map_nil, ← HS.out]
              exact HLK'.out
            have HMAY8 : Hid (∀ p ∈ Ks ++ [Q0 i], May p) := by
              show ∀ p ∈ Ks ++ [Q0 i], May p
              intro p hp
              rcases List.mem_append.1 hp with hp | hp
              · exact hmay.out p hp
              · rw [List.mem_singleton.1 hp]; exact HM.out
            have HLEN8 : Hid ((Ks ++ [Q0 i]).length ≤ 7) := by show _ ≤ _; rw [List.length_append, ← HN.out]; simp; omega
            clear hown8 hgrow hst8a hop8a q0 q1 q2 q3 q4
            go_wp2
            go_roundw
            case rel => exact ⟨i + 1, Ks ++ [Q0 i], D', by omega, by go_num, HLEN8.out, HOP8.out, HST8, HLK8, HMAY8⟩
            case measure => simp [intOf]; omega
          · have HWR := Lib.hid (write_no _ hm)
            clear hm
            go_wp2_with fail
            refine (HWR.out _).mono ?_
            rintro e w6 ⟨rfl, hb6⟩
            have HST6 := Lib.hid (hst.out.below hb6)
            have HOWN6 := Lib.hid (HO.out.errs (Errs.below hb6))
            clear hb6 q0 q1 q2 q3 q4
            go_wp2
            go_roundw
            case rel => exact ⟨i + 1, Ks, D, by omega, by go_num, by rw [← HN.out]; exact hK7, HOWN6.out, HST6, hlk, hmay⟩
            case measure => simp [intOf]; omega
      · have t1 : (i : Int) < (len0 : Int) := by omega
        have t2 : ¬ (n : Int) < 7 := by omega
        have hn8 : Ks.length ≤ 7 := by rw [← HN.out]; exact hK7
        obtain ⟨o, ho⟩ : ∃ o, o = (B + 1) % 16 := ⟨_, rfl⟩
        have ho16 : o < 16 := by omega
        have hoB : o ≠ B := by omega
        obtain ⟨D2, D3, f1, f2, f3, hlm⟩ := hlk.out.fails hB16 (by rw [List.length_map]; omega) o ho16 hoB ⟨#[120]⟩ (by decide)
        rw [List.length_map, ← HN.out] at f1
        have e9 := add8 B n hB16 (by omega)
        have e11 : IntKind.i64.wrap ((B : Int) + 1) = (B : Int) + 1 := addB B 1 hB16 (by decide)
        have e12 : ((B : Int) + 1) % 16 = (o : Int) := by clear e9 e8 e11; omega
        have hops : D.ops ≤ 100 := by rw [hlk.out.ops, List.length_map]; omega
        have hwf : (Lit.int .i64 ((8 * B + n : Nat) : Int)).wf = true := WalkArith.wf_i64 (by omega)
        have hwf2 : (Lit.int .i64 (o : Int)).wf = true := WalkArith.wf_i64 (by omega)
        have F1 := Lib.hid f1
        have F2 := Lib.hid f2
        have F3 := Lib.hid f3
        have HLM := Lib.hid hlm
        have HOPS := Lib.hid hops
        have HWF := Lib.hid hwf
        have HWF2 := Lib.hid hwf2
        have HO16 := Lib.hid ho16
        have HOB := Lib.hid hoB
        have HOE := Lib.hid ho
        clear f1 f2 f3 hlm hops hwf hwf2 ho16 hoB ho
        go_wp2_with fail
        refine (st_plan_new hst.out pl2 _ rfl 2 2 rfl (by decide) (by
          intro m hm
          rcases List.mem_cons.1 hm with rfl | hm
          · exact ⟨rfl, rfl, rfl, by decide⟩
          · obtain rfl := List.mem_singleton.1 hm
            exact ⟨rfl, rfl, rfl, by decide⟩) _ rfl).mono ?_
        rintro e w6 ⟨rfl, h6, k6⟩
        have H6 := Lib.hid h6
        have O6 := Lib.hid (HO.out.errs k6)
        clear h6 k6
        go_wp2_with fail
        refine (st_program H6.out (by show D.ops ≤ _; have := HOPS.out; omega) _ HWF.out ⟨#[120]⟩).mono ?_
        rintro e w7 ⟨v7, rfl, he7, h7', k7⟩
        rw [F1.out] at he7 h7'
        have H7 := Lib.hid h7'
        have E7 := Lib.hid he7
        have O7 := Lib.hid (O6.out.errs k7)
        clear h7' k7 he7
        go_wp2_with fail
        refine (st_code H7.out HG.out E7.out).mono ?_
        rintro e w8 ⟨rfl, h8, k8⟩
        have H8 := Lib.hid h8
        have O8 := Lib.hid (O7.out.errs k8)
        clear h8 k8 E7
        go_wp2_with fail
        refine (st_erase H8.out (by have := F3.out; omega) _ HWF2.out).mono ?_
        rintro e w9 ⟨v9, rfl, he9, h9, k9⟩
        rw [F2.out] at he9 h9
        have H9 := Lib.hid h9
        have E9 := Lib.hid he9
        have O9 := Lib.hid (O8.out.errs k9)
        clear h9 k9 he9
        go_wp2_with fail
        refine (st_code H9.out HG.out E9.out).mono ?_
        rintro e w10 ⟨rfl, h10, k10⟩
        have H10 := Lib.hid h10
        have O10 := Lib.hid (O9.out.errs k10)
        clear h10 k10 E9 e9 e11 e12
        go_wp2
        go_loopw [12] (fun jv wr => ∃ j : Nat, j ≤ n ∧ jv = .int .i64 j ∧ Hid (St w wr g D3) ∧ Hid (OwnP w wr (.slice A n c) Ks)) (fun jv _ => n - (intOf jv).toNat)
        case atStart => exact ⟨0, Nat.zero_le _, rfl, H10, O10⟩
        case round =>
          obtain ⟨j, hjn, rfl, hst2, hown2⟩ := hrel
          by_cases hlt2 : j < n
          · obtain ⟨p, hp⟩ : ∃ p, Ks[j]? = some p := ⟨_, List.getElem?_eq_getElem (by rw [← HN.out]; exact hlt2)⟩
            have hpm : May p := hmay.out p (List.mem_of_getElem? hp)
            have hrd := HLM.out.read_ hB16 (by rw [List.length_map]; omega) j (byt p) (by rw [List.getElem?_map, hp]; rfl)
            have hRP := read_any (ans_bytes hpm) (by have := bytes_size hpm; omega)
            have e9 := add8 B j hB16 (by omega)
            have hwf : (Lit.int .i64 ((8 * B + j : Nat) : Int)).wf = true := WalkArith.wf_i64 (by omega)
            have t3 : (j : Int) < (n : Int) := by omega
            have t4 : (0 : Int) ≤ (j : Int) := by omega
            obtain ⟨q0, q1, q2, q3, q4⟩ := p
            obtain ⟨S, hS⟩ : ∃ S, S = byt ⟨q0, q1, q2, q3, q4⟩ := ⟨_, rfl⟩
            rw [← hS] at hrd
            have HRP : Hid (∀ w, Calls Tryd.prog 14 #[.string S] w fun e w' => e = .returned (.tuple #[.agg #[.int .i64 q0, .int .i64 q1, .int .i64 q2, .int .i64 q3, .string q4], .int .i64 0]) ∧ Below w.heap.size w w') := by rw [hS]; exact hRP
            have HRD := Lib.hid hrd
            have HP := Lib.hid hp
            have HWF3 := Lib.hid hwf
            clear hrd hp hwf hS hRP hpm
            go_wp2_with fail
            refine (st_read hst2.out _ HWF3.out).mono ?_
            rintro e w11 ⟨v11, rfl, he11, h11, k11⟩
            rw [HRD.out] at he11
            obtain rfl := he11.none rfl
            rw [HRD.out]
            have H11 := Lib.hid h11
            have O11 := Lib.hid (hown2.out.errs k11)
            clear h11 k11 he11
            go_wp2_with fail
            refine (HRP.out _).mono ?_
            rintro e w12 ⟨rfl, hb12⟩
            have hbn : Below w11.heap.size w11 (w12.alloc (.cells #[.int .i64 q0, .int .i64 q1, .int .i64 q2, .int .i64 q3, .string q4] 23)) := hb12.alloc hb12.size _
            have H12 := Lib.hid (H11.out.below hbn)
            have O12 := Lib.hid (O11.out.errs (Errs.below hbn))
            obtain ⟨gk, ck, hv, m0, m1, m2, m3, m4⟩ := O12.out.get j _ HP.out
            obtain ⟨⟨r0, r1, r2, r3, r4⟩, _⟩ := cells5 (Blk.new w12 23 #[.int .i64 q0, .int .i64 q1, .int .i64 q2, .int .i64 q3, .string q4])
            injection hv with hA hn9 hc9
            subst hA
            clear hb12 hbn hn9 hc9 e9
            go_wp2_with fail
            go_quiet (fail)
            go_wp2
            go_roundw
            case rel => exact ⟨j + 1, by omega, by go_num, Lib.hid (H12.out.below (MM.drewN_below (Below.refl _ _) _)), Lib.hid (O12.out.errs (Errs.below (MM.drewN_below (Below.refl _ _) _)))⟩
            case measure => simp [intOf]; omega
          · obtain rfl : j = n := by omega
            have t5 : ¬ (j : Int) < (j : Int) := by omega
            obtain ⟨z, hz⟩ : ∃ z, z = (B + 2) % 16 := ⟨_, rfl⟩
            have hz16 : z < 16 := by omega
            have hzB : z ≠ B := by omega
            have hzo : z ≠ o := by have := HOE.out; omega
            have hWR := write_yes rootP root_may
            obtain ⟨D4, D5, g1, g2, g3, g4, g5, g6, g7⟩ := HLM.out.third z hz16 hzB hzo hB16 HO16.out (byt rootP) (bytes_size root_may)
            obtain ⟨S, hS⟩ : ∃ S, S = byt rootP := ⟨_, rfl⟩
            rw [← hS] at g1
            have HWR : Hid (∀ w, Calls Tryd.prog 5 #[.agg #[.int .i64 4, .int .i64 0, .int .i64 0, .int .i64 0, .string ⟨#[]⟩]] w fun e w' => e = .returned (.tuple #[.string S, .int .i64 0]) ∧ Below w.heap.size w w') := by rw [hS]; exact hWR
            have e13 : IntKind.i64.wrap ((B : Int) + 2) = (B : Int) + 2 := addB B 2 hB16 (by decide)
            have e14 : ((B : Int) + 2) % 16 = (z : Int) := by clear e13 e8; omega
            have e15 := mul8 z hz16
            have hw1 : (Lit.int .i64 ((8 * z : Nat) : Int)).wf = true := WalkArith.wf_i64 (by omega)
            have hw2 : (Lit.int .i64 (z : Int)).wf = true := WalkArith.wf_i64 (by omega)
            have hops3 : D3.ops ≤ 4611686018427387904 := by have := HLM.out.ops; omega
            have G1 := Lib.hid g1
            have G2 := Lib.hid g2
            have G3 := Lib.hid g3
            have G4 := Lib.hid g4
            have G5 := Lib.hid g5
            have G6 := Lib.hid g6
            have G7 := Lib.hid g7
            have HW1 := Lib.hid hw1
            have HW2 := Lib.hid hw2
            have HOP3 := Lib.hid hops3
            clear hz hz16 hzB hzo hWR g1 g2 g3 g4 g5 g6 g7 hS hw1 hw2 hops3
            go_wp2_with fail
            refine (HWR.out _).mono ?_
            rintro e w11 ⟨rfl, hb11⟩
            have H11 := Lib.hid (hst2.out.below hb11)
            clear hb11
            go_wp2_with fail
            refine (st_program H11.out HOP3.out _ HW1.out S).mono ?_
            rintro e w12 ⟨v12, rfl, he12, h12, _⟩
            rw [G1.out] at he12 h12
            obtain rfl := he12.none rfl
            have H12 := Lib.hid h12
            clear h12 he12
            go_wp2_with fail
            refine (st_erase H12.out (by have := G2.out; omega) _ HW2.out).mono ?_
            rintro e w13 ⟨v13, rfl, he13, h13, _⟩
            rw [G3.out] at he13 h13
            obtain rfl := he13.none rfl
            have H13 := Lib.hid h13
            clear h13 he13
            go_wp2_with fail
            refine (st_read H13.out _ HW1.out).mono ?_
            rintro e w14 ⟨v14, rfl, he14, h14, _⟩
            rw [G4.out] at he14
            obtain ⟨R, hR⟩ : ∃ R, R = (D5.read ((8 * z : Nat) : Int)).1 := ⟨_, rfl⟩
            rw [← hR]
            have H14 := Lib.hid h14
            have E14 := Lib.hid he14
            clear h14 he14 hR
            go_wp2_with fail
            refine (st_code H14.out HG.out E14.out).mono ?_
            rintro e w15 ⟨rfl, h15, _⟩
            have H15 := Lib.hid h15
            clear h15 E14
            go_wp2_with fail
            refine (st_bad H15.out (B : Int)).mono ?_
            rintro e w16 ⟨rfl, rfl⟩
            rw [G5.out]
            go_wp2_with fail
            refine (st_bad H15.out (o : Int)).mono ?_
            rintro e w16 ⟨rfl, rfl⟩
            rw [G6.out]
            go_wp2_with fail
            refine (st_bad H15.out (z : Int)).mono ?_
            rintro e w16 ⟨rfl, rfl⟩
            rw [G7.out]
            go_wp2
            go_ret
            exact ⟨rfl, H15.out.bel⟩
    · have t1 : ¬ (i : Int) < (len0 : Int) := by omega
      have hn8 : Ks.length ≤ 7 := by rw [← HN.out]; exact hK7
      obtain ⟨o, ho⟩ : ∃ o, o = (B + 1) % 16 := ⟨_, rfl⟩
      have ho16 : o < 16 := by omega
      have hoB : o ≠ B := by omega
      obtain ⟨D2, D3, f1, f2, f3, hlm⟩ := hlk.out.fails hB16 (by rw [List.length_map]; omega) o ho16 hoB ⟨#[120]⟩ (by decide)
      rw [List.length_map, ← HN.out] at f1
      have e9 := add8 B n hB16 (by omega)
      have e11 : IntKind.i64.wrap ((B : Int) + 1) = (B : Int) + 1 := addB B 1 hB16 (by decide)
      have e12 : ((B : Int) + 1) % 16 = (o : Int) := by clear e9 e8 e11; omega
      have hops : D.ops ≤ 100 := by rw [hlk.out.ops, List.length_map]; omega
      have hwf : (Lit.int .i64 ((8 * B + n : Nat) : Int)).wf = true := WalkArith.wf_i64 (by omega)
      have hwf2 : (Lit.int .i64 (o : Int)).wf = true := WalkArith.wf_i64 (by omega)
      have F1 := Lib.hid f1
      have F2 := Lib.hid f2
      have F3 := Lib.hid f3
      have HLM := Lib.hid hlm
      have HOPS := Lib.hid hops
      have HWF := Lib.hid hwf
      have HWF2 := Lib.hid hwf2
      have HO16 := Lib.hid ho16
      have HOB := Lib.hid hoB
      have HOE := Lib.hid ho
      clear f1 f2 f3 hlm hops hwf hwf2 ho16 hoB ho
      go_wp2_with fail
      refine (st_plan_new hst.out pl2 _ rfl 2 2 rfl (by decide) (by
        intro m hm
        rcases List.mem_cons.1 hm with rfl | hm
        · exact ⟨rfl, rfl, rfl, by decide⟩
        · obtain rfl := List.mem_singleton.1 hm
          exact ⟨rfl, rfl, rfl, by decide⟩) _ rfl).mono ?_
      rintro e w6 ⟨rfl, h6, k6⟩
      have H6 := Lib.hid h6
      have O6 := Lib.hid (HO.out.errs k6)
      clear h6 k6
      go_wp2_with fail
      refine (st_program H6.out (by show D.ops ≤ _; have := HOPS.out; omega) _ HWF.out ⟨#[120]⟩).mono ?_
      rintro e w7 ⟨v7, rfl, he7, h7', k7⟩
      rw [F1.out] at he7 h7'
      have H7 := Lib.hid h7'
      have E7 := Lib.hid he7
      have O7 := Lib.hid (O6.out.errs k7)
      clear h7' k7 he7
      go_wp2_with fail
      refine (st_code H7.out HG.out E7.out).mono ?_
      rintro e w8 ⟨rfl, h8, k8⟩
      have H8 := Lib.hid h8
      have O8 := Lib.hid (O7.out.errs k8)
      clear h8 k8 E7
      go_wp2_with fail
      refine (st_erase H8.out (by have := F3.out; omega) _ HWF2.out).mono ?_
      rintro e w9 ⟨v9, rfl, he9, h9, k9⟩
      rw [F2.out] at he9 h9
      have H9 := Lib.hid h9
      have E9 := Lib.hid he9
      have O9 := Lib.hid (O8.out.errs k9)
      clear h9 k9 he9
      go_wp2_with fail
      refine (st_code H9.out HG.out E9.out).mono ?_
      rintro e w10 ⟨rfl, h10, k10⟩
      have H10 := Lib.hid h10
      have O10 := Lib.hid (O9.out.errs k10)
      clear h10 k10 E9 e9 e11 e12
      go_wp2
      go_loopw [12] (fun jv wr => ∃ j : Nat, j ≤ n ∧ jv = .int .i64 j ∧ Hid (St w wr g D3) ∧ Hid (OwnP w wr (.slice A n c) Ks)) (fun jv _ => n - (intOf jv).toNat)
      case atStart => exact ⟨0, Nat.zero_le _, rfl, H10, O10⟩
      case round =>
        obtain ⟨j, hjn, rfl, hst2, hown2⟩ := hrel
        by_cases hlt2 : j < n
        · obtain ⟨p, hp⟩ : ∃ p, Ks[j]? = some p := ⟨_, List.getElem?_eq_getElem (by rw [← HN.out]; exact hlt2)⟩
          have hpm : May p := hmay.out p (List.mem_of_getElem? hp)
          have hrd := HLM.out.read_ hB16 (by rw [List.length_map]; omega) j (byt p) (by rw [List.getElem?_map, hp]; rfl)
          have hRP := read_any (ans_bytes hpm) (by have := bytes_size hpm; omega)
          have e9 := add8 B j hB16 (by omega)
          have hwf : (Lit.int .i64 ((8 * B + j : Nat) : Int)).wf = true := WalkArith.wf_i64 (by omega)
          have t3 : (j : Int) < (n : Int) := by omega
          have t4 : (0 : Int) ≤ (j : Int) := by omega
          obtain ⟨q0, q1, q2, q3, q4⟩ := p
          obtain ⟨S, hS⟩ : ∃ S, S = byt ⟨q0, q1, q2, q3, q4⟩ := ⟨_, rfl⟩
          rw [← hS] at hrd
          have HRP : Hid (∀ w, Calls Tryd.prog 14 #[.string S] w fun e w' => e = .returned (.tuple #[.agg #[.int .i64 q0, .int .i64 q1, .int .i64 q2, .int .i64 q3, .string q4], .int .i64 0]) ∧ Below w.heap.size w w') := by rw [hS]; exact hRP
          have HRD := Lib.hid hrd
          have HP := Lib.hid hp
          have HWF3 := Lib.hid hwf
          clear hrd hp hwf hS hRP hpm
          go_wp2_with fail
          refine (st_read hst2.out _ HWF3.out).mono ?_
          rintro e w11 ⟨v11, rfl, he11, h11, k11⟩
          rw [HRD.out] at he11
          obtain rfl := he11.none rfl
          rw [HRD.out]
          have H11 := Lib.hid h11
          have O11 := Lib.hid (hown2.out.errs k11)
          clear h11 k11 he11
          go_wp2_with fail
          refine (HRP.out _).mono ?_
          rintro e w12 ⟨rfl, hb12⟩
          have hbn : Below w11.heap.size w11 (w12.alloc (.cells #[.int .i64 q0, .int .i64 q1, .int .i64 q2, .int .i64 q3, .string q4] 23)) := hb12.alloc hb12.size _
          have H12 := Lib.hid (H11.out.below hbn)
          have O12 := Lib.hid (O11.out.errs (Errs.below hbn))
          obtain ⟨gk, ck, hv, m0, m1, m2, m3, m4⟩ := O12.out.get j _ HP.out
          obtain ⟨⟨r0, r1, r2, r3, r4⟩, _⟩ := cells5 (Blk.new w12 23 #[.int .i64 q0, .int .i64 q1, .int .i64 q2, .int .i64 q3, .string q4])
          injection hv with hA hn9 hc9
          subst hA
          clear hb12 hbn hn9 hc9 e9
          go_wp2_with fail
          go_quiet (fail)
          go_wp2
          go_roundw
          case rel => exact ⟨j + 1, by omega, by go_num, Lib.hid (H12.out.below (MM.drewN_below (Below.refl _ _) _)), Lib.hid (O12.out.errs (Errs.below (MM.drewN_below (Below.refl _ _) _)))⟩
          case measure => simp [intOf]; omega
        · obtain rfl : j = n := by omega
          have t5 : ¬ (j : Int) < (j : Int) := by omega
          obtain ⟨z, hz⟩ : ∃ z, z = (B + 2) % 16 := ⟨_, rfl⟩
          have hz16 : z < 16 := by omega
          have hzB : z ≠ B := by omega
          have hzo : z ≠ o := by have := HOE.out; omega
          have hWR := write_yes rootP root_may
          obtain ⟨D4, D5, g1, g2, g3, g4, g5, g6, g7⟩ := HLM.out.third z hz16 hzB hzo hB16 HO16.out (byt rootP) (bytes_size root_may)
          obtain ⟨S, hS⟩ : ∃ S, S = byt rootP := ⟨_, rfl⟩
          rw [← hS] at g1
          have HWR : Hid (∀ w, Calls Tryd.prog 5 #[.agg #[.int .i64 4, .int .i64 0, .int .i64 0, .int .i64 0, .string ⟨#[]⟩]] w fun e w' => e = .returned (.tuple #[.string S, .int .i64 0]) ∧ Below w.heap.size w w') := by rw [hS]; exact hWR
          have e13 : IntKind.i64.wrap ((B : Int) + 2) = (B : Int) + 2 := addB B 2 hB16 (by decide)
          have e14 : ((B : Int) + 2) % 16 = (z : Int) := by clear e13 e8; omega
          have e15 := mul8 z hz16
          have hw1 : (Lit.int .i64 ((8 * z : Nat) : Int)).wf = true := WalkArith.wf_i64 (by omega)
          have hw2 : (Lit.int .i64 (z : Int)).wf = true := WalkArith.wf_i64 (by omega)
          have hops3 : D3.ops ≤ 4611686018427387904 := by have := HLM.out.ops; omega
          have G1 := Lib.hid g1
          have G2 := Lib.hid g2
          have G3 := Lib.hid g3
          have G4 := Lib.hid g4
          have G5 := Lib.hid g5
          have G6 := Lib.hid g6
          have G7 := Lib.hid g7
          have HW1 := Lib.hid hw1
          have HW2 := Lib.hid hw2
          have HOP3 := Lib.hid hops3
          clear hz hz16 hzB hzo hWR g1 g2 g3 g4 g5 g6 g7 hS hw1 hw2 hops3
          go_wp2_with fail
          refine (HWR.out _).mono ?_
          rintro e w11 ⟨rfl, hb11⟩
          have H11 := Lib.hid (hst2.out.below hb11)
          clear hb11
          go_wp2_with fail
          refine (st_program H11.out HOP3.out _ HW1.out S).mono ?_
          rintro e w12 ⟨v12, rfl, he12, h12, _⟩
          rw [G1.out] at he12 h12
          obtain rfl := he12.none rfl
          have H12 := Lib.hid h12
          clear h12 he12
          go_wp2_with fail
          refine (st_erase H12.out (by have := G2.out; omega) _ HW2.out).mono ?_
          rintro e w13 ⟨v13, rfl, he13, h13, _⟩
          rw [G3.out] at he13 h13
          obtain rfl := he13.none rfl
          have H13 := Lib.hid h13
          clear h13 he13
          go_wp2_with fail
          refine (st_read H13.out _ HW1.out).mono ?_
          rintro e w14 ⟨v14, rfl, he14, h14, _⟩
          rw [G4.out] at he14
          obtain ⟨R, hR⟩ : ∃ R, R = (D5.read ((8 * z : Nat) : Int)).1 := ⟨_, rfl⟩
          rw [← hR]
          have H14 := Lib.hid h14
          have E14 := Lib.hid he14
          clear h14 he14 hR
          go_wp2_with fail
          refine (st_code H14.out HG.out E14.out).mono ?_
          rintro e w15 ⟨rfl, h15, _⟩
          have H15 := Lib.hid h15
          clear h15 E14
          go_wp2_with fail
          refine (st_bad H15.out (B : Int)).mono ?_
          rintro e w16 ⟨rfl, rfl⟩
          rw [G5.out]
          go_wp2_with fail
          refine (st_bad H15.out (o : Int)).mono ?_
          rintro e w16 ⟨rfl, rfl⟩
          rw [G6.out]
          go_wp2_with fail
          refine (st_bad H15.out (z : Int)).mono ?_
          rintro e w16 ⟨rfl, rfl⟩
          rw [G7.out]
          go_wp2
          go_ret
          exact ⟨rfl, H15.out.bel⟩

set_option maxRecDepth 100000 in
theorem lifted (os : Os) (started : os.Started) (H : Type) (enc : TypeId × Value → H) :
    ReturnsInHanded {} Tryd.checked os 4 .any (fun w args => (Rows.topPagesSpec.pre enc Tryd.prog Tryd.f4 [] false w args ∧ laidMetH Tryd.prog [("errors.errorType", Rows.laid_errors_errorType)] w) ∧ sizedMet enc Tryd.prog Tryd.f4 (OpenSpec.ofChange Rows.topPagesSpec) false w args) (Rows.topPagesSpec.post enc Tryd.prog Tryd.f4 false true false false) := by
  refine returnsInHanded_of_change_and (C := Tryd.checked) (X := (fun w _ => laidMetH Tryd.prog [("errors.errorType", Rows.laid_errors_errorType)] w)) (fun _ _ _ hh h => h.of_heap hh) own started (by kernel_rfl) Tryd.func4
    (ChangeSpec.witness_at (enc := enc) (C := Tryd.checked) (os := os) (X := (fun w _ => laidMetH Tryd.prog [("errors.errorType", Rows.laid_errors_errorType)] w)) false (laidWorld os) #[.slice none 0 0, .int .i64 0] 8 rfl (by kernel_rfl) (by kernel_rfl) (by kernel_rfl) (by kernel_rfl) (by kernel_rfl) (laidWorld_met os _)) ?_
  intro W base args ds gs before hval0 hW _ hsz0 hL _
  have hval : ∀ (j : Nat) t v, Tryd.f4.params[j]? = some t → args[j]? = some v → Value.okWide Tryd.prog W .any base t v := hval0
  have hW' := hW
  obtain ⟨p, q, hA0, hV, rfl, hfz, hnd⟩ := hW
  have hA : DataW.TrodAll enc Tryd.prog W 0 (fun _ => true) true Tryd.f4.params.toList args.toList ds p := hA0
  rw [Tryd.params4] at hA hval
  obtain ⟨v0, vs0, d0, ds0, p0, q0, hargs, rfl, rfl, h0, r0⟩ := trodAll_cons hA
  obtain ⟨v1, vs1, d1, ds1, p1, q1, rfl, rfl, rfl, h1, r1⟩ := trodAll_cons r0
  obtain ⟨rfl, rfl, rfl⟩ := trodAll_nil r1
  obtain rfl : args = #[v0, v1] := by cases args; simp_all
  obtain ⟨rfl, rfl⟩ := trodVars_none hV
  have k0 := h0
  have lt0 : ∀ x ∈ p0, x.block < W.heap.size := by obtain ⟨m, hm⟩ := k0; exact DataW.trod_lt m _ _ _ hm
  obtain ⟨a0, len0, cap0, Q0, rfl, l0, w0⟩ := OP.open_pages (hval 0 47 v0 rfl rfl) h0
  obtain ⟨a1, rfl, rfl, rfl, w1⟩ := open_int Tryd.underlying3 (hval 1 3 v1 rfl rfl) h1
  have hg := handle_of_laid hL
  clear hA0 hval0 hsz0
  refine (walk a0 len0 cap0 Q0 a1 W l0 w0 w1 hg).mono fun e W' ⟨he, bel⟩ => ?_
  subst he
  exact ⟨_, rfl, _, _, _, [], _, [], hW', trodAll_mk1 (shut_bool Tryd.underlying4 _), (trodAll_cons_mk (Below.trod laidOut (by kernel_rfl) (of_decide_eq_true (by kernel_rfl)) k0 bel lt0) (trodAll_cons_mk (shut_int Tryd.underlying3 w1) trodAll_mk0)), rfl, bel.frame _, fun h => by cases h⟩

theorem over : Rows.TopPagesSaid :=
  OpenClaim.holds_of_wide 4 Tryd.f4 rfl rfl rfl rfl rfl rfl rfl ⟨rfl, rfl, rfl, rfl, rfl⟩ rfl rfl rfl rfl rfl (by kernel_rfl) Tryd.func4 (by kernel_rfl)
    (of_decide_eq_true (by kernel_rfl)) (by unfold Func.isWrapper; first | (rw [if_pos (by decide +kernel)]; kernel_rfl) | (rw [if_neg (by decide +kernel)]; exact ⟨rfl, rfl⟩))
    (fun os started H enc _ => lifted os started H enc)

/-- The card: the row, its one listed variable tied to the program's text. -/
theorem proved : Rows.TopPagesCardSaid :=
  Claim7.holds_tied_plain_at .later [] [.handle] true _ true
    over (fun _ h => by cases h) (by kernel_rfl) (fun _ h => by cases h) topPages_row_tie rfl ⟨rfl, rfl⟩ (by kernel_rfl) rfl
    (fun f fn hf hfn => by
      obtain rfl : f = 4 := Option.some.inj ((show Tryd.prog.funcNamed "scoria/scoriatop.TopPages" = some 4 by kernel_rfl).symm.trans hf) |>.symm
      obtain rfl : fn = Tryd.f4 := (Option.some.inj (Tryd.func4.symm.trans hfn)).symm
      exact ⟨by kernel_rfl, fun j t ht => by
        rw [Tryd.params4] at ht
        have hm : t ∈ [47, 3] := by simpa using Array.mem_of_getElem? ht
        have hall : ([47, 3].all fun u => !Tryd.prog.wantsStandIn u) = true := by kernel_rfl
        exact (show Tryd.prog.wantsStandIn t = false by simpa using List.all_eq_true.1 hall t hm)⟩)
    (by kernel_rfl)
#print axioms proved
end Go.Proofs.YtolcacmkageidacDoor.topPages
