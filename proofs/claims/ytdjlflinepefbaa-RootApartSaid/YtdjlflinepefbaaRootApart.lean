/- The law RootApart holds: its Go text answers true for every input, and leaves its arguments as they were. No condition beyond the statement's own. -/
import Derived.Test.YtdjlflinepefbaaRows
import Derived.Test.YtdjlflinepefbaaRtS
import Derived.Test.YtdjlflinepefbaaOpen12
import Derived.Test.YtdjlflinepefbaaOpen
import Derived.ProofKit
import Derived.OpenShut
import Derived.ShutString
import Derived.ChangeOld
import Derived.Below
import Derived.SizedLaws
namespace Go.Proofs.Ytdjlflinepefbaa.rootApart
open Go.ChangeShapes Go.WideShapes Go.ChangeAt Go.RowKit
open Go.ChangeMaps (open_string shut_string)
open Go.Proofs.Ytdjlflinepefbaa.FM
set_option linter.unusedVariables false
set_option linter.unusedSimpArgs false

theorem own : ownKnob Try.prog.godebug = none := by kernel_rfl
theorem laidOut : laidOutB Try.prog = true := by kernel_rfl

open MM EX OP RT FM

theorem big (f0 g0 : Int) (a1 : Option Addr) (len1 cap1 : Nat) (a2 : Option Addr) (len2 cap2 : Nat) (w : World) (hbig : ¬ (len1 ≤ 60 ∧ len2 ≤ 60)) :
    Calls Try.prog 9 #[.agg #[.int .i64 f0, .int .i64 g0], .slice a1 len1 cap1, .slice a2 len2 cap2] w fun e w' => e = .returned (.bool true) ∧ Below w.heap.size w w' := by
  by_cases h0 : 60 < len1
  · have h0' : (60 : Int) < (len1 : Int) := by omega
    have HB := Lib.hid (below_box w (.cells #[.int .i64 f0, .int .i64 g0] 58))
    clear hbig h0
    go_enter Try.func9, Try.ntmps9
    go_wp2_with fail
    refine (RT.awake_any _).mono ?_
    rintro r w2 ⟨rfl, hb2⟩
    have B2 := Lib.hid (bkept HB.out hb2)
    clear hb2
    go_wp2
    go_ret
    exact ⟨rfl, B2.out⟩
  · have h0' : decide ((60 : Int) < (len1 : Int)) = false := decide_eq_false (by omega)
    have h2' : (60 : Int) < (len2 : Int) := by omega
    have HB := Lib.hid (below_box w (.cells #[.int .i64 f0, .int .i64 g0] 58))
    clear hbig h0
    go_enter Try.func9, Try.ntmps9
    go_wp2_with fail
    refine (RT.awake_any _).mono ?_
    rintro r w2 ⟨rfl, hb2⟩
    have B2 := Lib.hid (bkept HB.out hb2)
    clear hb2
    go_wp2
    go_ret
    exact ⟨rfl, B2.out⟩
set_option maxHeartbeats 4000000 in
/-- One of them is no record. -/
theorem none_ (f0 g0 : Int) (a1 : Option Addr) (len1 cap1 : Nat) (a2 : Option Addr) (len2 cap2 : Nat) (w : World) (hs1 : len1 ≤ 60) (hs2 : len2 ≤ 60) (S T : ByteArray) (e f : Int) (he : (e = 0 ∨ e = 1) ∧ (f = 0 ∨ f = 1) ∧ ¬ (e = 0 ∧ f = 0))
    (H1 : Hid (∀ w1, Below w.heap.size w w1 → Calls Try.prog 11 #[.int .i64 f0, .slice a1 len1 cap1] w1 fun r w' => r = .returned (.tuple #[.string S, .int .i64 e]) ∧ Below w1.heap.size w1 w'))
    (H2 : Hid (∀ w1, Below w.heap.size w w1 → Calls Try.prog 11 #[.int .i64 g0, .slice a2 len2 cap2] w1 fun r w' => r = .returned (.tuple #[.string T, .int .i64 f]) ∧ Below w1.heap.size w1 w')) :
    Calls Try.prog 9 #[.agg #[.int .i64 f0, .int .i64 g0], .slice a1 len1 cap1, .slice a2 len2 cap2] w fun e w' => e = .returned (.bool true) ∧ Below w.heap.size w w' := by
  have h1 : decide ((60 : Int) < (len1 : Int)) = false := decide_eq_false (by omega)
  have h2 : ¬ (60 : Int) < (len2 : Int) := by omega
  have HB := Lib.hid (below_box w (.cells #[.int .i64 f0, .int .i64 g0] 58))
  have BLK : Hid (Blk (w.alloc (.cells #[.int .i64 f0, .int .i64 g0] 58)) w.heap.size 58 #[.int .i64 f0, .int .i64 g0]) := Lib.hid (Blk.new w _ _)
  have HE := Lib.hid he
  clear hs1 hs2 he
  go_enter Try.func9, Try.ntmps9
  go_wp2_with fail
  refine (H1.out _ HB.out).mono ?_
  rintro r w1 ⟨rfl, hb1⟩
  have B1 := Lib.hid (bkept HB.out hb1)
  have c1 := (BLK.out.below hb1 BLK.out.lt).cell 1
  clear hb1
  go_wp2_with fail
  refine (H2.out _ B1.out).mono ?_
  rintro r w2 ⟨rfl, hb2⟩
  have B2 := Lib.hid (bkept B1.out hb2)
  clear hb2 c1
  obtain ⟨he1, he2, he3⟩ := HE.out
  rcases he1 with rfl | rfl
  · rcases he2 with rfl | rfl
    · exact absurd ⟨rfl, rfl⟩ he3
    · clear he3
      go_wp2_with fail
      refine (RT.awake_any _).mono ?_
      rintro r w3 ⟨rfl, hb3⟩
      have B3 := Lib.hid (bkept B2.out hb3)
      clear hb3
      go_wp2
      go_ret
      exact ⟨rfl, B3.out⟩
  · clear he2 he3
    go_wp2_with fail
    refine (RT.awake_any _).mono ?_
    rintro r w3 ⟨rfl, hb3⟩
    have B3 := Lib.hid (bkept B2.out hb3)
    clear hb3
    go_wp2
    go_ret
    exact ⟨rfl, B3.out⟩
set_option maxHeartbeats 4000000 in
/-- Both are records. -/
theorem both (f0 g0 : Int) (a1 : Option Addr) (len1 cap1 : Nat) (L1 : List EX.Ext) (a2 : Option Addr) (len2 cap2 : Nat) (L2 : List EX.Ext) (w : World) (hl1 : len1 = L1.length) (w1 : EX.Exs w a1 L1) (hl2 : len2 = L2.length) (w2 : EX.Exs w a2 L2) (hs1 : len1 ≤ 60) (hs2 : len2 ≤ 60) (S T : ByteArray) (hST : (S.toList == T.toList) = decide (f0 = g0 ∧ L1 = L2))
    (H1 : Hid (∀ w1, Below w.heap.size w w1 → Calls Try.prog 11 #[.int .i64 f0, .slice a1 len1 cap1] w1 fun r w' => r = .returned (.tuple #[.string S, .int .i64 0]) ∧ Below w1.heap.size w1 w'))
    (H2 : Hid (∀ w1, Below w.heap.size w w1 → Calls Try.prog 11 #[.int .i64 g0, .slice a2 len2 cap2] w1 fun r w' => r = .returned (.tuple #[.string T, .int .i64 0]) ∧ Below w1.heap.size w1 w')) :
    Calls Try.prog 9 #[.agg #[.int .i64 f0, .int .i64 g0], .slice a1 len1 cap1, .slice a2 len2 cap2] w fun e w' => e = .returned (.bool true) ∧ Below w.heap.size w w' := by
  have h1 : decide ((60 : Int) < (len1 : Int)) = false := decide_eq_false (by omega)
  have h2 : ¬ (60 : Int) < (len2 : Int) := by omega
  have HB := Lib.hid (below_box w (.cells #[.int .i64 f0, .int .i64 g0] 58))
  have BLK : Hid (Blk (w.alloc (.cells #[.int .i64 f0, .int .i64 g0] 58)) w.heap.size 58 #[.int .i64 f0, .int .i64 g0]) := Lib.hid (Blk.new w _ _)
  have HL1 := Lib.hid hl1
  have HL2 := Lib.hid hl2
  have X1 := Lib.hid w1
  have X2 := Lib.hid w2
  have HST := Lib.hid hST
  have Z1 := Lib.hid hs1
  have Z2 := Lib.hid hs2
  clear hs1 hs2 hl1 hl2 w1 w2 hST
  go_enter Try.func9, Try.ntmps9
  go_wp2_with fail
  refine (H1.out _ HB.out).mono ?_
  rintro r w1 ⟨rfl, hb1⟩
  have B1 := Lib.hid (bkept HB.out hb1)
  have K1 := Lib.hid (BLK.out.below hb1 BLK.out.lt)
  have c1 := K1.out.cell 1
  clear hb1
  go_wp2_with fail
  refine (H2.out _ B1.out).mono ?_
  rintro r w2 ⟨rfl, hb2⟩
  have B2 := Lib.hid (bkept B1.out hb2)
  have K2 := Lib.hid (K1.out.below hb2 K1.out.lt)
  clear hb2 c1
  go_wp2_with fail
  refine (RT.awake_any _).mono ?_
  rintro r w3 ⟨rfl, hb3⟩
  have B3 := Lib.hid (bkept B2.out hb3)
  have K3 := Lib.hid (K2.out.below hb3 K2.out.lt)
  have d0 := K3.out.cell 0
  have d1 := K3.out.cell 1
  clear hb3
  by_cases hg : f0 = g0
  · have hg' : (f0 == g0) = true := beq_iff_eq.2 hg
    have HG := Lib.hid hg
    have hq : (S.toList == T.toList) = decide (L1 = L2) := by rw [HST.out]; simp [hg]
    clear hg
    have HSM := Lib.hid (fun (w : World) (A B : Option Addr) (c d : Nat) (h1 : Exs w A L1) (h2 : Exs w B L2) => same_any L1 L2 len1 len2 c d HL1.out HL2.out (by have := Z1.out; omega) A B w h1 h2)
    obtain ⟨V, hV⟩ : ∃ V, V = decide (L1 = L2) := ⟨_, rfl⟩
    rw [← hV] at HSM hq
    clear hV
    go_wp2_with fail
    refine (RT.refs_any L1 len1 cap1 HL1.out (by have := Z1.out; omega) a1 _ (X1.out.below B3.out)).mono ?_
    rintro r w4 ⟨A4, n4, c4, rfl, hn4, hx4, hb4⟩
    obtain rfl : n4 = len1 := by rw [hn4, HL1.out]
    have X4 := Lib.hid hx4
    have B4 := Lib.hid (bkept B3.out hb4)
    clear hx4 hb4 hn4 d0 d1
    go_wp2_with fail
    refine (RT.refs_any L2 len2 cap2 HL2.out (by have := Z2.out; omega) a2 _ (X2.out.below B4.out)).mono ?_
    rintro r w5 ⟨A5, n5, c5, rfl, hn5, hx5, hb5⟩
    obtain rfl : n5 = len2 := by rw [hn5, HL2.out]
    have X5 := Lib.hid hx5
    have Y5 := Lib.hid (X4.out.below hb5)
    have B5 := Lib.hid (bkept B4.out hb5)
    clear hx5 hb5 hn5
    go_wp2_with fail
    refine (HSM.out _ _ _ _ _ Y5.out X5.out).mono ?_
    rintro r w6 ⟨rfl, hb6⟩
    have B6 := Lib.hid (bkept B5.out hb6)
    clear hb6
    go_wp2
    go_ret
    exact ⟨by simp, B6.out⟩
  · have hg' : (f0 == g0) = false := beq_eq_false_iff_ne.2 hg
    have hq : (S.toList == T.toList) = false := by rw [HST.out]; simp [hg]
    clear hg
    go_wp2
    go_ret
    exact ⟨by simp, B3.out⟩

theorem walk (f0 g0 : Int) (a1 : Option Addr) (len1 cap1 : Nat) (L1 : List EX.Ext) (a2 : Option Addr) (len2 cap2 : Nat) (L2 : List EX.Ext) (w : World) (u0 : OP.I64 f0) (t0 : OP.I64 g0) (hl1 : len1 = L1.length) (lm1 : len1 ≤ maxLen) (w1 : EX.Exs w a1 L1) (wf1 : ∀ e ∈ L1, OP.WfS e) (hl2 : len2 = L2.length) (lm2 : len2 ≤ maxLen) (w2 : EX.Exs w a2 L2) (wf2 : ∀ e ∈ L2, OP.WfS e) :
    Calls Try.prog 9 #[.agg #[.int .i64 f0, .int .i64 g0], .slice a1 len1 cap1, .slice a2 len2 cap2] w fun e w' => e = .returned (.bool true) ∧ Below w.heap.size w w' := by
  by_cases hbig : len1 ≤ 60 ∧ len2 ≤ 60
  · obtain ⟨hs1, hs2⟩ := hbig
    by_cases v1 : Recd f0 L1
    · have e1 : Hid (∀ u, Below w.heap.size w u → Calls Try.prog 11 #[.int .i64 f0, .slice a1 len1 cap1] u fun r w' => r = .returned (.tuple #[.string (str (recB f0 L1)), .int .i64 0]) ∧ Below u.heap.size u w') := Lib.hid fun u hu => Write_ok f0 L1 len1 cap1 hl1 a1 u (w1.below hu) v1
      by_cases v2 : Recd g0 L2
      · have e2 : Hid (∀ u, Below w.heap.size w u → Calls Try.prog 11 #[.int .i64 g0, .slice a2 len2 cap2] u fun r w' => r = .returned (.tuple #[.string (str (recB g0 L2)), .int .i64 0]) ∧ Below u.heap.size u w') := Lib.hid fun u hu => Write_ok g0 L2 len2 cap2 hl2 a2 u (w2.below hu) v2
        have hq : ((str (recB f0 L1)).toList == (str (recB g0 L2)).toList) = decide (f0 = g0 ∧ L1 = L2) := by
          rw [str_toList, str_toList, Bool.eq_iff_iff, beq_iff_eq, decide_eq_true_iff]
          exact rec_inj v1 v2
        exact both f0 g0 a1 len1 cap1 L1 a2 len2 cap2 L2 w hl1 w1 hl2 w2 hs1 hs2 _ _ hq e1 e2
      · have e2 : Hid (∀ u, Below w.heap.size w u → Calls Try.prog 11 #[.int .i64 g0, .slice a2 len2 cap2] u fun r w' => r = .returned (.tuple #[.string ⟨#[]⟩, .int .i64 1]) ∧ Below u.heap.size u w') := Lib.hid fun u hu => Write_no g0 L2 len2 cap2 hl2 a2 u (w2.below hu) v2
        exact none_ f0 g0 a1 len1 cap1 a2 len2 cap2 w hs1 hs2 _ _ 0 1 ⟨.inl rfl, .inr rfl, by omega⟩ e1 e2
    · have e1 : Hid (∀ u, Below w.heap.size w u → Calls Try.prog 11 #[.int .i64 f0, .slice a1 len1 cap1] u fun r w' => r = .returned (.tuple #[.string ⟨#[]⟩, .int .i64 1]) ∧ Below u.heap.size u w') := Lib.hid fun u hu => Write_no f0 L1 len1 cap1 hl1 a1 u (w1.below hu) v1
      by_cases v2 : Recd g0 L2
      · have e2 : Hid (∀ u, Below w.heap.size w u → Calls Try.prog 11 #[.int .i64 g0, .slice a2 len2 cap2] u fun r w' => r = .returned (.tuple #[.string (str (recB g0 L2)), .int .i64 0]) ∧ Below u.heap.size u w') := Lib.hid fun u hu => Write_ok g0 L2 len2 cap2 hl2 a2 u (w2.below hu) v2
        exact none_ f0 g0 a1 len1 cap1 a2 len2 cap2 w hs1 hs2 _ _ 1 0 ⟨.inr rfl, .inl rfl, by omega⟩ e1 e2
      · have e2 : Hid (∀ u, Below w.heap.size w u → Calls Try.prog 11 #[.int .i64 g0, .slice a2 len2 cap2] u fun r w' => r = .returned (.tuple #[.string ⟨#[]⟩, .int .i64 1]) ∧ Below u.heap.size u w') := Lib.hid fun u hu => Write_no g0 L2 len2 cap2 hl2 a2 u (w2.below hu) v2
        exact none_ f0 g0 a1 len1 cap1 a2 len2 cap2 w hs1 hs2 _ _ 1 1 ⟨.inr rfl, .inr rfl, by omega⟩ e1 e2
  · exact big f0 g0 a1 len1 cap1 a2 len2 cap2 w hbig

set_option maxRecDepth 100000 in
theorem lifted (os : Os) (started : os.Started) (H : Type) (enc : TypeId × Value → H) :
    ReturnsInHanded {} Try.checked os 9 .any (Rows.rootApartSpec.pre6 enc Try.prog Try.f9 Rows.rootApartRow.domain false) (Rows.rootApartSpec.post enc Try.prog Try.f9 false true false false) := by
  refine returnsInHanded_of_change_sized (C := Try.checked) own started (by kernel_rfl) Try.func9
    (ChangeSpec.witness6 (enc := enc) (C := Try.checked) false ⟨#[], #[.agg #[.int .i64 0, .int .i64 0], .slice none 0 0, .slice none 0 0], []⟩ 8 (by kernel_rfl) (by kernel_rfl) (by kernel_rfl) (by kernel_rfl)) ?_
  intro W base args ds gs before hval0 hW hcnd hsz0 _
  have hval : ∀ (j : Nat) t v, Try.f9.params[j]? = some t → args[j]? = some v → Value.okWide Try.prog W .any base t v := hval0
  have hW' := hW
  obtain ⟨p, q, hA0, hV, rfl, hfz, hnd⟩ := hW
  have hA : DataW.TrodAll enc Try.prog W 0 (fun _ => true) true Try.f9.params.toList args.toList ds p := hA0
  have hsz : (DataW.weightsEach Try.prog (Try.f9.params.toList ++ Rows.rootApartSpec.plain.varTypes Try.prog) (ds ++ gs)).all (· ≤ reachBytes) = true := hsz0
  rw [Try.params9] at hA hval hsz
  obtain ⟨v0, vs0, d0, ds0, p0, q0, hargs, rfl, rfl, h0, r0⟩ := trodAll_cons hA
  obtain ⟨v1, vs1, d1, ds1, p1, q1, rfl, rfl, rfl, h1, r1⟩ := trodAll_cons r0
  obtain ⟨v2, vs2, d2, ds2, p2, q2, rfl, rfl, rfl, h2, r2⟩ := trodAll_cons r1
  obtain ⟨rfl, rfl, rfl⟩ := trodAll_nil r2
  obtain rfl : args = #[v0, v1, v2] := by cases args; simp_all
  obtain ⟨rfl, rfl⟩ := trodVars_none hV
  have k0 := h0
  have lt0 : ∀ x ∈ p0, x.block < W.heap.size := by obtain ⟨m, hm⟩ := k0; exact DataW.trod_lt m _ _ _ hm
  obtain ⟨f0, g0, rfl, u0, t0⟩ := OP.open_ints2 (hval 0 58 v0 rfl rfl) h0
  have k1 := h1
  have lt1 : ∀ x ∈ p1, x.block < W.heap.size := by obtain ⟨m, hm⟩ := k1; exact DataW.trod_lt m _ _ _ hm
  obtain ⟨a1, len1, cap1, L1, rfl, hl1, lm1, w1, wf1⟩ := OP.open_spaces (hval 1 22 v1 rfl rfl) h1
  have k2 := h2
  have lt2 : ∀ x ∈ p2, x.block < W.heap.size := by obtain ⟨m, hm⟩ := k2; exact DataW.trod_lt m _ _ _ hm
  obtain ⟨a2, len2, cap2, L2, rfl, hl2, lm2, w2, wf2⟩ := OP.open_spaces (hval 2 22 v2 rfl rfl) h2
  clear hA0 hval0 hsz0
  refine (walk f0 g0 a1 len1 cap1 L1 a2 len2 cap2 L2 W u0 t0 hl1 lm1 w1 wf1 hl2 lm2 w2 wf2).mono fun e W' ⟨he, bel⟩ => ?_
  subst he
  exact ⟨_, rfl, _, _, _, [], _, [], hW', trodAll_mk1 (shut_bool Try.underlying4 _), (trodAll_cons_mk (Below.trod laidOut (by kernel_rfl) (of_decide_eq_true (by kernel_rfl)) k0 bel lt0) (trodAll_cons_mk (Below.trod laidOut (by kernel_rfl) (of_decide_eq_true (by kernel_rfl)) k1 bel lt1) (trodAll_cons_mk (Below.trod laidOut (by kernel_rfl) (of_decide_eq_true (by kernel_rfl)) k2 bel lt2) trodAll_mk0))), rfl, bel.frame _, fun h => by cases h⟩

theorem over : Rows.rootApartRow.holds Try.pinned (OpenSpec.ofChange Rows.rootApartSpec) :=
  OpenClaim.holds_of_wide 9 Try.f9 rfl rfl rfl rfl rfl rfl rfl ⟨rfl, rfl, rfl, rfl, rfl⟩ rfl rfl rfl rfl rfl (by kernel_rfl) Try.func9 (by kernel_rfl)
    (of_decide_eq_true (by kernel_rfl)) (by unfold Func.isWrapper; first | (rw [if_pos (by decide +kernel)]; kernel_rfl) | (rw [if_neg (by decide +kernel)]; exact ⟨rfl, rfl⟩))
    (fun os started H enc _ => lifted os started H enc)

theorem proved : Rows.RootApartSaid := over
#print axioms proved
end Go.Proofs.Ytdjlflinepefbaa.rootApart
