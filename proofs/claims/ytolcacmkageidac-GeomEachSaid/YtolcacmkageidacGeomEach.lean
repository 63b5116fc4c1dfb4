/- The law GeomEach holds: its Go text answers true for every input, and leaves its arguments as they were. No condition beyond the statement's own. -/
import Derived.Test.YtolcacmkageidacRows
import Derived.Test.YtolcacmkageidacGmB
import Derived.Test.YtolcacmkageidacGmC
import Derived.Test.YtolcacmkageidacAwake6
import Derived.Test.YtolcacmkageidacOpen5
import Derived.ProofKit
import Derived.OpenShut
import Derived.ShutString
import Derived.ChangeOld
import Derived.Below
import Derived.SizedLaws
namespace Go.Proofs.Ytolcacmkageidac.geomEach
open Go.ChangeShapes Go.WideShapes Go.ChangeAt Go.RowKit
open Go.ChangeMaps (open_string shut_string)
open Go.Proofs.Ytolcacmkageidac.FM
set_option linter.unusedVariables false
set_option linter.unusedSimpArgs false

theorem own : ownKnob Try.prog.godebug = none := by kernel_rfl
theorem laidOut : laidOutB Try.prog = true := by kernel_rfl

open GM MM

theorem each_no (x0 y0 : Int) (w : World) (h : ¬ Geo x0 y0) :
    Calls Try.prog 3 #[.agg #[.int .i64 x0, .int .i64 y0]] w fun e w' => e = .returned (.bool true) ∧ Below w.heap.size w w' := by
  have HP := Lib.hid (plan_no x0 y0 h)
  clear h
  obtain ⟨W, hW⟩ : ∃ W, W = w.alloc (.cells #[.int .i64 x0, .int .i64 y0] 23) := ⟨_, rfl⟩
  have k1 : GC W w.heap.size x0 y0 := by rw [hW]; exact Blk.new w _ _
  have hb0 : Below w.heap.size w W := by rw [hW]; exact below_box w _
  have HW := Lib.hid hW
  clear hW
  go_enter Try.func3, Try.ntmps3
  go_wp2_with fail
  rw [← HW.out]
  refine (HP.out _).mono ?_
  rintro e w1 ⟨rfl, hb1⟩
  obtain ⟨W1, hW1⟩ : ∃ W1, W1 = w1.alloc (.cells #[.int .i64 0, .int .i64 0, .int .i64 0, .int .i64 0, .int .i64 0] 25) := ⟨_, rfl⟩
  have hb2 : Below w.heap.size w W1 := by rw [hW1]; exact (hb0.trans (hb1.mono hb0.size)).alloc (hb0.trans (hb1.mono hb0.size)).size _
  have HB := Lib.hid hb2
  have HW1 := Lib.hid hW1
  clear hb1 hb2 k1 hb0 hW1
  go_wp2_with fail
  rw [← HW1.out]
  refine (GM.awake_any _).mono ?_
  rintro e w2 ⟨rfl, hb2⟩
  have HB2 := Lib.hid (HB.out.trans (hb2.mono HB.out.size))
  clear hb2
  go_wp2
  go_ret
  exact ⟨rfl, HB2.out⟩

theorem div_in (k n i : Nat) (h : i < n) : (k * n + i) / n = k := by
  rw [Nat.mul_comm, Nat.mul_add_div (by omega), Nat.div_eq_of_lt h, Nat.add_zero]
theorem cast_add (a b : Nat) (h : a + b ≤ 1000000) : IntKind.i64.wrap ((a : Int) + (b : Int)) = ((a + b : Nat) : Int) := by
  rw [IntWalk.i64_in _ (by omega)]; rfl

set_option maxHeartbeats 4000000 in
theorem each_yes (m n : Nat) (w : World) (h : 16 ≤ m ∧ m ≤ 64 ∧ 8 ≤ n ∧ n ≤ 32) :
    Calls Try.prog 3 #[.agg #[.int .i64 (m : Int), .int .i64 (n : Int)]] w fun e w' => e = .returned (.bool true) ∧ Below w.heap.size w w' := by
  have HP := Lib.hid (plan_yes m n h)
  have HF := Lib.hid (fun k hk => first_yes m n k h hk)
  have HBK : Hid (∀ k i, k < m → i < n → ∀ w, Calls Try.prog 7 #[.agg #[.int .i64 m, .int .i64 n], .int .i64 ((k * n + i : Nat) : Int)] w fun e w' => e = .returned (.int .i64 (k : Int)) ∧ Below w.heap.size w w') := by
    intro k i hk hi w
    have hlt : k * n + i < m * n := by
      have := Nat.mul_le_mul_right n (show k + 1 ≤ m from hk)
      rw [Nat.succ_mul] at this
      omega
    have := block_yes m n (k * n + i) h hlt w
    rwa [div_in k n i hi] at this
  have HB1 := Lib.hid (block_none m n ((m * n : Nat) : Int) h (.inr (Int.le_refl _)))
  have HB2 := Lib.hid (block_none m n (-1) h (.inl (by decide)))
  have hmn := (facts h.1 h.2.1 h.2.2.1 h.2.2.2).pages
  obtain ⟨A, hA⟩ : ∃ A : Int, A = ((m * n : Nat) : Int) := ⟨_, rfl⟩
  obtain ⟨S, hS⟩ : ∃ A : Int, A = ((m / 8 : Nat) : Int) := ⟨_, rfl⟩
  obtain ⟨C, hC⟩ : ∃ A : Int, A = (cap m n : Int) := ⟨_, rfl⟩
  obtain ⟨J, hJ⟩ : ∃ A : Int, A = (low m n : Int) + 1 := ⟨_, rfl⟩
  obtain ⟨K, hK⟩ : ∃ A : Int, A = (low m n : Int) := ⟨_, rfl⟩
  rw [← hJ, ← hA, ← hS, ← hC, ← hK] at HP
  rw [← hA] at HB1
  have HA := Lib.hid hA
  clear hA hS hC hK hJ
  obtain ⟨W, hW⟩ : ∃ W, W = w.alloc (.cells #[.int .i64 m, .int .i64 n] 23) := ⟨_, rfl⟩
  have k1 : GC W w.heap.size m n := by rw [hW]; exact Blk.new w _ _
  have hb0 : Below w.heap.size w W := by rw [hW]; exact below_box w _
  have HW := Lib.hid hW
  clear hW
  go_enter Try.func3, Try.ntmps3
  go_wp2_with fail
  rw [← HW.out]
  refine (HP.out _).mono ?_
  rintro e w1 ⟨rfl, hb1⟩
  obtain ⟨W1, hW1⟩ : ∃ W1, W1 = w1.alloc (.cells #[.int .i64 A, .int .i64 S, .int .i64 C, .int .i64 K, .int .i64 J] 25) := ⟨_, rfl⟩
  obtain ⟨L1, hL1⟩ : ∃ L1, L1 = w1.heap.size := ⟨_, rfl⟩
  have q1 : Hid (PC W1 L1 A S C K J) := by show PC _ _ _ _ _ _ _; rw [hW1, hL1]; exact Blk.new w1 _ _
  have m1 : Hid (GC W1 w.heap.size m n) := by show GC _ _ _ _; rw [hW1]; exact Blk.alloc (k1.keep hb1) _
  have hb2 : Hid (Below w.heap.size w W1) := by show Below _ _ _; rw [hW1]; exact (hb0.trans (hb1.mono hb0.size)).alloc (hb0.trans (hb1.mono hb0.size)).size _
  have HL1 := Lib.hid hL1
  have HW1 := Lib.hid hW1
  clear hb1 k1 hb0 hW1 hL1
  go_wp2
  rw [← HW1.out, ← HL1.out]
  go_loopw [5, 6] (fun v i wr => ∃ k : Nat, k ≤ m ∧ i = .int .i64 k ∧ v = .int .i64 ((k * n : Nat) : Int) ∧ Hid (GC wr w.heap.size m n) ∧ Hid (PC wr L1 A S C K J) ∧ Hid (Below w.heap.size w wr)) (fun _ i _ => m - (intOf i).toNat)
  case atStart => exact ⟨0, Nat.zero_le _, rfl, by rw [Nat.zero_mul]; rfl, m1, q1, hb2⟩
  case round =>
    obtain ⟨k, hk, rfl, rfl, hg, hp, hb⟩ := hrel
    have c0 := hg.out.c0
    have c1 := hg.out.c1
    by_cases hlt : k < m
    · have HFK := Lib.hid (HF.out k hlt)
      have HBQ := Lib.hid (fun i => HBK.out k i hlt)
      have hkn : Hid (k * n + n ≤ 2048) := by
        have := Nat.mul_le_mul_right n (show k + 1 ≤ m from hlt)
        rw [Nat.succ_mul] at this
        exact Nat.le_trans this hmn
      have hnext : Hid ((k + 1) * n = k * n + n) := Nat.succ_mul k n
      obtain ⟨F, hF⟩ : ∃ F, F = k * n := ⟨_, rfl⟩
      rw [← hF] at HFK HBQ hkn hnext ⊢
      clear hF
      have hlt' : (k : Int) < (m : Int) := by omega
      go_wp2_with fail
      refine (HFK.out _).mono ?_
      rintro e w2 ⟨rfl, hb2⟩
      have hg2 := Lib.hid (hg.out.keep hb2)
      have hp2 := Lib.hid (hp.out.keep hb2)
      have hbb := Lib.hid (hb.out.trans (hb2.mono hb.out.size))
      clear hb2 c0 c1
      go_wp2
      go_loopw [5, 8] (fun v i wr => ∃ j : Nat, j ≤ n ∧ i = .int .i64 j ∧ v = .int .i64 ((F + j : Nat) : Int) ∧ Hid (GC wr w.heap.size m n) ∧ Hid (PC wr L1 A S C K J) ∧ Hid (Below w.heap.size w wr)) (fun _ i _ => n - (intOf i).toNat)
      case atStart => exact ⟨0, Nat.zero_le _, rfl, rfl, hg2, hp2, hbb⟩
      case round =>
        obtain ⟨j, hj, rfl, rfl, hg3, hp3, hb3⟩ := hrel
        have c0 := hg3.out.c0
        have c1 := hg3.out.c1
        by_cases hjn : j < n
        · have HBJ := Lib.hid (HBQ.out j hjn)
          have e1 := cast_add F j (by have := hkn.out; omega)
          have e2 := cast_add (F + j) 1 (by have := hkn.out; omega)
          obtain ⟨X, hX⟩ : ∃ X, X = F + j := ⟨_, rfl⟩
          rw [← hX] at e1 e2 HBJ ⊢
          have hX1 : Hid (X + 1 = F + (j + 1)) := by show _ = _; omega
          have hj' : (j : Int) < (n : Int) := by omega
          clear hX
          have e2' : IntKind.i64.wrap ((X : Int) + 1) = ((X + 1 : Nat) : Int) := e2
          clear e2
          obtain ⟨Y, hY⟩ : ∃ Y, Y = X + 1 := ⟨_, rfl⟩
          rw [← hY] at e2' hX1
          clear hY
          go_wp2_with fail
          refine (HBJ.out _).mono ?_
          rintro e w3 ⟨rfl, hb4⟩
          have hg4 := Lib.hid (hg3.out.keep hb4)
          have hp4 := Lib.hid (hp3.out.keep hb4)
          have hb5 := Lib.hid (hb3.out.trans (hb4.mono hb3.out.size))
          clear hb4 c0 c1
          go_wp2
          go_roundw
          case rel => exact ⟨j + 1, by omega, by go_num, by rw [← hX1.out], hg4, hp4, hb5⟩
          case measure => simp [intOf]; omega
        · obtain rfl : j = n := by omega
          have hj' : ¬ (j : Int) < (j : Int) := by omega
          go_wp2
          go_roundw
          case rel => exact ⟨k + 1, by omega, by go_num, by rw [hnext.out], hg3, hp3, hb3⟩
          case measure => simp [intOf]; omega
    · obtain rfl : k = m := by omega
      rw [← HA.out]
      have hk' : ¬ (k : Int) < (k : Int) := by omega
      go_wp2_with fail
      refine (GM.awake_any _).mono ?_
      rintro e w2 ⟨rfl, hb2⟩
      have g2 := hg.out.keep hb2
      have p2 := hp.out.keep hb2
      have d0 := g2.c0
      have d1 := g2.c1
      obtain ⟨r0, _, _, _, _⟩ := p2.cs
      have hb3 := Lib.hid (hb.out.trans (hb2.mono hb.out.size))
      have G2 := Lib.hid g2
      clear hb2 g2 p2 c0 c1
      go_wp2_with fail
      refine (HB1.out _).mono ?_
      rintro e w3 ⟨rfl, hb4⟩
      have g3 := G2.out.keep hb4
      have f0 := g3.c0
      have f1 := g3.c1
      have hb5 := Lib.hid (hb3.out.trans (hb4.mono hb3.out.size))
      clear hb4 g3 d0 d1
      go_wp2_with fail
      refine (HB2.out _).mono ?_
      rintro e w4 ⟨rfl, hb6⟩
      have hb7 := Lib.hid (hb5.out.trans (hb6.mono hb5.out.size))
      clear hb6
      go_wp2
      go_ret
      exact ⟨rfl, hb7.out⟩

theorem walk (x0 y0 : Int) (w : World) (wx0 : (Lit.int .i64 x0).wf = true) (wy0 : (Lit.int .i64 y0).wf = true) :
    Calls Try.prog 3 #[.agg #[.int .i64 x0, .int .i64 y0]] w fun e w' => e = .returned (.bool true) ∧ Below w.heap.size w w' := by
  by_cases h : Geo x0 y0
  · obtain ⟨m, n, rfl, rfl, h'⟩ := h.nat
    exact each_yes m n w h'
  · exact each_no x0 y0 w h

set_option maxRecDepth 100000 in
theorem lifted (os : Os) (started : os.Started) (H : Type) (enc : TypeId × Value → H) :
    ReturnsInHanded {} Try.checked os 3 .any (Rows.geomEachSpec.pre6 enc Try.prog Try.f3 Rows.geomEachRow.domain false) (Rows.geomEachSpec.post enc Try.prog Try.f3 false true false false) := by
  refine returnsInHanded_of_change_sized (C := Try.checked) own started (by kernel_rfl) Try.func3
    (ChangeSpec.witness6 (enc := enc) (C := Try.checked) false ⟨#[], #[.agg #[.int .i64 0, .int .i64 0]], []⟩ 8 (by kernel_rfl) (by kernel_rfl) (by kernel_rfl) (by kernel_rfl)) ?_
  intro W base args ds gs before hval0 hW hcnd hsz0 _
  have hval : ∀ (j : Nat) t v, Try.f3.params[j]? = some t → args[j]? = some v → Value.okWide Try.prog W .any base t v := hval0
  have hW' := hW
  obtain ⟨p, q, hA0, hV, rfl, hfz, hnd⟩ := hW
  have hA : DataW.TrodAll enc Try.prog W 0 (fun _ => true) true Try.f3.params.toList args.toList ds p := hA0
  have hsz : (DataW.weightsEach Try.prog (Try.f3.params.toList ++ Rows.geomEachSpec.plain.varTypes Try.prog) (ds ++ gs)).all (· ≤ reachBytes) = true := hsz0
  rw [Try.params3] at hA hval hsz
  obtain ⟨v0, vs0, d0, ds0, p0, q0, hargs, rfl, rfl, h0, r0⟩ := trodAll_cons hA
  obtain ⟨rfl, rfl, rfl⟩ := trodAll_nil r0
  obtain rfl : args = #[v0] := by cases args; simp_all
  obtain ⟨rfl, rfl⟩ := trodVars_none hV
  have k0 := h0
  have lt0 : ∀ x ∈ p0, x.block < W.heap.size := by obtain ⟨m, hm⟩ := k0; exact DataW.trod_lt m _ _ _ hm
  obtain ⟨x0, y0, rfl, wx0, wy0⟩ := OP.open_geo (hval 0 23 v0 rfl rfl) h0
  clear hA0 hval0 hsz0
  refine (walk x0 y0 W wx0 wy0).mono fun e W' ⟨he, bel⟩ => ?_
  subst he
  exact ⟨_, rfl, _, _, _, [], _, [], hW', trodAll_mk1 (shut_bool Try.underlying4 _), (trodAll_cons_mk (Below.trod laidOut (by kernel_rfl) (of_decide_eq_true (by kernel_rfl)) k0 bel lt0) trodAll_mk0), rfl, bel.frame _, fun h => by cases h⟩

theorem over : Rows.geomEachRow.holds Try.pinned (OpenSpec.ofChange Rows.geomEachSpec) :=
  OpenClaim.holds_of_wide 3 Try.f3 rfl rfl rfl rfl rfl rfl rfl ⟨rfl, rfl, rfl, rfl, rfl⟩ rfl rfl rfl rfl rfl (by kernel_rfl) Try.func3 (by kernel_rfl)
    (of_decide_eq_true (by kernel_rfl)) (by unfold Func.isWrapper; first | (rw [if_pos (by decide +kernel)]; kernel_rfl) | (rw [if_neg (by decide +kernel)]; exact ⟨rfl, rfl⟩))
    (fun os started H enc _ => lifted os started H enc)

theorem proved : Rows.GeomEachSaid := over
#print axioms proved
end Go.Proofs.Ytolcacmkageidac.geomEach
