/- The law LeafReads holds: its Go text answers true for every input, and leaves its arguments as they were. No condition beyond the statement's own. -/
import Derived.Test.YtmndbdkodijlbaaRows
import Derived.Test.YtmndbdkodijlbaaLfP
import Derived.Test.YtmndbdkodijlbaaLfQ
import Derived.Test.YtmndbdkodijlbaaRefs
import Derived.ProofKit
import Derived.OpenShut
import Derived.ShutString
import Derived.ChangeOld
import Derived.Below
import Derived.SizedLaws
namespace Go.Proofs.Ytmndbdkodijlbaa.leafReads
open Go.ChangeShapes Go.WideShapes Go.ChangeAt Go.RowKit
open Go.ChangeMaps (open_string shut_string)
open Go.Proofs.Ytmndbdkodijlbaa.FM
set_option linter.unusedVariables false
set_option linter.unusedSimpArgs false

theorem own : ownKnob Try.prog.godebug = none := by kernel_rfl
theorem laidOut : laidOutB Try.prog = true := by kernel_rfl

open MM EX LF FM

/-- A list and a sign that were handed back. -/
def Rd {T : Type} (rows : World → Option Addr → List T → Prop) (L : List T) (e : Int) (w : World) (r : Ending) (w' : World) : Prop :=
  ∃ A n c, r = .returned (.tuple #[.slice A n c, .int .i64 e]) ∧ n = L.length ∧ n ≤ c ∧ rows w' A L ∧ Below w.heap.size w w'
theorem rd_good {T : Type} {X : Nodes T} {rows : World → Option Addr → List T → Prop} {s : List UInt8} {L : List T} (h : LF.Good X s L) {w : World} {r : Ending} {w' : World} (x : REnd X rows s w r w') : Rd rows L 0 w r w' := by
  rcases x with ⟨M, A, n, c, h1, h2, h3, h6, h4, h5⟩ | ⟨h1, _⟩
  · obtain rfl : M = L := says_one X h1 h
    exact ⟨A, n, c, h2, h3, h6, h4, h5⟩
  · exact absurd h (h1 L)
theorem rd_bad {T : Type} {X : Nodes T} {rows : World → Option Addr → List T → Prop} (hr : ∀ w, rows w none []) {s : List UInt8} (h : ∀ L, ¬ LF.Good X s L) {w : World} {r : Ending} {w' : World} (x : REnd X rows s w r w') : Rd rows [] 3 w r w' := by
  rcases x with ⟨M, A, n, c, h1, _⟩ | ⟨_, h2, h3⟩
  · exact absurd h1 (h M)
  · exact ⟨none, 0, 0, h2, rfl, Nat.le_refl _, hr _, h3⟩
theorem rd_some {T : Type} (X : Nodes T) (rows : World → Option Addr → List T → Prop) (hr : ∀ w, rows w none []) (s : List UInt8) : ∃ L e, L.length ≤ 8 ∧ ∀ w r w', REnd X rows s w r w' → Rd rows L e w r w' := by
  by_cases h : ∃ L, LF.Good X s L
  · obtain ⟨L, h⟩ := h
    exact ⟨L, 0, X.short L h.1, fun w r w' x => rd_good h x⟩
  · exact ⟨[], 3, by simp, fun w r w' x => rd_bad hr (fun L hL => h ⟨L, hL⟩) x⟩
theorem exs_none (w : World) : Exs w none [] := .inl rfl
theorem kds_none (w : World) : Kds w none [] := .inl rfl
theorem str_of (t : ByteArray) : str t.data.toList = t := rfl
theorem str_self (S : ByteArray) : (S.toList == S.toList) = true := by simp

theorem big (a0 : ByteArray) (w : World) (hbig : ¬ a0.size ≤ 2000) :
    Calls Try.prog 5 #[.string a0] w fun e w' => e = .returned (.bool true) ∧ Below w.heap.size w w' := by
  have hf : (2000 : Int) < (a0.size : Int) := by omega
  clear hbig
  go_enter Try.func5, Try.ntmps5
  go_wp2_with fail
  refine (LF.awake_any _).mono ?_
  rintro r w2 ⟨rfl, hb2⟩
  go_wp2
  go_ret
  exact ⟨rfl, hb2⟩
set_option maxHeartbeats 4000000 in
theorem alike (a0 : ByteArray) (w : World) (hs : a0.size ≤ 2000) (L : List EX.Ext) (e : Int) (K : List LF.Kid) (f : Int) (hL : L.length ≤ 8) (hK : K.length ≤ 8)
    (H1 : Hid (∀ w, Calls Try.prog 16 #[.string a0] w (Rd Exs L e w)))
    (H2 : Hid (∀ w, Calls Try.prog 17 #[.string a0] w (Rd Exs L e w)))
    (H3 : Hid (∀ w, Calls Try.prog 18 #[.string a0] w (Rd Kds K f w)))
    (H4 : Hid (∀ w, Calls Try.prog 19 #[.string a0] w (Rd Kds K f w))) :
    Calls Try.prog 5 #[.string a0] w fun e w' => e = .returned (.bool true) ∧ Below w.heap.size w w' := by
  have hf : ¬ (2000 : Int) < (a0.size : Int) := by omega
  have HL := Lib.hid hL
  have HK := Lib.hid hK
  obtain ⟨l, hl⟩ : ∃ l, l = L.length := ⟨_, rfl⟩
  obtain ⟨k, hk⟩ : ∃ l, l = K.length := ⟨_, rfl⟩
  have HLL := Lib.hid hl
  have HKK := Lib.hid hk
  clear hs hL hK hl hk
  go_enter Try.func5, Try.ntmps5
  go_wp2_with fail
  refine (H1.out _).mono ?_
  rintro r w1 ⟨A1, n1, c1, rfl, hn1, _, hx1, hb1⟩
  obtain rfl : n1 = l := by rw [hn1, HLL.out]
  have X1 := Lib.hid hx1
  have B1 := Lib.hid hb1
  clear hx1 hb1 hn1
  go_wp2_with fail
  refine (H2.out _).mono ?_
  rintro r w2 ⟨A2, n2, c2, rfl, hn2, _, hx2, hb2⟩
  obtain rfl : n2 = n1 := by rw [hn2, HLL.out]
  have X2 := Lib.hid hx2
  have Y2 := Lib.hid (X1.out.below hb2)
  have B2 := Lib.hid (bkept B1.out hb2)
  clear hx2 hb2 hn2
  go_wp2_with fail
  refine (H3.out _).mono ?_
  rintro r w3 ⟨A3, n3, c3, rfl, hn3, _, hx3, hb3⟩
  obtain rfl : n3 = k := by rw [hn3, HKK.out]
  have X3 := Lib.hid hx3
  have Y3 := Lib.hid (Y2.out.below hb3)
  have Z3 := Lib.hid (X2.out.below hb3)
  have B3 := Lib.hid (bkept B2.out hb3)
  clear hx3 hb3 hn3
  go_wp2_with fail
  refine (H4.out _).mono ?_
  rintro r w4 ⟨A4, n4, c4, rfl, hn4, _, hx4, hb4⟩
  obtain rfl : n4 = n3 := by rw [hn4, HKK.out]
  have X4 := Lib.hid hx4
  have Y4 := Lib.hid (Y3.out.below hb4)
  have Z4 := Lib.hid (Z3.out.below hb4)
  have W4 := Lib.hid (X3.out.below hb4)
  have B4 := Lib.hid (bkept B3.out hb4)
  clear hx4 hb4 hn4
  go_wp2_with fail
  refine (LF.awake_any _).mono ?_
  rintro r w5 ⟨rfl, hb5⟩
  have B5 := Lib.hid (bkept B4.out hb5)
  have Y5 := Lib.hid (Y4.out.below hb5)
  have Z5 := Lib.hid (Z4.out.below hb5)
  have W5 := Lib.hid (W4.out.below hb5)
  have X5 := Lib.hid (X4.out.below hb5)
  clear hb5
  go_wp2_with fail
  refine (LF.refs_any L n2 c1 HLL.out (by have := HL.out; have := HLL.out; omega) A1 _ Y5.out).mono ?_
  rintro r w6 ⟨A6, n6, c6, rfl, hn6, hx6, hb6⟩
  obtain rfl : n6 = n2 := by rw [hn6, HLL.out]
  have HS := Lib.hid (sameExts_yes L n6 c6 c2 hn6 (by have := HL.out; omega) A6 A2 w6 hx6 (Z5.out.below hb6))
  have B6 := Lib.hid (bkept B5.out hb6)
  have W6 := Lib.hid (W5.out.below hb6)
  have X6 := Lib.hid (X5.out.below hb6)
  clear hx6 hb6 hn6
  go_wp2_with fail
  refine HS.out.mono ?_
  rintro r w7 ⟨rfl, hb7⟩
  have B7 := Lib.hid (bkept B6.out hb7)
  have W7 := Lib.hid (W6.out.below hb7)
  have X7 := Lib.hid (X6.out.below hb7)
  clear hb7
  go_wp2_with fail
  refine (LF.krefs_any K n4 c3 HKK.out (by have := HK.out; have := HKK.out; omega) A3 _ W7.out).mono ?_
  rintro r w8 ⟨A8, n8, c8, rfl, hn8, hx8, hb8⟩
  obtain rfl : n8 = n4 := by rw [hn8, HKK.out]
  have HS2 := Lib.hid (same_yes K n8 c8 c4 hn8 (by have := HK.out; omega) A8 A4 w8 hx8 (X7.out.below hb8))
  have B8 := Lib.hid (bkept B7.out hb8)
  clear hx8 hb8 hn8
  go_wp2_with fail
  refine HS2.out.mono ?_
  rintro r w9 ⟨rfl, hb9⟩
  have B9 := Lib.hid (bkept B8.out hb9)
  clear hb9
  go_wp2
  go_ret
  exact ⟨rfl, B9.out⟩

theorem walk (a0 : ByteArray) (w : World) (w0 : a0.size ≤ 140737488351232) :
    Calls Try.prog 5 #[.string a0] w fun e w' => e = .returned (.bool true) ∧ Below w.heap.size w w' := by
  by_cases hbig : a0.size ≤ 2000
  · have hs : a0.data.toList.length ≤ 140737488351232 := by have : a0.data.toList.length = a0.size := Array.length_toList; omega
    obtain ⟨L, e, hL, h1⟩ := rd_some nE Exs exs_none a0.data.toList
    obtain ⟨K, f, hK, h2⟩ := rd_some nK Kds kds_none a0.data.toList
    exact alike a0 w hbig L e K f hL hK (Lib.hid fun w => (ReadLeaf_any _ hs w).mono fun r w' => h1 w r w') (Lib.hid fun w => (rReadLeaf_any _ hs w).mono fun r w' => h1 w r w') (Lib.hid fun w => (ReadInner_any _ hs w).mono fun r w' => h2 w r w') (Lib.hid fun w => (rReadInner_any _ hs w).mono fun r w' => h2 w r w')
  · exact big a0 w hbig

set_option maxRecDepth 100000 in
theorem lifted (os : Os) (started : os.Started) (H : Type) (enc : TypeId × Value → H) :
    ReturnsInHanded {} Try.checked os 5 .any (Rows.leafReadsSpec.pre6 enc Try.prog Try.f5 Rows.leafReadsRow.domain false) (Rows.leafReadsSpec.post enc Try.prog Try.f5 false true false false) := by
  refine returnsInHanded_of_change_sized (C := Try.checked) own started (by kernel_rfl) Try.func5
    (ChangeSpec.witness6 (enc := enc) (C := Try.checked) false ⟨#[], #[.string ByteArray.empty], []⟩ 8 (by kernel_rfl) (by kernel_rfl) (by kernel_rfl) (by kernel_rfl)) ?_
  intro W base args ds gs before hval0 hW hcnd hsz0 _
  have hval : ∀ (j : Nat) t v, Try.f5.params[j]? = some t → args[j]? = some v → Value.okWide Try.prog W .any base t v := hval0
  have hW' := hW
  obtain ⟨p, q, hA0, hV, rfl, hfz, hnd⟩ := hW
  have hA : DataW.TrodAll enc Try.prog W 0 (fun _ => true) true Try.f5.params.toList args.toList ds p := hA0
  have hsz : (DataW.weightsEach Try.prog (Try.f5.params.toList ++ Rows.leafReadsSpec.plain.varTypes Try.prog) (ds ++ gs)).all (· ≤ reachBytes) = true := hsz0
  rw [Try.params5] at hA hval hsz
  obtain ⟨v0, vs0, d0, ds0, p0, q0, hargs, rfl, rfl, h0, r0⟩ := trodAll_cons hA
  obtain ⟨rfl, rfl, rfl⟩ := trodAll_nil r0
  obtain rfl : args = #[v0] := by cases args; simp_all
  obtain ⟨rfl, rfl⟩ := trodVars_none hV
  obtain ⟨a0, rfl, rfl, rfl, m0⟩ := open_string Try.underlying9 (hval 0 9 v0 rfl rfl) h0
  have w0 : a0.size ≤ 140737488351232 := by have := sized_string hsz (j := 0) (t := 9) (bytes := a0.data.toList) rfl rfl; simpa [reachBytes] using this
  clear hA0 hval0 hsz0
  refine (walk a0 W w0).mono fun e W' ⟨he, bel⟩ => ?_
  subst he
  exact ⟨_, rfl, _, _, _, [], _, [], hW', trodAll_mk1 (shut_bool Try.underlying4 _), (trodAll_cons_mk (shut_string Try.underlying9 m0) trodAll_mk0), rfl, bel.frame _, fun h => by cases h⟩

theorem over : Rows.leafReadsRow.holds Try.pinned (OpenSpec.ofChange Rows.leafReadsSpec) :=
  OpenClaim.holds_of_wide 5 Try.f5 rfl rfl rfl rfl rfl rfl rfl ⟨rfl, rfl, rfl, rfl, rfl⟩ rfl rfl rfl rfl rfl (by kernel_rfl) Try.func5 (by kernel_rfl)
    (of_decide_eq_true (by kernel_rfl)) (by unfold Func.isWrapper; first | (rw [if_pos (by decide +kernel)]; kernel_rfl) | (rw [if_neg (by decide +kernel)]; exact ⟨rfl, rfl⟩))
    (fun os started H enc _ => lifted os started H enc)

theorem proved : Rows.LeafReadsSaid := over
#print axioms proved
end Go.Proofs.Ytmndbdkodijlbaa.leafReads
