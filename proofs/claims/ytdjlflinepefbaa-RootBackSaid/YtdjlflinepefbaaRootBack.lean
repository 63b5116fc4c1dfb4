/- The law RootBack holds: its Go text answers true for every input, and leaves its arguments as they were. No condition beyond the statement's own. -/
import Derived.Test.YtdjlflinepefbaaRows
import Derived.Test.YtdjlflinepefbaaRtP
import Derived.Test.YtdjlflinepefbaaRtQ
import Derived.Test.YtdjlflinepefbaaOpen12
import Derived.Test.YtdjlflinepefbaaOpen
import Derived.ProofKit
import Derived.OpenShut
import Derived.ShutString
import Derived.ChangeOld
import Derived.Below
import Derived.SizedLaws
namespace Go.Proofs.Ytdjlflinepefbaa.rootBack
open Go.ChangeShapes Go.WideShapes Go.ChangeAt Go.RowKit
open Go.ChangeMaps (open_string shut_string)
open Go.Proofs.Ytdjlflinepefbaa.FM
set_option linter.unusedVariables false
set_option linter.unusedSimpArgs false

theorem own : ownKnob Try.prog.godebug = none := by kernel_rfl
theorem laidOut : laidOutB Try.prog = true := by kernel_rfl

open MM EX OP RT FM

/-- A generation, a list and a sign that were handed back. -/
def Rd (L : List Ext) (g e : Int) (w : World) (r : Ending) (w' : World) : Prop :=
  ∃ A n c, r = .returned (.tuple #[.int .i64 g, .slice A n c, .int .i64 e]) ∧ n = L.length ∧ n ≤ c ∧ Exs w' A L ∧ Below w.heap.size w w'
theorem rd_good {s : List UInt8} {g : Int} {L : List Ext} (h : Says s g L) {w : World} {r : Ending} {w' : World} (x : REnd s w r w') : Rd L g 0 w r w' := by
  rcases x with ⟨g', M, A, n, c, h1, h2, h3, h6, h4, h5⟩ | ⟨h1, _⟩
  · obtain ⟨rfl, rfl⟩ := says_one h1 h
    exact ⟨A, n, c, h2, h3, h6, h4, h5⟩
  · exact absurd h (h1 g L)
theorem rd_bad {s : List UInt8} (h : ∀ g L, ¬ Says s g L) {w : World} {r : Ending} {w' : World} (x : REnd s w r w') : Rd [] 0 3 w r w' := by
  rcases x with ⟨g, M, A, n, c, h1, _⟩ | ⟨_, h2, h3⟩
  · exact absurd h1 (h g M)
  · exact ⟨none, 0, 0, h2, rfl, Nat.le_refl _, .inl rfl, h3⟩
theorem str_of (t : ByteArray) : str t.data.toList = t := rfl
theorem str_self (S : ByteArray) : (S.toList == S.toList) = true := by simp

theorem big (a0 : Int) (a1 : Option Addr) (len1 cap1 : Nat) (a2 : ByteArray) (w : World) (hbig : ¬ (len1 ≤ 60 ∧ a2.size ≤ 2000)) :
    Calls Try.prog 5 #[.int .i64 a0, .slice a1 len1 cap1, .string a2] w fun e w' => e = .returned (.bool true) ∧ Below w.heap.size w w' := by
  by_cases h0 : 60 < len1
  · have h0' : (60 : Int) < (len1 : Int) := by omega
    clear hbig h0
    go_enter Try.func5, Try.ntmps5
    go_wp2_with fail
    refine (RT.awake_any _).mono ?_
    rintro r w2 ⟨rfl, hb2⟩
    go_wp2
    go_ret
    exact ⟨rfl, hb2⟩
  · have h0' : decide ((60 : Int) < (len1 : Int)) = false := decide_eq_false (by omega)
    have h2' : (2000 : Int) < (a2.size : Int) := by omega
    clear hbig h0
    go_enter Try.func5, Try.ntmps5
    go_wp2_with fail
    refine (RT.awake_any _).mono ?_
    rintro r w2 ⟨rfl, hb2⟩
    go_wp2
    go_ret
    exact ⟨rfl, hb2⟩
set_option maxHeartbeats 8000000 in
theorem back0 (a0 : Int) (a1 : Option Addr) (len1 cap1 : Nat) (L1 : List EX.Ext) (a2 : ByteArray) (w : World) (hl1 : len1 = L1.length) (w1 : EX.Exs w a1 L1) (hs1 : len1 ≤ 60) (hs2 : a2.size ≤ 2000)
    (HA1 : Hid (∀ w1, Below w.heap.size w w1 → Calls Try.prog 11 #[.int .i64 a0, .slice a1 len1 cap1] w1 fun r w' => r = .returned (.tuple #[.string ⟨#[]⟩, .int .i64 1]) ∧ Below w1.heap.size w1 w'))
    (M0 : List EX.Ext) (g0 e0 : Int)
    (HC : Hid (∀ w, Calls Try.prog 14 #[.string a2] w (Rd M0 g0 e0 w)))
    (hE : (e0 = 0 ∧ Hid (∀ (w : World) A c, Exs w A M0 → Calls Try.prog 11 #[.int .i64 g0, .slice A M0.length c] w fun r w' => r = .returned (.tuple #[.string a2, .int .i64 0]) ∧ Below w.heap.size w w')) ∨ (e0 = 3 ∧ g0 = 0 ∧ M0 = [])) :
    Calls Try.prog 5 #[.int .i64 a0, .slice a1 len1 cap1, .string a2] w fun e w' => e = .returned (.bool true) ∧ Below w.heap.size w w' := by
  have hf1 : decide ((60 : Int) < (len1 : Int)) = false := decide_eq_false (by omega)
  have hf2 : ¬ (2000 : Int) < (a2.size : Int) := by omega
  have hself := str_self a2
  have HK := Lib.hid hl1
  have HS1 := Lib.hid hs1
  have K0 := Lib.hid w1
  obtain ⟨m0, hm0⟩ : ∃ m, m = M0.length := ⟨_, rfl⟩
  have HM0 := Lib.hid hm0
  rw [← hm0] at hE
  clear hs1 hs2 hl1 w1 hm0
  go_enter Try.func5, Try.ntmps5
  go_wp2_with fail
  refine (HA1.out _ (Below.refl _ _)).mono ?_
  rintro r u1 ⟨rfl, hb1⟩
  have B1 := Lib.hid hb1
  clear hb1
  go_wp2_with fail
  refine (HC.out _).mono ?_
  rintro r y1 ⟨A8, n8, c8, rfl, hn8, _, hx8, hb8⟩
  obtain rfl : n8 = m0 := by rw [hn8, HM0.out]
  have X8 := Lib.hid hx8
  have D1 := Lib.hid (bkept B1.out hb8)
  clear hx8 hb8 hn8
  rcases hE with ⟨rfl, HW⟩ | ⟨rfl, rfl, rfl⟩
  · have hg : Hid True := Lib.hid trivial
    go_wp2_with fail
    refine (HW.out _ _ _ X8.out).mono ?_
    rintro r y2 ⟨rfl, hb9⟩
    have D2 := Lib.hid (bkept D1.out hb9)
    clear hb9
    go_wp2_with fail
    refine (RT.awake_any _).mono ?_
    rintro r y3 ⟨rfl, hb9⟩
    have D3 := Lib.hid (bkept D2.out hb9)
    clear hb9
    go_wp2
    go_ret
    exact ⟨by simp, D3.out⟩
  · have hm : n8 = 0 := by rw [HM0.out]; rfl
    subst hm
    go_wp2_with fail
    refine (RT.awake_any _).mono ?_
    rintro r y3 ⟨rfl, hb9⟩
    have D3 := Lib.hid (bkept D1.out hb9)
    clear hb9
    go_wp2
    go_ret
    exact ⟨by simp, D3.out⟩
set_option maxHeartbeats 8000000 in
theorem back1 (a0 : Int) (a1 : Option Addr) (len1 cap1 : Nat) (L1 : List EX.Ext) (a2 : ByteArray) (w : World) (hl1 : len1 = L1.length) (w1 : EX.Exs w a1 L1) (hs1 : len1 ≤ 60) (hs2 : a2.size ≤ 2000)
    (S0 : ByteArray) (HA1 : Hid (∀ w1, Below w.heap.size w w1 → Calls Try.prog 11 #[.int .i64 a0, .slice a1 len1 cap1] w1 fun r w' => r = .returned (.tuple #[.string S0, .int .i64 0]) ∧ Below w1.heap.size w1 w'))
    (HA2 : Hid (∀ w1, Calls Try.prog 14 #[.string S0] w1 (Rd L1 a0 0 w1)))
    (M0 : List EX.Ext) (g0 e0 : Int)
    (HC : Hid (∀ w, Calls Try.prog 14 #[.string a2] w (Rd M0 g0 e0 w)))
    (hE : (e0 = 0 ∧ Hid (∀ (w : World) A c, Exs w A M0 → Calls Try.prog 11 #[.int .i64 g0, .slice A M0.length c] w fun r w' => r = .returned (.tuple #[.string a2, .int .i64 0]) ∧ Below w.heap.size w w')) ∨ (e0 = 3 ∧ g0 = 0 ∧ M0 = [])) :
    Calls Try.prog 5 #[.int .i64 a0, .slice a1 len1 cap1, .string a2] w fun e w' => e = .returned (.bool true) ∧ Below w.heap.size w w' := by
  have hf1 : decide ((60 : Int) < (len1 : Int)) = false := decide_eq_false (by omega)
  have hf2 : ¬ (2000 : Int) < (a2.size : Int) := by omega
  have hself := str_self a2
  have HK := Lib.hid hl1
  have HS1 := Lib.hid hs1
  have K0 := Lib.hid w1
  obtain ⟨m0, hm0⟩ : ∃ m, m = M0.length := ⟨_, rfl⟩
  have HM0 := Lib.hid hm0
  rw [← hm0] at hE
  clear hs1 hs2 hl1 w1 hm0
  go_enter Try.func5, Try.ntmps5
  go_wp2_with fail
  refine (HA1.out _ (Below.refl _ _)).mono ?_
  rintro r u1 ⟨rfl, hb1⟩
  have B1 := Lib.hid hb1
  clear hb1
  go_wp2_with fail
  refine (HA2.out _).mono ?_
  rintro r u2 ⟨A2, n2, c2, rfl, hn2, _, hx2, hb2⟩
  obtain rfl : n2 = len1 := by rw [hn2, HK.out]
  have X2 := Lib.hid hx2
  have B2 := Lib.hid (bkept B1.out hb2)
  clear hx2 hb2 hn2
  go_wp2_with fail
  refine (RT.refs_any L1 n2 c2 HK.out (by have := HS1.out; omega) A2 _ X2.out).mono ?_
  rintro r u3 ⟨A3, n3, c3, rfl, hn3, hx3, hb3⟩
  obtain rfl : n3 = n2 := by rw [hn3, HK.out]
  have X3 := Lib.hid hx3
  have B3 := Lib.hid (bkept B2.out hb3)
  clear hx3 hb3 hn3
  go_wp2_with fail
  refine (RT.refs_any L1 n3 cap1 HK.out (by have := HS1.out; omega) a1 _ (K0.out.below B3.out)).mono ?_
  rintro r u4 ⟨A4, n4, c4, rfl, hn4, hx4, hb4⟩
  obtain rfl : n4 = n3 := by rw [hn4, HK.out]
  have HSM := Lib.hid (same_yes L1 n4 c3 c4 hn4 (by have := HS1.out; omega) A3 A4 u4 (X3.out.below hb4) hx4)
  have B4 := Lib.hid (bkept B3.out hb4)
  clear hx4 hb4 hn4
  go_wp2_with fail
  refine HSM.out.mono ?_
  rintro r u5 ⟨rfl, hb5⟩
  have B5 := Lib.hid (bkept B4.out hb5)
  clear hb5
  go_wp2_with fail
  refine (HC.out _).mono ?_
  rintro r y1 ⟨A8, n8, c8, rfl, hn8, _, hx8, hb8⟩
  obtain rfl : n8 = m0 := by rw [hn8, HM0.out]
  have X8 := Lib.hid hx8
  have D1 := Lib.hid (bkept B5.out hb8)
  clear hx8 hb8 hn8
  rcases hE with ⟨rfl, HW⟩ | ⟨rfl, rfl, rfl⟩
  · have hg : Hid True := Lib.hid trivial
    go_wp2_with fail
    refine (HW.out _ _ _ X8.out).mono ?_
    rintro r y2 ⟨rfl, hb9⟩
    have D2 := Lib.hid (bkept D1.out hb9)
    clear hb9
    go_wp2_with fail
    refine (RT.awake_any _).mono ?_
    rintro r y3 ⟨rfl, hb9⟩
    have D3 := Lib.hid (bkept D2.out hb9)
    clear hb9
    go_wp2
    go_ret
    exact ⟨by simp, D3.out⟩
  · have hm : n8 = 0 := by rw [HM0.out]; rfl
    subst hm
    go_wp2_with fail
    refine (RT.awake_any _).mono ?_
    rintro r y3 ⟨rfl, hb9⟩
    have D3 := Lib.hid (bkept D1.out hb9)
    clear hb9
    go_wp2
    go_ret
    exact ⟨by simp, D3.out⟩

theorem walk (a0 : Int) (a1 : Option Addr) (len1 cap1 : Nat) (L1 : List EX.Ext) (a2 : ByteArray) (w : World) (w0 : (Lit.int .i64 a0).wf = true) (hl1 : len1 = L1.length) (lm1 : len1 ≤ maxLen) (w1 : EX.Exs w a1 L1) (wf1 : ∀ e ∈ L1, OP.WfS e) (w2 : a2.size ≤ 140737488351232) :
    Calls Try.prog 5 #[.int .i64 a0, .slice a1 len1 cap1, .string a2] w fun e w' => e = .returned (.bool true) ∧ Below w.heap.size w w' := by
  by_cases hbig : len1 ≤ 60 ∧ a2.size ≤ 2000
  · obtain ⟨hs1, hs2⟩ := hbig
    have hs : a2.data.toList.length ≤ 140737488351232 := by have : a2.data.toList.length = a2.size := Array.length_toList; omega
    obtain ⟨M0, g0, e0, hC, hE⟩ : ∃ M0 g0 e0, (∀ w, Calls Try.prog 14 #[.string a2] w (Rd M0 g0 e0 w)) ∧ ((e0 = 0 ∧ Hid (∀ (w : World) A c, Exs w A M0 → Calls Try.prog 11 #[.int .i64 g0, .slice A M0.length c] w fun r w' => r = .returned (.tuple #[.string a2, .int .i64 0]) ∧ Below w.heap.size w w')) ∨ (e0 = 3 ∧ g0 = 0 ∧ M0 = [])) := by
      by_cases h : ∃ g L, Says a2.data.toList g L
      · obtain ⟨g, L, h⟩ := h
        refine ⟨L, g, 0, fun w => (Read_any _ hs w).mono fun r w' x => rd_good h x, .inl ⟨rfl, Lib.hid fun w A c hx => ?_⟩⟩
        have := Write_ok g L L.length c rfl A w hx h.1
        rwa [show recB g L = a2.data.toList from h.2] at this
      · exact ⟨[], 0, 3, fun w => (Read_any _ hs w).mono fun r w' x => rd_bad (fun g L x => h ⟨g, L, x⟩) x, .inr ⟨rfl, rfl, rfl⟩⟩
    by_cases hv : Recd a0 L1
    · have a1_ : Hid (∀ u, Below w.heap.size w u → Calls Try.prog 11 #[.int .i64 a0, .slice a1 len1 cap1] u fun r w' => r = .returned (.tuple #[.string (str (recB a0 L1)), .int .i64 0]) ∧ Below u.heap.size u w') := Lib.hid fun u hu => Write_ok a0 L1 len1 cap1 hl1 a1 u (w1.below hu) hv
      have a2_ : Hid (∀ u, Calls Try.prog 14 #[.string (str (recB a0 L1))] u (Rd L1 a0 0 u)) := Lib.hid fun u => (Read_any (recB a0 L1) (by rw [recB_len]; have := hv.2.1; omega) u).mono fun r w' x => rd_good ⟨hv, rfl⟩ x
      exact back1 a0 a1 len1 cap1 L1 a2 w hl1 w1 hs1 hs2 _ a1_ a2_ M0 g0 e0 (Lib.hid hC) hE
    · have a1_ : Hid (∀ u, Below w.heap.size w u → Calls Try.prog 11 #[.int .i64 a0, .slice a1 len1 cap1] u fun r w' => r = .returned (.tuple #[.string ⟨#[]⟩, .int .i64 1]) ∧ Below u.heap.size u w') := Lib.hid fun u hu => Write_no a0 L1 len1 cap1 hl1 a1 u (w1.below hu) hv
      exact back0 a0 a1 len1 cap1 L1 a2 w hl1 w1 hs1 hs2 a1_ M0 g0 e0 (Lib.hid hC) hE
  · exact big a0 a1 len1 cap1 a2 w hbig

set_option maxRecDepth 100000 in
theorem lifted (os : Os) (started : os.Started) (H : Type) (enc : TypeId × Value → H) :
    ReturnsInHanded {} Try.checked os 5 .any (Rows.rootBackSpec.pre6 enc Try.prog Try.f5 Rows.rootBackRow.domain false) (Rows.rootBackSpec.post enc Try.prog Try.f5 false true false false) := by
  refine returnsInHanded_of_change_sized (C := Try.checked) own started (by kernel_rfl) Try.func5
    (ChangeSpec.witness6 (enc := enc) (C := Try.checked) false ⟨#[], #[.int .i64 0, .slice none 0 0, .string ByteArray.empty], []⟩ 8 (by kernel_rfl) (by kernel_rfl) (by kernel_rfl) (by kernel_rfl)) ?_
  intro W base args ds gs before hval0 hW hcnd hsz0 _
  have hval : ∀ (j : Nat) t v, Try.f5.params[j]? = some t → args[j]? = some v → Value.okWide Try.prog W .any base t v := hval0
  have hW' := hW
  obtain ⟨p, q, hA0, hV, rfl, hfz, hnd⟩ := hW
  have hA : DataW.TrodAll enc Try.prog W 0 (fun _ => true) true Try.f5.params.toList args.toList ds p := hA0
  have hsz : (DataW.weightsEach Try.prog (Try.f5.params.toList ++ Rows.rootBackSpec.plain.varTypes Try.prog) (ds ++ gs)).all (· ≤ reachBytes) = true := hsz0
  rw [Try.params5] at hA hval hsz
  obtain ⟨v0, vs0, d0, ds0, p0, q0, hargs, rfl, rfl, h0, r0⟩ := trodAll_cons hA
  obtain ⟨v1, vs1, d1, ds1, p1, q1, rfl, rfl, rfl, h1, r1⟩ := trodAll_cons r0
  obtain ⟨v2, vs2, d2, ds2, p2, q2, rfl, rfl, rfl, h2, r2⟩ := trodAll_cons r1
  obtain ⟨rfl, rfl, rfl⟩ := trodAll_nil r2
  obtain rfl : args = #[v0, v1, v2] := by cases args; simp_all
  obtain ⟨rfl, rfl⟩ := trodVars_none hV
  obtain ⟨a0, rfl, rfl, rfl, w0⟩ := open_int Try.underlying3 (hval 0 3 v0 rfl rfl) h0
  have k1 := h1
  have lt1 : ∀ x ∈ p1, x.block < W.heap.size := by obtain ⟨m, hm⟩ := k1; exact DataW.trod_lt m _ _ _ hm
  obtain ⟨a1, len1, cap1, L1, rfl, hl1, lm1, w1, wf1⟩ := OP.open_spaces (hval 1 22 v1 rfl rfl) h1
  obtain ⟨a2, rfl, rfl, rfl, m2⟩ := open_string Try.underlying9 (hval 2 9 v2 rfl rfl) h2
  have w2 : a2.size ≤ 140737488351232 := by have := sized_string hsz (j := 2) (t := 9) (bytes := a2.data.toList) rfl rfl; simpa [reachBytes] using this
  clear hA0 hval0 hsz0
  refine (walk a0 a1 len1 cap1 L1 a2 W w0 hl1 lm1 w1 wf1 w2).mono fun e W' ⟨he, bel⟩ => ?_
  subst he
  exact ⟨_, rfl, _, _, _, [], _, [], hW', trodAll_mk1 (shut_bool Try.underlying4 _), (trodAll_cons_mk (shut_int Try.underlying3 w0) (trodAll_cons_mk (Below.trod laidOut (by kernel_rfl) (of_decide_eq_true (by kernel_rfl)) k1 bel lt1) (trodAll_cons_mk (shut_string Try.underlying9 m2) trodAll_mk0))), rfl, bel.frame _, fun h => by cases h⟩

theorem over : Rows.rootBackRow.holds Try.pinned (OpenSpec.ofChange Rows.rootBackSpec) :=
  OpenClaim.holds_of_wide 5 Try.f5 rfl rfl rfl rfl rfl rfl rfl ⟨rfl, rfl, rfl, rfl, rfl⟩ rfl rfl rfl rfl rfl (by kernel_rfl) Try.func5 (by kernel_rfl)
    (of_decide_eq_true (by kernel_rfl)) (by unfold Func.isWrapper; first | (rw [if_pos (by decide +kernel)]; kernel_rfl) | (rw [if_neg (by decide +kernel)]; exact ⟨rfl, rfl⟩))
    (fun os started H enc _ => lifted os started H enc)

theorem proved : Rows.RootBackSaid := over
#print axioms proved
end Go.Proofs.Ytdjlflinepefbaa.rootBack
