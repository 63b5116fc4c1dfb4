/- The law RootReads holds: its Go text answers true for every input, and leaves its arguments as they were. No condition beyond the statement's own. -/
import Derived.Test.YtdjlflinepefbaaRows
import Derived.Test.YtdjlflinepefbaaRtP
import Derived.Test.YtdjlflinepefbaaRtQ
import Derived.Test.YtdjlflinepefbaaOpen12
import Derived.Test.YtdjlflinepefbaaOpen
import Derived.ProofKit
import Derived.OpenShut
import Derived.ShutString
import Derived.ChangeOld
import Derived.Below
import Derived.SizedLaws
namespace Go.Proofs.Ytdjlflinepefbaa.rootReads
open Go.ChangeShapes Go.WideShapes Go.ChangeAt Go.RowKit
open Go.ChangeMaps (open_string shut_string)
open Go.Proofs.Ytdjlflinepefbaa.FM
set_option linter.unusedVariables false
set_option linter.unusedSimpArgs false

theorem own : ownKnob Try.prog.godebug = none := by kernel_rfl
theorem laidOut : laidOutB Try.prog = true := by kernel_rfl

open MM EX OP RT FM

/-- A generation, a list and a sign that were handed back. -/
def Rd (L : List Ext) (g e : Int) (w : World) (r : Ending) (w' : World) : Prop :=
  ∃ A n c, r = .returned (.tuple #[.int .i64 g, .slice A n c, .int .i64 e]) ∧ n = L.length ∧ n ≤ c ∧ Exs w' A L ∧ Below w.heap.size w w'
theorem rd_good {s : List UInt8} {g : Int} {L : List Ext} (h : Says s g L) {w : World} {r : Ending} {w' : World} (x : REnd s w r w') : Rd L g 0 w r w' := by
  rcases x with ⟨g', M, A, n, c, h1, h2, h3, h6, h4, h5⟩ | ⟨h1, _⟩
  · obtain ⟨rfl, rfl⟩ := says_one h1 h
    exact ⟨A, n, c, h2, h3, h6, h4, h5⟩
  · exact absurd h (h1 g L)
theorem rd_bad {s : List UInt8} (h : ∀ g L, ¬ Says s g L) {w : World} {r : Ending} {w' : World} (x : REnd s w r w') : Rd [] 0 3 w r w' := by
  rcases x with ⟨g, M, A, n, c, h1, _⟩ | ⟨_, h2, h3⟩
  · exact absurd h1 (h g M)
  · exact ⟨none, 0, 0, h2, rfl, Nat.le_refl _, .inl rfl, h3⟩
theorem str_of (t : ByteArray) : str t.data.toList = t := rfl
theorem str_self (S : ByteArray) : (S.toList == S.toList) = true := by simp

theorem big (a0 : ByteArray) (w : World) (hbig : ¬ a0.size ≤ 2000) :
    Calls Try.prog 4 #[.string a0] w fun e w' => e = .returned (.bool true) ∧ Below w.heap.size w w' := by
  have hf : (2000 : Int) < (a0.size : Int) := by omega
  clear hbig
  go_enter Try.func4, Try.ntmps4
  go_wp2_with fail
  refine (RT.awake_any _).mono ?_
  rintro r w2 ⟨rfl, hb2⟩
  go_wp2
  go_ret
  exact ⟨rfl, hb2⟩

set_option maxHeartbeats 4000000 in
theorem alike (a0 : ByteArray) (w : World) (hs : a0.size ≤ 2000) (L : List EX.Ext) (g e : Int) (hL : L.length ≤ 8)
    (H1 : Hid (∀ w, Calls Try.prog 14 #[.string a0] w (Rd L g e w)))
    (H2 : Hid (∀ w, Calls Try.prog 15 #[.string a0] w (Rd L g e w))) :
    Calls Try.prog 4 #[.string a0] w fun e w' => e = .returned (.bool true) ∧ Below w.heap.size w w' := by
  have hf : ¬ (2000 : Int) < (a0.size : Int) := by omega
  have HL := Lib.hid hL
  obtain ⟨l, hl⟩ : ∃ l, l = L.length := ⟨_, rfl⟩
  have HLL := Lib.hid hl
  clear hs hL hl
  go_enter Try.func4, Try.ntmps4
  go_wp2_with fail
  refine (H1.out _).mono ?_
  rintro r w1 ⟨A1, n1, c1, rfl, hn1, _, hx1, hb1⟩
  obtain rfl : n1 = l := by rw [hn1, HLL.out]
  have X1 := Lib.hid hx1
  have B1 := Lib.hid hb1
  clear hx1 hb1 hn1
  go_wp2_with fail
  refine (H2.out _).mono ?_
  rintro r w2 ⟨A2, n2, c2, rfl, hn2, _, hx2, hb2⟩
  obtain rfl : n2 = n1 := by rw [hn2, HLL.out]
  have X2 := Lib.hid hx2
  have Y2 := Lib.hid (X1.out.below hb2)
  have B2 := Lib.hid (bkept B1.out hb2)
  clear hx2 hb2 hn2
  go_wp2_with fail
  refine (RT.awake_any _).mono ?_
  rintro r w5 ⟨rfl, hb5⟩
  have B5 := Lib.hid (bkept B2.out hb5)
  have Y5 := Lib.hid (Y2.out.below hb5)
  have X5 := Lib.hid (X2.out.below hb5)
  clear hb5
  go_wp2_with fail
  refine (RT.refs_any L n2 c1 HLL.out (by have := HL.out; have := HLL.out; omega) A1 _ Y5.out).mono ?_
  rintro r w6 ⟨A6, n6, c6, rfl, hn6, hx6, hb6⟩
  obtain rfl : n6 = n2 := by rw [hn6, HLL.out]
  have HS := Lib.hid (same_yes L n6 c6 c2 hn6 (by have := HL.out; omega) A6 A2 w6 hx6 (X5.out.below hb6))
  have B6 := Lib.hid (bkept B5.out hb6)
  clear hx6 hb6 hn6
  go_wp2_with fail
  refine HS.out.mono ?_
  rintro r w7 ⟨rfl, hb7⟩
  have B7 := Lib.hid (bkept B6.out hb7)
  clear hb7
  go_wp2
  go_ret
  exact ⟨by simp, B7.out⟩

theorem walk (a0 : ByteArray) (w : World) (w0 : a0.size ≤ 140737488351232) :
    Calls Try.prog 4 #[.string a0] w fun e w' => e = .returned (.bool true) ∧ Below w.heap.size w w' := by
  by_cases hbig : a0.size ≤ 2000
  · have hs : a0.data.toList.length ≤ 140737488351232 := by have : a0.data.toList.length = a0.size := Array.length_toList; omega
    by_cases h : ∃ g L, Says a0.data.toList g L
    · obtain ⟨g, L, h⟩ := h
      exact alike a0 w hbig L g 0 (says_len h).2 (Lib.hid fun w => (Read_any _ hs w).mono fun r w' x => rd_good h x) (Lib.hid fun w => (rRead_any _ hs w).mono fun r w' x => rd_good h x)
    · have h' : ∀ g L, ¬ Says a0.data.toList g L := fun g L x => h ⟨g, L, x⟩
      exact alike a0 w hbig [] 0 3 (by simp) (Lib.hid fun w => (Read_any _ hs w).mono fun r w' x => rd_bad h' x) (Lib.hid fun w => (rRead_any _ hs w).mono fun r w' x => rd_bad h' x)
  · exact big a0 w hbig

set_option maxRecDepth 100000 in
theorem lifted (os : Os) (started : os.Started) (H : Type) (enc : TypeId × Value → H) :
    ReturnsInHanded {} Try.checked os 4 .any (Rows.rootReadsSpec.pre6 enc Try.prog Try.f4 Rows.rootReadsRow.domain false) (Rows.rootReadsSpec.post enc Try.prog Try.f4 false true false false) := by
  refine returnsInHanded_of_change_sized (C := Try.checked) own started (by kernel_rfl) Try.func4
    (ChangeSpec.witness6 (enc := enc) (C := Try.checked) false ⟨#[], #[.string ByteArray.empty], []⟩ 8 (by kernel_rfl) (by kernel_rfl) (by kernel_rfl) (by kernel_rfl)) ?_
  intro W base args ds gs before hval0 hW hcnd hsz0 _
  have hval : ∀ (j : Nat) t v, Try.f4.params[j]? = some t → args[j]? = some v → Value.okWide Try.prog W .any base t v := hval0
  have hW' := hW
  obtain ⟨p, q, hA0, hV, rfl, hfz, hnd⟩ := hW
  have hA : DataW.TrodAll enc Try.prog W 0 (fun _ => true) true Try.f4.params.toList args.toList ds p := hA0
  have hsz : (DataW.weightsEach Try.prog (Try.f4.params.toList ++ Rows.rootReadsSpec.plain.varTypes Try.prog) (ds ++ gs)).all (· ≤ reachBytes) = true := hsz0
  rw [Try.params4] at hA hval hsz
  obtain ⟨v0, vs0, d0, ds0, p0, q0, hargs, rfl, rfl, h0, r0⟩ := trodAll_cons hA
  obtain ⟨rfl, rfl, rfl⟩ := trodAll_nil r0
  obtain rfl : args = #[v0] := by cases args; simp_all
  obtain ⟨rfl, rfl⟩ := trodVars_none hV
  obtain ⟨a0, rfl, rfl, rfl, m0⟩ := open_string Try.underlying9 (hval 0 9 v0 rfl rfl) h0
  have w0 : a0.size ≤ 140737488351232 := by have := sized_string hsz (j := 0) (t := 9) (bytes := a0.data.toList) rfl rfl; simpa [reachBytes] using this
  clear hA0 hval0 hsz0
  refine (walk a0 W w0).mono fun e W' ⟨he, bel⟩ => ?_
  subst he
  exact ⟨_, rfl, _, _, _, [], _, [], hW', trodAll_mk1 (shut_bool Try.underlying4 _), (trodAll_cons_mk (shut_string Try.underlying9 m0) trodAll_mk0), rfl, bel.frame _, fun h => by cases h⟩

theorem over : Rows.rootReadsRow.holds Try.pinned (OpenSpec.ofChange Rows.rootReadsSpec) :=
  OpenClaim.holds_of_wide 4 Try.f4 rfl rfl rfl rfl rfl rfl rfl ⟨rfl, rfl, rfl, rfl, rfl⟩ rfl rfl rfl rfl rfl (by kernel_rfl) Try.func4 (by kernel_rfl)
    (of_decide_eq_true (by kernel_rfl)) (by unfold Func.isWrapper; first | (rw [if_pos (by decide +kernel)]; kernel_rfl) | (rw [if_neg (by decide +kernel)]; exact ⟨rfl, rfl⟩))
    (fun os started H enc _ => lifted os started H enc)

theorem proved : Rows.RootReadsSaid := over
#print axioms proved
end Go.Proofs.Ytdjlflinepefbaa.rootReads
