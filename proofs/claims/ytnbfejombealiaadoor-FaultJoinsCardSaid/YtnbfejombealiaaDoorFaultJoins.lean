/- The law FaultJoins holds: its Go text answers true for every input, and leaves its arguments as they were. No condition beyond the statement's own (errors.errorType holds what start-up lays; the card ties it to the program's text). -/
import Derived.Test.YtnbfejombealiaaDoorRows
import Derived.Test.YtnbfejombealiaaDoorCards
import Derived.Test.YtnbfejombealiaaDoorTie
import Derived.Test.YtnbfejombealiaaDoorOpen3
import Derived.Test.YtnbfejombealiaaDoorAwake3
import Derived.Test.YtnbfejombealiaaDoorFHas
import Derived.Test.YtnbfejombealiaaDoorFJoin
import Derived.WalkSpells
import Derived.WalkLawsBesides
import Derived.Outline
import Derived.Deep.AppendLies
import Derived.BigQuiet
import Derived.Deep.QuietTactic
import Derived.ProofKit
import Derived.OpenShut
import Derived.ShutString
import Derived.ChangeOld
import Derived.ChangeSame
import Derived.ChangeVars
import Derived.Below
import Derived.SizedLaws
import Derived.JoinedOf
import Derived.RowKitTokens
import Derived.LaidLaws
import Derived.LaidHandle
import Derived.LaidMore
import Derived.Stop.Joined
import Derived.SevenTiedAt
namespace Go.Proofs.YtnbfejombealiaaDoor.faultJoins
open Go.ChangeShapes Go.WideShapes Go.ChangeAt Go.RowKit
open Go.ChangeMaps (open_string shut_string)
open Go.Proofs.YtnbfejombealiaaDoor
set_option linter.unusedVariables false
set_option linter.unusedSimpArgs false

theorem own : ownKnob Tryd.prog.godebug = none := by kernel_rfl
theorem laidOut : laidOutB Tryd.prog = true := by kernel_rfl
theorem et : Tryd.prog.globalNamed "errors.errorType" = some 0 := by kernel_rfl
theorem rt : (Tryd.prog.cutTypes.find? (·.1 == "internal/reflectlite.rtype")).map (·.2) = some 84 := by kernel_rfl
theorem oneRow : ((List.range 128).filter fun t => Tryd.prog.rowNamed t [101, 114, 114, 111, 114]) = [26] := by kernel_rfl
theorem tsize : Tryd.prog.types.size = 128 := by kernel_rfl
/-- What the condition gives the walk. -/
theorem handle_of_laid {W : World} (h : laidMetH Tryd.prog [("errors.errorType", Rows.laid_errors_errorType)] W) : ER.ErrorType W := by
  have h' : laidMet Tryd.prog [] W ∧ handlesMet Tryd.prog [("errors.errorType", Rows.laid_errors_errorType)] W := h
  obtain ⟨name, u, ty, e1, e2, e3, e4, e5⟩ := h'.2 _ (List.mem_singleton.2 rfl)
  have en : name = [101, 114, 114, 111, 114] := (Option.some.inj e1).symm
  subst en
  obtain rfl := Option.some.inj (rt.symm.trans e2)
  have hm : ty ∈ (List.range 128).filter fun t => Tryd.prog.rowNamed t [101, 114, 114, 111, 114] := List.mem_filter.2 ⟨List.mem_range.2 (by rw [← tsize]; exact e3), e4⟩
  rw [oneRow] at hm
  obtain rfl := List.mem_singleton.1 hm
  have hh : typeHandle Tryd.prog 26 = .pointer (some ⟨1, 26, none⟩) := by kernel_rfl
  rw [hh] at e5
  have := World.var?_cell et e5 0
  unfold ER.ErrorType
  simpa using this
/-- A world that meets the condition: the settled one, the variable's cell laid. -/
noncomputable def laidWorld (os : Os) : World :=
  let w0 := World.holding Tryd.prog os ⟨#[], #[], []⟩
  { w0 with heap := w0.heap.modify 0 fun
      | .cells _ t frozen => .cells #[.iface 84 (.agg #[.pointer (some ⟨1, 26, none⟩)])] t frozen
      | o => o }
theorem laidWorld_met (os : Os) (args : Array Value) : laidMetH Tryd.prog [("errors.errorType", Rows.laid_errors_errorType)] ((laidWorld os).forCall (fun _ _ => 0) ⟨#[], args, []⟩).memory :=
  laidMetH_of_parts (laidMet_nil _ _) (by kernel_rfl)

open ER MM OP

def someN (C : Nat → Int) (k : Nat) : Bool := (List.range k).any fun i => C i != 0
def firstN (C : Nat → Int) (k : Nat) : Int := ((List.range k).find? fun i => C i != 0).elim 0 C
theorem someN_no {C : Nat → Int} {k : Nat} (h : C k = 0) : someN C (k + 1) = someN C k := by simp [someN, List.range_succ, h]
theorem someN_yes {C : Nat → Int} {k : Nat} (h : C k ≠ 0) : someN C (k + 1) = true := by simp [someN, List.range_succ, h]
theorem firstN_no {C : Nat → Int} {k : Nat} (h : C k = 0) : firstN C (k + 1) = firstN C k := by
  simp [firstN, List.range_succ, List.find?_append, h]
theorem firstN_old {C : Nat → Int} {k : Nat} (h : someN C k = true) : firstN C (k + 1) = firstN C k := by
  unfold firstN
  rw [List.range_succ, List.find?_append]
  cases hf : (List.range k).find? (fun i => C i != 0) with
  | some i => rfl
  | none =>
    exfalso
    obtain ⟨i, hi, hx⟩ := List.any_eq_true.1 h
    exact absurd hx (by simpa using List.find?_eq_none.1 hf i hi)
theorem firstN_new {C : Nat → Int} {k : Nat} (h : C k ≠ 0) (hs : someN C k = false) : firstN C (k + 1) = C k := by
  unfold firstN
  rw [List.range_succ, List.find?_append]
  have hf : (List.range k).find? (fun i => C i != 0) = none := by
    refine List.find?_eq_none.2 fun i hi hx => ?_
    have := List.any_eq_false.1 hs i hi
    exact this hx
  rw [hf]
  simp [h]

/-- How a row that was appended to lies beside what was there. -/
theorem asd_lies {w w' : World} {o : Obj} {own : Option Nat} {g H : Nat} (hg : (w.alloc o).grownBy w' own) (hat : own = some g ∨ g = H) (hH : w.heap.size ≤ H) :
    (∀ b, Asd w own b → Asd w' (some g) b) ∧ ∀ b, Asd w own b → w'.heap[b]? = w.heap[b]? := by
  have h1 := asd_below (w := w) (w' := w.alloc o) (own := own) ((Below.refl _ _).alloc (Nat.le_refl _) _)
  have hs : w.heap.size ≤ (w.alloc o).heap.size := by simp
  refine ⟨fun b hb => ⟨Nat.lt_of_lt_of_le hb.1 (Nat.le_trans hs hg.size), fun e => ?_⟩, fun b hb => ?_⟩
  · injection e with e
    subst e
    rcases hat with h | h
    · exact hb.2 h.symm
    · have := hb.1; omega
  · have hb' := h1.1 b hb
    exact (hg.block b hb'.1 hb'.2).trans (h1.2 b hb)

/-- The error that stands at the place i. -/
def errAt (C : Nat → Int) (i : Nat) : Er := .fault ⟨#[106]⟩ (i : Int) (.num (C i))
def Good (C : Nat → Int) (w : World) (own : Option Nat) (k : Nat) (xs : List Value) : Prop :=
  ∀ i, i < k → ∃ x, xs[i]? = some x ∧ (C i = 0 → x = .nilIface) ∧ (C i ≠ 0 → IsErrP w (Asd w own) (errAt C i) x)
theorem Good.step {C : Nat → Int} {w w' : World} {own own' : Option Nat} {k : Nat} {xs : List Value} (h : Good C w own k xs) (hl : xs.length = k) (x : Value)
    (ha : ∀ b, Asd w own b → Asd w' own' b) (hk : ∀ b, Asd w own b → w'.heap[b]? = w.heap[b]?) (h0 : C k = 0 → x = .nilIface) (h1 : C k ≠ 0 → IsErrP w' (Asd w' own') (errAt C k) x) : Good C w' own' (k + 1) (xs ++ [x]) := by
  intro i hi
  by_cases hik : i = k
  · subst hik
    exact ⟨x, by rw [List.getElem?_append_right (by omega), hl]; simp, h0, h1⟩
  · obtain ⟨y, hy, g0, g1⟩ := h i (by omega)
    exact ⟨y, by rw [List.getElem?_append_left (by omega)]; exact hy, g0, fun hc => IsErrP.more ha (IsErrP.keep hk (g1 hc))⟩

/-- The places of those that are errors. -/
def nzs (C : Nat → Int) (n : Nat) : List Nat := (List.range n).filter fun i => C i != 0
theorem nzs_map (l : List Nat) : l = (List.range l.length).map fun j => l.getD j 0 := by
  refine List.ext_getElem (by simp) fun i h1 h2 => ?_
  simp [List.getD, h1]
theorem nzs_first {C : Nat → Int} {n : Nat} (h : someN C n = true) : 0 < (nzs C n).length ∧ C ((nzs C n).getD 0 0) = firstN C n := by
  have hne : nzs C n ≠ [] := by
    obtain ⟨i, hi, hx⟩ := List.any_eq_true.1 h
    intro e
    have : i ∈ nzs C n := List.mem_filter.2 ⟨hi, hx⟩
    rw [e] at this
    cases this
  obtain ⟨a, l, hal⟩ : ∃ a l, nzs C n = a :: l := by
    cases hq : nzs C n with
    | nil => exact absurd hq hne
    | cons a l => exact ⟨a, l, rfl⟩
  refine ⟨by rw [hal]; simp, ?_⟩
  have hf : (List.range n).find? (fun i => C i != 0) = some a := by
    rw [← List.head?_filter]
    show (nzs C n).head? = _
    rw [hal]; rfl
  unfold firstN
  rw [hf, hal]
  rfl
theorem join_code (C : Nat → Int) (l : List Nat) (h : 0 < l.length) : (Er.join l.length fun j => errAt C (l.getD j 0)).code = some (C (l.getD 0 0)) :=
  findSome_at (fun j => (errAt C (l.getD j 0)).code) h (fun j hj => absurd hj (Nat.not_lt_zero _)) rfl
def hasN (C : Nat → Int) (e : Int) (n : Nat) : Bool := (List.range n).any fun i => C i == e && e != 0
theorem hasN_succ (C : Nat → Int) (e : Int) (n : Nat) : hasN C e (n + 1) = (hasN C e n || (C n == e && e != 0)) := by
  simp [hasN, List.range_succ]
theorem join_has (C : Nat → Int) (e : Int) (n : Nat) : (Er.join (nzs C n).length fun j => errAt C ((nzs C n).getD j 0)).has e = hasN C e n := by
  show (List.range (nzs C n).length).any (fun j => C ((nzs C n).getD j 0) == e) = _
  have h1 : (List.range (nzs C n).length).any (fun j => C ((nzs C n).getD j 0) == e) = (nzs C n).any fun i => C i == e := by
    conv => rhs; rw [nzs_map (nzs C n)]
    rw [List.any_map]
    rfl
  rw [h1]
  unfold nzs hasN
  rw [List.any_filter]
  congr 1
  funext i
  rw [Bool.eq_iff_iff]
  simp
  constructor
  · rintro ⟨h1, h2⟩
    exact ⟨h2, by rw [← h2]; exact h1⟩
  · rintro ⟨h1, h2⟩
    exact ⟨by rw [h1]; exact h2, h1⟩
theorem errs_iface {w : World} {P : Nat → Prop} {E : Er} {v : Value} (h : IsErrP w P E v) : notNil v = true := by
  obtain ⟨t, x, rfl⟩ := h.iface
  rfl
/-- What the row holds, read as the slice that is joined. -/
theorem good_live {C : Nat → Int} {w : World} {own : Option Nat} {n : Nat} {xs : List Value} (h : Good C w own n xs) : live (fun i => xs.getD i .nilIface) n = (nzs C n).map fun i => xs.getD i .nilIface := by
  unfold live nzs
  rw [List.filter_map]
  congr 1
  refine List.filter_congr fun i hi => ?_
  obtain ⟨x, hx, h0, h1⟩ := h i (List.mem_range.1 hi)
  have hg : xs.getD i .nilIface = x := by rw [List.getD_eq_getElem?_getD, hx]; rfl
  show notNil (xs.getD i .nilIface) = _
  rw [hg]
  by_cases hc : C i = 0
  · rw [h0 hc]; simp [hc, notNil]
  · rw [errs_iface (h1 hc)]; simp [hc]
theorem good_errs {C : Nat → Int} {w : World} {B n : Nat} {c : Nat} {A : Option Addr} {xs : List Value} {own : Option Nat} (h : Good C w own n xs) (ho : w.ownsRow B 26 1 (.slice A n c) n xs) : Errs w A n (fun i => xs.getD i .nilIface) := by
  by_cases h0 : n = 0
  · exact .inl h0
  · obtain ⟨g, c', hv, hgb, hgl⟩ := own_form ho (by omega)
    injection hv with e1 e2 e3
    subst e1
    refine .inr ⟨g, rfl, hgl, fun i hi => ?_⟩
    obtain ⟨x, hx, g0, g1⟩ := h i hi
    have hg : xs.getD i .nilIface = x := by rw [List.getD_eq_getElem?_getD, hx]; rfl
    show w.cell? _ = some (xs.getD i .nilIface) ∧ (xs.getD i .nilIface = _ ∨ ∃ t y, xs.getD i .nilIface = _)
    rw [hg]
    refine ⟨own_cells ho i x hx, ?_⟩
    by_cases hc : C i = 0
    · exact .inl (g0 hc)
    · exact .inr (g1 hc).iface
theorem good_kids {C : Nat → Int} {w : World} {own : Option Nat} {n : Nat} {xs : List Value} (h : Good C w own n xs) : ∀ j u, ((nzs C n).map fun i => xs.getD i .nilIface)[j]? = some u → IsErr w w.heap.size (errAt C ((nzs C n).getD j 0)) u := by
  intro j u hu
  rw [List.getElem?_map] at hu
  obtain ⟨i, hi, rfl⟩ := Option.map_eq_some_iff.1 hu
  have hm : i ∈ nzs C n := List.mem_of_getElem? hi
  obtain ⟨hr, hc⟩ := List.mem_filter.1 hm
  obtain ⟨x, hx, g0, g1⟩ := h i (List.mem_range.1 hr)
  have hg : xs.getD i .nilIface = x := by rw [List.getD_eq_getElem?_getD, hx]; rfl
  have hj : (nzs C n).getD j 0 = i := by rw [List.getD_eq_getElem?_getD, hi]; rfl
  show IsErr w _ _ (xs.getD i .nilIface)
  rw [hg, hj]
  exact (g1 (by simpa using hc)).isErr fun k hk => hk.1

theorem lit_i64 {n : Int} (h1 : -9223372036854775808 ≤ n) (h2 : n ≤ 9223372036854775807) : (Lit.int .i64 n).wf = true := by
  have e1 : IntKind.i64.min = -9223372036854775808 := by decide
  have e2 : IntKind.i64.max = 9223372036854775807 := by decide
  simp only [Lit.wf, e1, e2, Bool.and_eq_true, decide_eq_true_eq]
  exact ⟨h1, h2⟩

set_option maxHeartbeats 8000000 in
set_option maxRecDepth 100000 in
theorem walk (a0 : Option Addr) (len0 cap0 : Nat) (C0 : Nat → Int) (a1 : Int) (w : World) (l0 : len0 ≤ maxLen) (w0 : OP.Ints w a0 len0 C0) (w1 : (Lit.int .i64 a1).wf = true) (hg : ER.ErrorType w) :
    Calls Tryd.prog 7 #[.slice a0 len0 cap0, .int .i64 a1] w fun e w' => e = .returned (.bool true) ∧ Below w.heap.size w w' := by
  obtain ⟨i0, hi, hz0, hz1, hz2⟩ := info_parts info_error
  obtain ⟨n, hn⟩ : ∃ n, n = min len0 20 := ⟨_, rfl⟩
  have n1 : n ≤ len0 := by omega
  have n2 : n ≤ 20 := by omega
  have HN := Lib.hid hn
  have HI := Lib.hid w0
  have HG := Lib.hid hg
  have HW1 := Lib.hid w1
  clear hn w0 hg w1
  go_enter Tryd.func7, Tryd.ntmps7
  go_wp2
  go_loopw [5, 6, 7, 8] (fun s5 s6 s7 s8 wr => ∃ (k : Nat) (xs : List Value) (sb : Bool) (f : Int), k ≤ n ∧ s8 = .int .i64 k ∧ s6 = .bool sb ∧ s7 = .int .i64 f ∧ Hid (sb = someN C0 k) ∧ Hid (f = firstN C0 k) ∧ wr.ownsRow w.heap.size 26 1 s5 k xs ∧ Below w.heap.size w wr ∧ Good C0 wr s5.ownBlock k xs) (fun _ _ _ i _ => n - (intOf i).toNat)
  case atStart => exact ⟨0, [], false, 0, Nat.zero_le _, rfl, rfl, rfl, rfl, rfl, World.ownsRow_nil _ _ _ _, Below.refl _ _, fun i h => absurd h (Nat.not_lt_zero _)⟩
  case round =>
    obtain ⟨k, xs, sb, f, hk, rfl, rfl, rfl, hsb, hf, hown, hbel, hgood⟩ := hrel
    have hsz := hbel.size
    have HB := Lib.hid hbel
    have HO := Lib.hid hown
    have HGD := Lib.hid hgood
    obtain ⟨A5, c5, rfl⟩ := own_slice hown
    clear hbel hown hgood
    by_cases hlt : k < n
    · rcases HI.out with h0 | ⟨b, off, rfl, hb, hc⟩
      · omega
      · obtain ⟨hck, hwk⟩ := hc k (by omega)
        have d0 : wr.cell? ⟨b, off + k, none⟩ = some (.int .i64 (C0 k)) := by rw [HB.out.cell (p := ⟨b, off + k, none⟩) hb]; exact hck
        have k20 : (k : Int) < 20 := by omega
        have klen : k < len0 := by omega
        clear hc hck
        obtain ⟨x, hx⟩ : ∃ x, x = C0 k := ⟨_, rfl⟩
        rw [← hx] at d0 hwk
        by_cases hx0 : x = 0
        · have hc0 : C0 k = 0 := by rw [← hx]; exact hx0
          have HS : Hid (sb = someN C0 (k + 1)) := by show _ = _; rw [someN_no hc0]; exact hsb.out
          have HF : Hid (f = firstN C0 (k + 1)) := by show _ = _; rw [firstN_no hc0]; exact hf.out
          have HC := Lib.hid hc0
          have ht : (x == 0) = true := by simp [hx0]
          clear hx hc0 hx0
          go_wp2_with (at_builtin; refine wpList_append_lies _ rfl _ _ 47 rfl w.heap.size 26 i0 .nilIface 1 16 Tryd.underlying47 hi hz0 hz1 hz2 rfl (by decide) _ _ _ rfl (HO.out.alloc _) ⟨wr.heap.size, 0, none⟩ 1 1 [.nilIface] rfl rfl ?a1 ?a2 (by decide) ?a3 ?a4 ?a5 _ rfl ?_)
          case a1 => exact new_cells _ #[_] _
          case a2 => intro u hu; simp at hu; subst hu; rfl
          case a3 => unfold maxLen; omega
          case a4 => omega
          case a5 => simp; omega
          intro g cap w3 hown3 hgrow hat hlt3
          have hb3 : Below w.heap.size w w3 := (HB.out.alloc (by omega) _).grown hgrow (by simp; omega) (fun j hj => (HO.out.lt j hj).1)
          obtain ⟨ha1, ha2⟩ := asd_lies hgrow hat (Nat.le_succ _)
          have hgd := HGD.out.step (by simpa using HO.out.1) .nilIface ha1 ha2 (fun _ => rfl) (fun h => absurd HC.out h)
          have HX : Hid (w3.ownsRow w.heap.size 26 1 (.slice (some ⟨g, 0, none⟩) (k + 1) cap) (k + 1) (xs ++ [.nilIface]) ∧ Below w.heap.size w w3 ∧ Good C0 w3 (some g) (k + 1) (xs ++ [.nilIface])) := ⟨hown3, hb3, hgd⟩
          clear hgd ha1 ha2 hown3 hgrow hat hb3
          go_wp2
          go_roundw
          case rel => exact ⟨k + 1, _, sb, f, by omega, by go_num, rfl, rfl, HS.out, HF.out, HX.out.1, HX.out.2.1, HX.out.2.2⟩
          case measure => simp [intOf]; omega
        · have hc0 : C0 k ≠ 0 := by rw [← hx]; exact hx0
          have HS : Hid (true = someN C0 (k + 1)) := (someN_yes hc0).symm
          have HC := Lib.hid hc0
          have HX0 := Lib.hid hx
          have ht : (x == 0) = false := by simp [hx0]
          have H1 := Lib.hid (wrap_run ⟨#[106]⟩ (k : Int) 30 (.int .i64 x) wr)
          obtain ⟨WF, hWF⟩ : ∃ WF, WF = wr.alloc (.cells #[.string ⟨#[106]⟩, .int .i64 (k : Int), .iface 30 (.int .i64 x)] 60) := ⟨_, rfl⟩
          rw [← hWF] at H1
          have hbF : Below wr.heap.size wr WF := by rw [hWF]; exact (Below.refl _ _).alloc (Nat.le_refl _) _
          have hsF : WF.heap.size = wr.heap.size + 1 := by rw [hWF]; simp
          have hEF : ∀ own, own = Value.ownBlock (.slice A5 k c5) → IsErrP WF (Asd WF own) (errAt C0 k) (.iface 57 (.pointer (some ⟨wr.heap.size, 0, none⟩))) := by
            intro own hw
            refine ⟨wr.heap.size, .iface 30 (.int .i64 x), rfl, ⟨by omega, fun e => ?_⟩, by rw [hWF]; exact heap_alloc_new wr _, ?_, by decide, ⟨by rw [← HX0.out], by rw [← HX0.out]; exact hwk⟩⟩
            · rw [hw] at e
              have := (HO.out.lt _ e.symm).2
              omega
            · exact lit_i64 (by omega) (by omega)
          have HE := Lib.hid (hEF _ rfl)
          have HOF := Lib.hid (own_kept HO.out hbF)
          have HBF := Lib.hid hbF
          have HSF := Lib.hid hsF
          have hsF1 : wr.heap.size ≤ WF.heap.size := by omega
          clear hx hc0 hx0 hbF hsF hEF hWF
          cases sb with
          | true =>
            have hk0 : k ≠ 0 := by
              rintro rfl
              have := hsb.out
              simp [someN] at this
            have hkb : ((k : Int) == 0) = false := by simp; omega
            have HF : Hid (f = firstN C0 (k + 1)) := by show _ = _; rw [firstN_old hsb.out.symm]; exact hf.out
            go_wp2_with fail
            refine H1.out.mono ?_
            rintro e w1 ⟨rfl, rfl⟩
            go_wp2_with (at_builtin; refine wpList_append_lies _ rfl _ _ 47 rfl w.heap.size 26 i0 .nilIface 1 16 Tryd.underlying47 hi hz0 hz1 hz2 rfl (by decide) _ _ _ rfl (HOF.out.alloc _) ⟨WF.heap.size, 0, none⟩ 1 1 [.iface 57 (.pointer (some ⟨wr.heap.size, 0, none⟩))] rfl rfl ?b1 ?b2 (by decide) ?b3 ?b4 ?b5 _ rfl ?_)
            case b1 => exact new_cells _ #[_] _
            case b2 => intro u hu; simp at hu; subst hu; rfl
            case b3 => unfold maxLen; omega
            case b4 => omega
            case b5 => simp; omega
            intro g cap w3 hown3 hgrow hat hlt3
            have hb3 : Below w.heap.size w w3 := ((HB.out.trans (HBF.out.mono hsz)).alloc (by omega) _).grown hgrow (by simp; omega) (fun j hj => (HO.out.lt j hj).1)
            have h5 := asd_below (w := wr) (w' := WF) (own := Value.ownBlock (.slice A5 k c5)) HBF.out
            obtain ⟨ha1, ha2⟩ := asd_lies hgrow hat (Nat.le_succ _)
            have hgd := HGD.out.step (by simpa using HO.out.1) (.iface 57 (.pointer (some ⟨wr.heap.size, 0, none⟩))) (fun b hb => ha1 b (h5.1 b hb)) (fun b hb => (ha2 b (h5.1 b hb)).trans (h5.2 b hb)) (fun h => absurd h HC.out) (fun _ => IsErrP.more ha1 (IsErrP.keep ha2 HE.out))
            have HX : Hid (w3.ownsRow w.heap.size 26 1 (.slice (some ⟨g, 0, none⟩) (k + 1) cap) (k + 1) (xs ++ [.iface 57 (.pointer (some ⟨wr.heap.size, 0, none⟩))]) ∧ Below w.heap.size w w3 ∧ Good C0 w3 (some g) (k + 1) (xs ++ [.iface 57 (.pointer (some ⟨wr.heap.size, 0, none⟩))])) := ⟨hown3, hb3, hgd⟩
            clear hgd ha1 ha2 hown3 hgrow hat hb3 h5
            go_wp2
            go_roundw
            case rel => exact ⟨k + 1, _, true, f, by omega, by go_num, rfl, rfl, HS.out, HF.out, HX.out.1, HX.out.2.1, HX.out.2.2⟩
            case measure => simp [intOf]; omega
          | false =>
            have HF : Hid (x = firstN C0 (k + 1)) := by show _ = _; rw [firstN_new HC.out hsb.out.symm]; exact HX0.out
            by_cases hk0 : k = 0
            · have hkb : ((k : Int) == 0) = true := by simp [hk0]
              have HK0 := Lib.hid hk0
              clear hk0
              go_wp2_with fail
              refine H1.out.mono ?_
              rintro e w1 ⟨rfl, rfl⟩
              go_wp2_with (at_builtin; refine wpList_append_lies _ rfl _ _ 47 rfl w.heap.size 26 i0 .nilIface 1 16 Tryd.underlying47 hi hz0 hz1 hz2 rfl (by decide) _ _ _ rfl (HOF.out.alloc _) ⟨WF.heap.size, 0, none⟩ 1 1 [.iface 57 (.pointer (some ⟨wr.heap.size, 0, none⟩))] rfl rfl ?c1 ?c2 (by decide) ?c3 ?c4 ?c5 _ rfl ?_)
              case c1 => exact new_cells _ #[_] _
              case c2 => intro u hu; simp at hu; subst hu; rfl
              case c3 => unfold maxLen; omega
              case c4 => omega
              case c5 => simp; omega
              intro g cap w3 hown3 hgrow hat hlt3
              have hb3 : Below w.heap.size w w3 := ((HB.out.trans (HBF.out.mono hsz)).alloc (by omega) _).grown hgrow (by simp; omega) (fun j hj => (HO.out.lt j hj).1)
              have h5 := asd_below (w := wr) (w' := WF) (own := Value.ownBlock (.slice A5 k c5)) HBF.out
              obtain ⟨ha1, ha2⟩ := asd_lies hgrow hat (Nat.le_succ _)
              have hgd := HGD.out.step (by simpa using HO.out.1) (.iface 57 (.pointer (some ⟨wr.heap.size, 0, none⟩))) (fun b hb => ha1 b (h5.1 b hb)) (fun b hb => (ha2 b (h5.1 b hb)).trans (h5.2 b hb)) (fun h => absurd h HC.out) (fun _ => IsErrP.more ha1 (IsErrP.keep ha2 HE.out))
              have HX : Hid (w3.ownsRow w.heap.size 26 1 (.slice (some ⟨g, 0, none⟩) (k + 1) cap) (k + 1) (xs ++ [.iface 57 (.pointer (some ⟨wr.heap.size, 0, none⟩))]) ∧ Below w.heap.size w w3 ∧ Good C0 w3 (some g) (k + 1) (xs ++ [.iface 57 (.pointer (some ⟨wr.heap.size, 0, none⟩))])) := ⟨hown3, hb3, hgd⟩
              clear hgd ha1 ha2 hown3 hgrow hat hb3 h5
              go_wp2
              go_roundw
              case rel => exact ⟨k + 1, _, true, x, by omega, by go_num, rfl, rfl, HS.out, HF.out, HX.out.1, HX.out.2.1, HX.out.2.2⟩
              case measure => simp [intOf]; omega
            · have hkb : ((k : Int) == 0) = false := by simp; omega
              go_wp2_with fail
              refine H1.out.mono ?_
              rintro e w1 ⟨rfl, rfl⟩
              go_wp2_with (at_builtin; refine wpList_append_lies _ rfl _ _ 47 rfl w.heap.size 26 i0 .nilIface 1 16 Tryd.underlying47 hi hz0 hz1 hz2 rfl (by decide) _ _ _ rfl (HOF.out.alloc _) ⟨WF.heap.size, 0, none⟩ 1 1 [.iface 57 (.pointer (some ⟨wr.heap.size, 0, none⟩))] rfl rfl ?e1 ?e2 (by decide) ?e3 ?e4 ?e5 _ rfl ?_)
              case e1 => exact new_cells _ #[_] _
              case e2 => intro u hu; simp at hu; subst hu; rfl
              case e3 => unfold maxLen; omega
              case e4 => omega
              case e5 => simp; omega
              intro g cap w3 hown3 hgrow hat hlt3
              have hb3 : Below w.heap.size w w3 := ((HB.out.trans (HBF.out.mono hsz)).alloc (by omega) _).grown hgrow (by simp; omega) (fun j hj => (HO.out.lt j hj).1)
              have h5 := asd_below (w := wr) (w' := WF) (own := Value.ownBlock (.slice A5 k c5)) HBF.out
              obtain ⟨ha1, ha2⟩ := asd_lies hgrow hat (Nat.le_succ _)
              have hgd := HGD.out.step (by simpa using HO.out.1) (.iface 57 (.pointer (some ⟨wr.heap.size, 0, none⟩))) (fun b hb => ha1 b (h5.1 b hb)) (fun b hb => (ha2 b (h5.1 b hb)).trans (h5.2 b hb)) (fun h => absurd h HC.out) (fun _ => IsErrP.more ha1 (IsErrP.keep ha2 HE.out))
              have HX : Hid (w3.ownsRow w.heap.size 26 1 (.slice (some ⟨g, 0, none⟩) (k + 1) cap) (k + 1) (xs ++ [.iface 57 (.pointer (some ⟨wr.heap.size, 0, none⟩))]) ∧ Below w.heap.size w w3 ∧ Good C0 w3 (some g) (k + 1) (xs ++ [.iface 57 (.pointer (some ⟨wr.heap.size, 0, none⟩))])) := ⟨hown3, hb3, hgd⟩
              clear hgd ha1 ha2 hown3 hgrow hat hb3 h5
              go_wp2
              go_roundw
              case rel => exact ⟨k + 1, _, true, x, by omega, by go_num, rfl, rfl, HS.out, HF.out, HX.out.1, HX.out.2.1, HX.out.2.2⟩
              case measure => simp [intOf]; omega
    · obtain rfl : k = n := by omega
      have hle : ∀ j : Int, 20 ≤ j → True := fun _ _ => trivial
      clear hle
      have hER := good_errs HGD.out HO.out
      have hLV := good_live HGD.out
      have hKI := good_kids HGD.out
      have hnl : (nzs C0 k).length ≤ 1000 := by
        have := List.length_filter_le (fun i => C0 i != 0) (List.range k)
        rw [List.length_range] at this
        exact Nat.le_trans this (by omega)
      cases sb with
      | false =>
        have hz : nzs C0 k = [] := by
          refine List.filter_eq_nil_iff.2 fun i hi hx => ?_
          have := List.any_eq_false.1 hsb.out.symm i hi
          exact this hx
        rw [hz] at hLV
        have HJ := Lib.hid (join_none A5 k c5 _ (by omega) wr hER hLV)
        clear hER hLV hKI hz hnl
        by_cases hll : k < len0
        · have h20 : ¬ (k : Int) < 20 := by have := HN.out; omega
          go_wp2_with fail
          refine HJ.out.mono ?_
          rintro e w1 ⟨rfl, rfl⟩
          have HA := Lib.hid (awake_any wr (HG.out.kept HB.out))
          go_wp2_with fail
          refine HA.out.mono ?_
          rintro e w2 ⟨rfl, hb2⟩
          have hfin := HB.out.trans (hb2.mono hsz)
          clear hb2
          go_wp2
          go_ret
          exact ⟨rfl, hfin⟩
        · go_wp2_with fail
          refine HJ.out.mono ?_
          rintro e w1 ⟨rfl, rfl⟩
          have HA := Lib.hid (awake_any wr (HG.out.kept HB.out))
          go_wp2_with fail
          refine HA.out.mono ?_
          rintro e w2 ⟨rfl, hb2⟩
          have hfin := HB.out.trans (hb2.mono hsz)
          clear hb2
          go_wp2
          go_ret
          exact ⟨rfl, hfin⟩
      | true =>
        obtain ⟨hp1, hp2⟩ := nzs_first hsb.out.symm
        have HPOS : Hid (0 < (nzs C0 k).length ∧ C0 ((nzs C0 k).getD 0 0) = firstN C0 k) := ⟨hp1, hp2⟩
        have hne : live (fun i => xs.getD i .nilIface) k ≠ [] := by
          rw [hLV]
          intro e
          have := congrArg List.length e
          simp at this
          rw [this] at hp1
          simp at hp1
        have HJ := Lib.hid (join_some A5 k c5 _ (by omega) wr hER hne)
        obtain ⟨l, hl⟩ : ∃ l, l = live (fun i => xs.getD i .nilIface) k := ⟨_, rfl⟩
        rw [← hl] at HJ hLV
        have hml : l.length = (nzs C0 k).length := by rw [hLV, List.length_map]
        rw [← hLV] at hKI
        have HKI := Lib.hid hKI
        have HNL := Lib.hid hnl
        have HML := Lib.hid hml
        clear hER hLV hKI hnl hp1 hp2 hne hl hml
        by_cases hll : k < len0
        · have h20 : ¬ (k : Int) < 20 := by have := HN.out; omega
          go_wp2_with fail
          refine HJ.out.mono ?_
          rintro e w1 hjd
          obtain ⟨tj, xj, rfl, hEJ, hbJ⟩ := joined_err hjd _ (by rw [HML.out]; exact HNL.out) HKI.out
          have hE2 : IsErr w1 w1.heap.size (Er.join (nzs C0 k).length fun j => errAt C0 ((nzs C0 k).getD j 0)) (.iface tj xj) := by
            rw [← HML.out]; exact hEJ
          have HE2 := Lib.hid hE2
          have HBJ := Lib.hid hbJ
          have hsJ := hbJ.size
          clear hjd hEJ hbJ hE2
          go_wp2
          go_loopw [10, 11] (fun s10 s11 wx => ∃ (j : Nat) (hb : Bool), j ≤ k ∧ s11 = .int .i64 j ∧ s10 = .bool hb ∧ Hid (hb = hasN C0 a1 j) ∧ w1 = wx) (fun _ i _ => k - (intOf i).toNat)
          case atStart => exact ⟨0, false, Nat.zero_le _, rfl, rfl, rfl, rfl⟩
          case round =>
            obtain ⟨j, hb, hj, rfl, rfl, hhb, rfl⟩ := hrel
            by_cases hjk : j < k
            · rcases HI.out with h0 | ⟨b, off, rfl, hbb, hc⟩
              · omega
              · obtain ⟨hcj, _⟩ := hc j (by omega)
                have dj : w1.cell? ⟨b, off + j, none⟩ = some (.int .i64 (C0 j)) := by rw [HBJ.out.cell (p := ⟨b, off + j, none⟩) (Nat.lt_of_lt_of_le hbb hsz), HB.out.cell (p := ⟨b, off + j, none⟩) hbb]; exact hcj
                have j20 : (j : Int) < 20 := by omega
                have jlen : j < len0 := by omega
                obtain ⟨y, hy⟩ : ∃ y, y = C0 j := ⟨_, rfl⟩
                rw [← hy] at dj
                have hnext := hasN_succ C0 a1 j
                rw [← hy, ← hhb.out] at hnext
                have HX := Lib.hid hnext
                clear hc hcj hy hnext
                cases hb with
                | true =>
                  have HX2 : Hid (true = hasN C0 a1 (j + 1)) := by show _ = _; rw [HX.out]; rfl
                  go_wp2
                  go_roundw
                  case rel => exact ⟨j + 1, true, by omega, by go_num, rfl, HX2, trivial⟩
                  case measure => simp [intOf]; omega
                | false =>
                  by_cases hye : y = a1
                  · have t1 : (y == a1) = true := by simp [hye]
                    by_cases he0 : a1 = 0
                    · have t2 : (a1 != 0) = false := by simp [he0]
                      have HX2 : Hid (false = hasN C0 a1 (j + 1)) := by show _ = _; rw [HX.out, t1, t2]; rfl
                      clear hye he0
                      go_wp2
                      go_roundw
                      case rel => exact ⟨j + 1, false, by omega, by go_num, rfl, HX2, trivial⟩
                      case measure => simp [intOf]; omega
                    · have t2 : (a1 != 0) = true := by simp [he0]
                      have HX2 : Hid (true = hasN C0 a1 (j + 1)) := by show _ = _; rw [HX.out, t1, t2]; rfl
                      clear hye he0
                      go_wp2
                      go_roundw
                      case rel => exact ⟨j + 1, true, by omega, by go_num, rfl, HX2, trivial⟩
                      case measure => simp [intOf]; omega
                  · have t1 : (y == a1) = false := by simp [hye]
                    have HX2 : Hid (false = hasN C0 a1 (j + 1)) := by show _ = _; rw [HX.out, t1]; rfl
                    clear hye
                    go_wp2
                    go_roundw
                    case rel => exact ⟨j + 1, false, by omega, by go_num, rfl, HX2, trivial⟩
                    case measure => simp [intOf]; omega
            · obtain rfl : j = k := by omega
              have HA := Lib.hid (awake_any w1 ((HG.out.kept HB.out).kept HBJ.out))
              go_wp2_with fail
              refine HA.out.mono ?_
              rintro e w2 ⟨rfl, hb2⟩
              have hs2 := hb2.size
              have HC := Lib.hid (code_any _ _ w2 ((HE2.out.below hb2).more hs2) (((HG.out.kept HB.out).kept HBJ.out).kept hb2))
              rw [join_code _ _ HPOS.out.1, HPOS.out.2, ← hf.out] at HC
              have HB2 := Lib.hid hb2
              clear hb2
              go_wp2_with fail
              refine HC.out.mono ?_
              rintro e w3 ⟨rfl, hb3⟩
              have hs3 := hb3.size
              have HH := Lib.hid (has_any _ _ a1 w3 (((HE2.out.below HB2.out).below (hb3.mono hs2)).more (Nat.le_trans hs2 hs3)))
              rw [join_has, ← hhb.out] at HH
              have hfin := HB.out.trans ((HBJ.out.mono hsz).trans ((HB2.out.mono (Nat.le_trans hsz hsJ)).trans (hb3.mono (Nat.le_trans hsz (Nat.le_trans hsJ hs2)))))
              have HFI := Lib.hid hfin
              clear hb3 hfin
              go_wp2_with fail
              refine HH.out.mono ?_
              rintro e w4 ⟨rfl, rfl⟩
              go_wp2
              go_ret
              exact ⟨rfl, HFI.out⟩
        · go_wp2_with fail
          refine HJ.out.mono ?_
          rintro e w1 hjd
          obtain ⟨tj, xj, rfl, hEJ, hbJ⟩ := joined_err hjd _ (by rw [HML.out]; exact HNL.out) HKI.out
          have hE2 : IsErr w1 w1.heap.size (Er.join (nzs C0 k).length fun j => errAt C0 ((nzs C0 k).getD j 0)) (.iface tj xj) := by
            rw [← HML.out]; exact hEJ
          have HE2 := Lib.hid hE2
          have HBJ := Lib.hid hbJ
          have hsJ := hbJ.size
          clear hjd hEJ hbJ hE2
          go_wp2
          go_loopw [10, 11] (fun s10 s11 wx => ∃ (j : Nat) (hb : Bool), j ≤ k ∧ s11 = .int .i64 j ∧ s10 = .bool hb ∧ Hid (hb = hasN C0 a1 j) ∧ w1 = wx) (fun _ i _ => k - (intOf i).toNat)
          case atStart => exact ⟨0, false, Nat.zero_le _, rfl, rfl, rfl, rfl⟩
          case round =>
            obtain ⟨j, hb, hj, rfl, rfl, hhb, rfl⟩ := hrel
            by_cases hjk : j < k
            · rcases HI.out with h0 | ⟨b, off, rfl, hbb, hc⟩
              · omega
              · obtain ⟨hcj, _⟩ := hc j (by omega)
                have dj : w1.cell? ⟨b, off + j, none⟩ = some (.int .i64 (C0 j)) := by rw [HBJ.out.cell (p := ⟨b, off + j, none⟩) (Nat.lt_of_lt_of_le hbb hsz), HB.out.cell (p := ⟨b, off + j, none⟩) hbb]; exact hcj
                have j20 : (j : Int) < 20 := by omega
                have jlen : j < len0 := by omega
                obtain ⟨y, hy⟩ : ∃ y, y = C0 j := ⟨_, rfl⟩
                rw [← hy] at dj
                have hnext := hasN_succ C0 a1 j
                rw [← hy, ← hhb.out] at hnext
                have HX := Lib.hid hnext
                clear hc hcj hy hnext
                cases hb with
                | true =>
                  have HX2 : Hid (true = hasN C0 a1 (j + 1)) := by show _ = _; rw [HX.out]; rfl
                  go_wp2
                  go_roundw
                  case rel => exact ⟨j + 1, true, by omega, by go_num, rfl, HX2, trivial⟩
                  case measure => simp [intOf]; omega
                | false =>
                  by_cases hye : y = a1
                  · have t1 : (y == a1) = true := by simp [hye]
                    by_cases he0 : a1 = 0
                    · have t2 : (a1 != 0) = false := by simp [he0]
                      have HX2 : Hid (false = hasN C0 a1 (j + 1)) := by show _ = _; rw [HX.out, t1, t2]; rfl
                      clear hye he0
                      go_wp2
                      go_roundw
                      case rel => exact ⟨j + 1, false, by omega, by go_num, rfl, HX2, trivial⟩
                      case measure => simp [intOf]; omega
                    · have t2 : (a1 != 0) = true := by simp [he0]
                      have HX2 : Hid (true = hasN C0 a1 (j + 1)) := by show _ = _; rw [HX.out, t1, t2]; rfl
                      clear hye he0
                      go_wp2
                      go_roundw
                      case rel => exact ⟨j + 1, true, by omega, by go_num, rfl, HX2, trivial⟩
                      case measure => simp [intOf]; omega
                  · have t1 : (y == a1) = false := by simp [hye]
                    have HX2 : Hid (false = hasN C0 a1 (j + 1)) := by show _ = _; rw [HX.out, t1]; rfl
                    clear hye
                    go_wp2
                    go_roundw
                    case rel => exact ⟨j + 1, false, by omega, by go_num, rfl, HX2, trivial⟩
                    case measure => simp [intOf]; omega
            · obtain rfl : j = k := by omega
              have HA := Lib.hid (awake_any w1 ((HG.out.kept HB.out).kept HBJ.out))
              go_wp2_with fail
              refine HA.out.mono ?_
              rintro e w2 ⟨rfl, hb2⟩
              have hs2 := hb2.size
              have HC := Lib.hid (code_any _ _ w2 ((HE2.out.below hb2).more hs2) (((HG.out.kept HB.out).kept HBJ.out).kept hb2))
              rw [join_code _ _ HPOS.out.1, HPOS.out.2, ← hf.out] at HC
              have HB2 := Lib.hid hb2
              clear hb2
              go_wp2_with fail
              refine HC.out.mono ?_
              rintro e w3 ⟨rfl, hb3⟩
              have hs3 := hb3.size
              have HH := Lib.hid (has_any _ _ a1 w3 (((HE2.out.below HB2.out).below (hb3.mono hs2)).more (Nat.le_trans hs2 hs3)))
              rw [join_has, ← hhb.out] at HH
              have hfin := HB.out.trans ((HBJ.out.mono hsz).trans ((HB2.out.mono (Nat.le_trans hsz hsJ)).trans (hb3.mono (Nat.le_trans hsz (Nat.le_trans hsJ hs2)))))
              have HFI := Lib.hid hfin
              clear hb3 hfin
              go_wp2_with fail
              refine HH.out.mono ?_
              rintro e w4 ⟨rfl, rfl⟩
              go_wp2
              go_ret
              exact ⟨rfl, HFI.out⟩

set_option maxRecDepth 100000 in
theorem lifted (os : Os) (started : os.Started) (H : Type) (enc : TypeId × Value → H) :
    ReturnsInHanded {} Tryd.checked os 7 .any (fun w args => (Rows.faultJoinsSpec.pre enc Tryd.prog Tryd.f7 [] false w args ∧ laidMetH Tryd.prog [("errors.errorType", Rows.laid_errors_errorType)] w) ∧ sizedMet enc Tryd.prog Tryd.f7 (OpenSpec.ofChange Rows.faultJoinsSpec) false w args) (Rows.faultJoinsSpec.post enc Tryd.prog Tryd.f7 false true false false) := by
  refine returnsInHanded_of_change_and (C := Tryd.checked) (X := (fun w _ => laidMetH Tryd.prog [("errors.errorType", Rows.laid_errors_errorType)] w)) (fun _ _ _ hh h => h.of_heap hh) own started (by kernel_rfl) Tryd.func7
    (ChangeSpec.witness_at (enc := enc) (C := Tryd.checked) (os := os) (X := (fun w _ => laidMetH Tryd.prog [("errors.errorType", Rows.laid_errors_errorType)] w)) false (laidWorld os) #[.slice none 0 0, .int .i64 0] 8 rfl (by kernel_rfl) (by kernel_rfl) (by kernel_rfl) (by kernel_rfl) (by kernel_rfl) (laidWorld_met os _)) ?_
  intro W base args ds gs before hval0 hW _ hsz0 hL _
  have hval : ∀ (j : Nat) t v, Tryd.f7.params[j]? = some t → args[j]? = some v → Value.okWide Tryd.prog W .any base t v := hval0
  have hW' := hW
  obtain ⟨p, q, hA0, hV, rfl, hfz, hnd⟩ := hW
  have hA : DataW.TrodAll enc Tryd.prog W 0 (fun _ => true) true Tryd.f7.params.toList args.toList ds p := hA0
  rw [Tryd.params7] at hA hval
  obtain ⟨v0, vs0, d0, ds0, p0, q0, hargs, rfl, rfl, h0, r0⟩ := trodAll_cons hA
  obtain ⟨v1, vs1, d1, ds1, p1, q1, rfl, rfl, rfl, h1, r1⟩ := trodAll_cons r0
  obtain ⟨rfl, rfl, rfl⟩ := trodAll_nil r1
  obtain rfl : args = #[v0, v1] := by cases args; simp_all
  obtain ⟨rfl, rfl⟩ := trodVars_none hV
  have k0 := h0
  have lt0 : ∀ x ∈ p0, x.block < W.heap.size := by obtain ⟨m, hm⟩ := k0; exact DataW.trod_lt m _ _ _ hm
  obtain ⟨a0, len0, cap0, C0, rfl, l0, w0⟩ := OP.open_intsC (hval 0 39 v0 rfl rfl) h0
  obtain ⟨a1, rfl, rfl, rfl, w1⟩ := open_int Tryd.underlying3 (hval 1 3 v1 rfl rfl) h1
  have hg := handle_of_laid hL
  clear hA0 hval0 hsz0
  refine (walk a0 len0 cap0 C0 a1 W l0 w0 w1 hg).mono fun e W' ⟨he, bel⟩ => ?_
  subst he
  exact ⟨_, rfl, _, _, _, [], _, [], hW', trodAll_mk1 (shut_bool Tryd.underlying4 _), (trodAll_cons_mk (Below.trod laidOut (by kernel_rfl) (of_decide_eq_true (by kernel_rfl)) k0 bel lt0) (trodAll_cons_mk (shut_int Tryd.underlying3 w1) trodAll_mk0)), rfl, bel.frame _, fun h => by cases h⟩

theorem over : Rows.FaultJoinsSaid :=
  OpenClaim.holds_of_wide 7 Tryd.f7 rfl rfl rfl rfl rfl rfl rfl ⟨rfl, rfl, rfl, rfl, rfl⟩ rfl rfl rfl rfl rfl (by kernel_rfl) Tryd.func7 (by kernel_rfl)
    (of_decide_eq_true (by kernel_rfl)) (by unfold Func.isWrapper; first | (rw [if_pos (by decide +kernel)]; kernel_rfl) | (rw [if_neg (by decide +kernel)]; exact ⟨rfl, rfl⟩))
    (fun os started H enc _ => lifted os started H enc)

/-- The card: the row, its one listed variable tied to the program's text. -/
theorem proved : Rows.FaultJoinsCardSaid :=
  Claim7.holds_tied_plain_at .later [] [.handle] true _ true
    over (fun _ h => by cases h) (by kernel_rfl) (fun _ h => by cases h) faultJoins_row_tie rfl ⟨rfl, rfl⟩ (by kernel_rfl) rfl
    (fun f fn hf hfn => by
      obtain rfl : f = 7 := Option.some.inj ((show Tryd.prog.funcNamed "scoria/scorialaw03.FaultJoins" = some 7 by kernel_rfl).symm.trans hf) |>.symm
      obtain rfl : fn = Tryd.f7 := (Option.some.inj (Tryd.func7.symm.trans hfn)).symm
      exact ⟨by kernel_rfl, fun j t ht => by
        rw [Tryd.params7] at ht
        have hm : t ∈ [39, 3] := by simpa using Array.mem_of_getElem? ht
        have hall : ([39, 3].all fun u => !Tryd.prog.wantsStandIn u) = true := by kernel_rfl
        exact (show Tryd.prog.wantsStandIn t = false by simpa using List.all_eq_true.1 hall t hm)⟩)
    (by kernel_rfl)
#print axioms proved
end Go.Proofs.YtnbfejombealiaaDoor.faultJoins
