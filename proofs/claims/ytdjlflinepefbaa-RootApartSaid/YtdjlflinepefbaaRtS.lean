/- What scoriaref12.Same answers: of any two lists. No condition but those that each theorem names. -/
import Derived.Test.YtdjlflinepefbaaRtQ
namespace Go.Proofs.Ytdjlflinepefbaa
open Go.RowKit
namespace RT
open MM FM EX
set_option linter.unusedVariables false
set_option linter.unusedSimpArgs false

theorem same_len (n m ca cb : Nat) (h : n ≠ m) (a b : Option Addr) (w : World) :
    Calls Try.prog 16 #[.slice a n ca, .slice b m cb] w fun r w' => r = .returned (.bool false) ∧ Below w.heap.size w w' := by
  have h' : ((n : Int) != (m : Int)) = true := by simp; omega
  clear h
  go_enter Try.func16, Try.ntmps16
  go_wp2
  go_ret
  exact ⟨rfl, Below.refl _ _⟩
theorem ext_ne {e f : Ext} (h : e ≠ f) : e.from_ ≠ f.from_ ∨ (e.from_ = f.from_ ∧ e.n ≠ f.n) ∨ (e.from_ = f.from_ ∧ e.n = f.n ∧ e.kind ≠ f.kind) ∨ (e.from_ = f.from_ ∧ e.n = f.n ∧ e.kind = f.kind ∧ e.at_ ≠ f.at_) := by
  obtain ⟨a, b, c, d⟩ := e
  obtain ⟨a', b', c', d'⟩ := f
  simp only [ne_eq, Ext.mk.injEq] at h ⊢
  omega
set_option maxRecDepth 100000 in
set_option maxHeartbeats 4000000 in
theorem same_eqlen (L M : List Ext) (len ca cb : Nat) (hlen : len = L.length) (hlen2 : len = M.length) (hm : len ≤ 100000000) (a b : Option Addr) (w : World) (h1 : Exs w a L) (h2 : Exs w b M) :
    Calls Try.prog 16 #[.slice a len ca, .slice b len cb] w fun r w' => r = .returned (.bool (decide (L = M))) ∧ Below w.heap.size w w' := by
  have H1 := Lib.hid h1
  have H2 := Lib.hid h2
  have HL := Lib.hid hlen
  have HM := Lib.hid hlen2
  obtain ⟨V, hV⟩ : ∃ V, V = decide (L = M) := ⟨_, rfl⟩
  have HN : Hid (∀ (k : Nat) (e f : Ext), L[k]? = some e → M[k]? = some f → e ≠ f → V = false) := Lib.hid fun k e f he hf hne => by
    rw [hV]; exact decide_eq_false fun h => by subst h; rw [he] at hf; exact hne (Option.some.inj hf)
  have HY : Hid (L.take len = M.take len → V = true) := Lib.hid fun h => by
    rw [hV]; apply decide_eq_true
    rwa [List.take_of_length_le (by omega), List.take_of_length_le (by omega)] at h
  rw [← hV]
  have hx : ((len : Int) != (len : Int)) = false := by simp
  clear h1 h2 hlen hlen2 hV
  go_enter Try.func16, Try.ntmps16
  go_wp2
  go_loopw [5] (fun i wr => ∃ k : Nat, k ≤ len ∧ i = .int .i64 k ∧ Hid (L.take k = M.take k) ∧ Below w.heap.size w wr) (fun i _ => len - (intOf i).toNat)
  case atStart => exact ⟨0, Nat.zero_le _, rfl, Lib.hid (by simp), Below.refl _ _⟩
  case round =>
    obtain ⟨k, hk, rfl, HTK, hbel⟩ := hrel
    by_cases hlt : k < len
    · obtain ⟨e, he⟩ : ∃ e, L[k]? = some e := ⟨_, List.getElem?_eq_getElem (by rw [← HL.out]; exact hlt)⟩
      obtain ⟨f, hf⟩ : ∃ f, M[k]? = some f := ⟨_, List.getElem?_eq_getElem (by rw [← HM.out]; exact hlt)⟩
      obtain ⟨b1, o1, rfl, p0, p1, p2, p3⟩ := rexs_get (H1.out.below hbel) he
      obtain ⟨b2, o2, rfl, q0, q1, q2, q3⟩ := rexs_get (H2.out.below hbel) hf
      have t1 : (k : Int) < (len : Int) := by omega
      have t2 : (0 : Int) ≤ (k : Int) := by omega
      have HD : Hid (∀ n, Below w.heap.size w (wr.drewN n)) := Lib.hid fun n => drewN_below hbel n
      have HE := Lib.hid he
      have HF := Lib.hid hf
      clear he hf hbel
      by_cases hef : e = f
      · subst hef
        have HT : Hid (L.take (k + 1) = M.take (k + 1)) := Lib.hid (by rw [List.take_add_one, List.take_add_one, HTK.out, HE.out, HF.out])
        go_wp2
        go_quiet (fail)
        go_wp2
        go_roundw
        case rel => exact ⟨k + 1, by omega, by go_num, HT, HD.out _⟩
        case measure => simp [intOf]; omega
      · have HV := Lib.hid (HN.out k e f HE.out HF.out hef)
        have hcs := ext_ne hef
        clear HE HF hef
        obtain ⟨e0, e1, e2, e3⟩ := e
        obtain ⟨f0, f1, f2, f3⟩ := f
        simp only at p0 p1 p2 p3 q0 q1 q2 q3 hcs
        rcases hcs with h | ⟨rfl, h⟩ | ⟨rfl, rfl, h⟩ | ⟨rfl, rfl, rfl, h⟩
        · have hb : (e0 == f0) = false := beq_eq_false_iff_ne.2 h
          go_wp2
          go_quiet (fail)
          go_wp2
          go_ret
          exact ⟨by rw [HV.out]; rfl, HD.out _⟩
        · have hb : (e1 == f1) = false := beq_eq_false_iff_ne.2 h
          go_wp2
          go_quiet (fail)
          go_wp2
          go_ret
          exact ⟨by rw [HV.out]; rfl, HD.out _⟩
        · have hb : (e2 == f2) = false := beq_eq_false_iff_ne.2 h
          go_wp2
          go_quiet (fail)
          go_wp2
          go_ret
          exact ⟨by rw [HV.out]; rfl, HD.out _⟩
        · have hb : (e3 == f3) = false := beq_eq_false_iff_ne.2 h
          go_wp2
          go_quiet (fail)
          go_wp2
          go_ret
          exact ⟨by rw [HV.out]; rfl, HD.out _⟩
    · obtain rfl : k = len := by omega
      have i0 : ¬ (k : Int) < (k : Int) := by omega
      have HV := Lib.hid (HY.out HTK.out)
      go_wp2
      go_ret
      exact ⟨by rw [HV.out]; rfl, hbel⟩
theorem same_any (L M : List Ext) (n m ca cb : Nat) (hn : n = L.length) (hn2 : m = M.length) (hm : n ≤ 100000000) (a b : Option Addr) (w : World) (h1 : Exs w a L) (h2 : Exs w b M) :
    Calls Try.prog 16 #[.slice a n ca, .slice b m cb] w fun r w' => r = .returned (.bool (decide (L = M))) ∧ Below w.heap.size w w' := by
  by_cases h : n = m
  · subst h; exact same_eqlen L M n ca cb hn hn2 hm a b w h1 h2
  · rw [decide_eq_false (fun e => h (by rw [hn, hn2, e]))]
    exact same_len n m ca cb h a b w
end RT
end Go.Proofs.Ytdjlflinepefbaa
