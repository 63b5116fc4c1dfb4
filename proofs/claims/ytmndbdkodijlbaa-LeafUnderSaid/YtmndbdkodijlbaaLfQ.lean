/- What scorialaw09.refs and awake answer, scoriaref09.Same and SameExts of two that read alike, and scoriaref09.Under. No condition but those that each theorem names. -/
import Derived.Test.YtmndbdkodijlbaaLfR
import Derived.Test.YtmndbdkodijlbaaLfU
import Derived.Deep.AppendLies
namespace Go.Proofs.Ytmndbdkodijlbaa
open Go.RowKit
namespace LF
open MM FM EX
set_option linter.unusedVariables false
set_option linter.unusedSimpArgs false

theorem lexs_get {w : World} {A : Option Addr} {l : List Ext} (h : Exs w A l) {k : Nat} {x : Ext} (hx : l[k]? = some x) : ∃ b off, A = some ⟨b, off, none⟩ ∧ Cells4 w b (off + k * 4) x := by
  rcases h with h | ⟨b, off, h1, h2, h3⟩
  · rw [h] at hx; simp at hx
  · exact ⟨b, off, h1, h3 k x hx⟩
theorem lkds_get {w : World} {A : Option Addr} {l : List Kid} (h : Kds w A l) {k : Nat} {x : Kid} (hx : l[k]? = some x) : ∃ b off, A = some ⟨b, off, none⟩ ∧ Cells2 w b (off + k * 2) x := by
  rcases h with h | ⟨b, off, h1, h2, h3⟩
  · rw [h] at hx; simp at hx
  · exact ⟨b, off, h1, h3 k x hx⟩
theorem info_rkid : (Try.prog.info? 68).map (fun i => (i.zero, i.size, i.bytes)) = some (some (.agg #[.int .i64 0, .int .i64 0]), 2, 16) := by kernel_rfl
def RowK (R : List Kid) (w : World) (r : Ending) (w' : World) : Prop := ∃ (A : Option Addr) (n c : Nat), r = .returned (.slice A n c) ∧ n = R.length ∧ Kds w' A R ∧ Below w.heap.size w w'
set_option maxHeartbeats 2000000 in
theorem krefs_any (L : List Kid) (len cap : Nat) (hlen : len = L.length) (hm : len ≤ 100000000) (a : Option Addr) (w : World) (hr : Kds w a L) :
    Calls Try.prog 15 #[.slice a len cap] w (RowK L w) := by
  obtain ⟨i0, hi, hz0, hz1, hz2⟩ := info_parts info_rkid
  have HR := Lib.hid hr
  have HL := Lib.hid hlen
  clear hr hlen
  go_enter Try.func15, Try.ntmps15
  go_wp2
  go_loopw [3, 4] (fun x i wr => ∃ (k : Nat) (A : Option Addr) (c : Nat), k ≤ len ∧ i = .int .i64 k ∧ x = .slice A k c ∧ wr.ownsRow w.heap.size 68 2 (.slice A k c) k (kdCells (L.take k)) ∧ Below w.heap.size w wr) (fun _ i _ => len - (intOf i).toNat)
  case atStart => exact ⟨0, none, 0, Nat.zero_le _, rfl, rfl, World.ownsRow_nil _ _ _ _, Below.refl _ _⟩
  case round =>
    obtain ⟨k, A, c, hk, rfl, rfl, hown, hbel⟩ := hrel
    have HB0 := Lib.hid hbel
    have HOW := Lib.hid hown
    by_cases hlt : k < len
    · obtain ⟨e, he⟩ : ∃ e, L[k]? = some e := ⟨_, List.getElem?_eq_getElem (by rw [← HL.out]; exact hlt)⟩
      obtain ⟨b, off, rfl, hb, hc⟩ := kds_get HR.out he
      obtain ⟨q0, q1⟩ := (hc k e he).kept hbel hb
      have HE := Lib.hid he
      have t1 : (k : Int) < (len : Int) := by omega
      have t2 : (0 : Int) ≤ (k : Int) := by omega
      have hsz : w.heap.size ≤ wr.heap.size := hbel.size
      clear hc he hbel hown
      go_wp2_with (at_builtin; refine wpList_append_own _ rfl _ _ 35 rfl w.heap.size 68 i0 (.agg #[.int .i64 0, .int .i64 0]) 2 16 Try.underlying35 hi hz0 hz1 hz2 rfl (by decide) _ _ _ rfl (HOW.out.alloc _) ⟨wr.heap.size, 0, none⟩ 1 1 [.int .i64 e.key, .int .i64 e.at_] rfl rfl ?c1 ?c2 ?c3 ?c4 ?c5 ?_)
      case c1 => exact new_cells _ _ _
      case c2 => intro u hu; simp at hu; rcases hu with rfl | rfl <;> rfl
      case c3 => unfold maxLen; omega
      case c4 => omega
      case c5 => simp; omega
      intro v8 w8 own8 hgrow _
      have own9 : w8.ownsRow w.heap.size 68 2 v8 (k + 1) (kdCells (L.take (k + 1))) := by
        have e9 : L.take (k + 1) = L.take k ++ [e] := by rw [List.take_add_one, HE.out]; rfl
        rw [e9, ← kdCells_snoc]; exact own8
      have hl8 : Below w.heap.size w w8 := (HB0.out.alloc hsz _).grown hgrow (by simp; omega) (fun j hj => (HOW.out.lt j hj).1)
      obtain ⟨A8, c8, rfl⟩ := own_slice own9
      have O8 := Lib.hid own9
      have L8 := Lib.hid hl8
      clear own8 own9 hl8 hgrow
      go_wp2
      go_roundw
      case rel => exact ⟨k + 1, A8, c8, by omega, by go_num, rfl, O8.out, L8.out⟩
      case measure => simp [intOf]; omega
    · obtain rfl : k = len := by omega
      have i0' : ¬ (k : Int) < (k : Int) := by omega
      clear hbel hown
      go_wp2
      go_ret
      have h1 := HOW.out
      rw [List.take_of_length_le (by rw [← HL.out]; exact Nat.le_refl _)] at h1
      have h2 : wr.ownsRow w.heap.size 68 2 (.slice A k c) L.length (kdCells L) := by rw [← HL.out]; exact h1
      obtain ⟨A', c', e1, e2⟩ := own_kds h2
      exact ⟨A, k, c, rfl, HL.out, by rw [(Value.slice.inj e1).1]; exact e2, HB0.out⟩
set_option maxHeartbeats 1000000 in
theorem sameExts_yes (L : List Ext) (len ca cb : Nat) (hlen : len = L.length) (hm : len ≤ 100000000) (a b : Option Addr) (w : World) (h1 : Exs w a L) (h2 : Exs w b L) :
    Calls Try.prog 20 #[.slice a len ca, .slice b len cb] w fun r w' => r = .returned (.bool true) ∧ Below w.heap.size w w' := by
  have H1 := Lib.hid h1
  have H2 := Lib.hid h2
  have HL := Lib.hid hlen
  clear h1 h2 hlen
  go_enter Try.func20, Try.ntmps20
  go_wp2
  go_loopw [5] (fun i wr => ∃ k : Nat, k ≤ len ∧ i = .int .i64 k ∧ Below w.heap.size w wr) (fun i _ => len - (intOf i).toNat)
  case atStart => exact ⟨0, Nat.zero_le _, rfl, Below.refl _ _⟩
  case round =>
    obtain ⟨k, hk, rfl, hbel⟩ := hrel
    by_cases hlt : k < len
    · obtain ⟨e, he⟩ : ∃ e, L[k]? = some e := ⟨_, List.getElem?_eq_getElem (by rw [← HL.out]; exact hlt)⟩
      obtain ⟨b1, o1, rfl, p0, p1, p2, p3⟩ := lexs_get (H1.out.below hbel) he
      obtain ⟨b2, o2, rfl, q0, q1, q2, q3⟩ := lexs_get (H2.out.below hbel) he
      have t1 : (k : Int) < (len : Int) := by omega
      have t2 : (0 : Int) ≤ (k : Int) := by omega
      have HD : Hid (∀ n, Below w.heap.size w (wr.drewN n)) := Lib.hid fun n => drewN_below hbel n
      clear he hbel
      go_wp2
      go_quiet (fail)
      go_wp2
      go_roundw
      case rel => exact ⟨k + 1, by omega, by go_num, HD.out _⟩
      case measure => simp [intOf]; omega
    · obtain rfl : k = len := by omega
      have i0 : ¬ (k : Int) < (k : Int) := by omega
      go_wp2
      go_ret
      exact ⟨rfl, hbel⟩
set_option maxHeartbeats 1000000 in
theorem same_yes (L : List Kid) (len ca cb : Nat) (hlen : len = L.length) (hm : len ≤ 100000000) (a b : Option Addr) (w : World) (h1 : Kds w a L) (h2 : Kds w b L) :
    Calls Try.prog 21 #[.slice a len ca, .slice b len cb] w fun r w' => r = .returned (.bool true) ∧ Below w.heap.size w w' := by
  have H1 := Lib.hid h1
  have H2 := Lib.hid h2
  have HL := Lib.hid hlen
  clear h1 h2 hlen
  go_enter Try.func21, Try.ntmps21
  go_wp2
  go_loopw [5] (fun i wr => ∃ k : Nat, k ≤ len ∧ i = .int .i64 k ∧ Below w.heap.size w wr) (fun i _ => len - (intOf i).toNat)
  case atStart => exact ⟨0, Nat.zero_le _, rfl, Below.refl _ _⟩
  case round =>
    obtain ⟨k, hk, rfl, hbel⟩ := hrel
    by_cases hlt : k < len
    · obtain ⟨e, he⟩ : ∃ e, L[k]? = some e := ⟨_, List.getElem?_eq_getElem (by rw [← HL.out]; exact hlt)⟩
      obtain ⟨b1, o1, rfl, p0, p1⟩ := lkds_get (H1.out.below hbel) he
      obtain ⟨b2, o2, rfl, q0, q1⟩ := lkds_get (H2.out.below hbel) he
      have t1 : (k : Int) < (len : Int) := by omega
      have t2 : (0 : Int) ≤ (k : Int) := by omega
      have HD : Hid (∀ n, Below w.heap.size w (wr.drewN n)) := Lib.hid fun n => drewN_below hbel n
      clear he hbel
      go_wp2
      go_quiet (fail)
      go_wp2
      go_roundw
      case rel => exact ⟨k + 1, by omega, by go_num, HD.out _⟩
      case measure => simp [intOf]; omega
    · obtain rfl : k = len := by omega
      have i0 : ¬ (k : Int) < (k : Int) := by omega
      go_wp2
      go_ret
      exact ⟨rfl, hbel⟩

/-- The worked example. -/
theorem aw_leaf : Leafy [⟨3, 2, 2, 7⟩] := by decide +kernel
theorem aw_bytes : str (nodeB eB [⟨3, 2, 2, 7⟩]) = ⟨#[1, 3, 0, 0, 2, 0, 0, 0, 2, 7, 0]⟩ := by decide +kernel
theorem aw_good : Good nK [2, 0, 0, 0, 5, 0, 9, 0, 0, 6, 0] [⟨0, 5⟩, ⟨9, 6⟩] := by
  refine ⟨?_, ?_⟩
  · show Kidy _
    decide +kernel
  · show nodeB kB _ = _
    decide +kernel
set_option maxHeartbeats 4000000 in
theorem awake_any (w : World) : Calls Try.prog 9 #[] w fun r w' => r = .returned (.bool true) ∧ Below w.heap.size w w' := by
  obtain ⟨W, hW⟩ : ∃ W, W = w.alloc (.cells #[.int .i64 3, .int .i64 2, .int .i64 2, .int .i64 7] 55) := ⟨_, rfl⟩
  have hb0 : Below w.heap.size w W := by rw [hW]; exact below_box w _
  have hblk : Blk W w.heap.size 55 #[.int .i64 3, .int .i64 2, .int .i64 2, .int .i64 7] := by rw [hW]; exact Blk.new w _ _
  have hx0 : Exs W (some ⟨w.heap.size, 0, none⟩) [⟨3, 2, 2, 7⟩] := .inr ⟨w.heap.size, 0, rfl, hblk.lt, fun i e hi => by
    match i, hi with
    | 0, hi =>
      have : e = ⟨3, 2, 2, 7⟩ := by simpa using hi.symm
      subst this
      exact ⟨hblk.cell 0, hblk.cell 1, hblk.cell 2, hblk.cell 3⟩
    | i + 1, hi => simp at hi⟩
  have h1 := Leaf_ok [⟨3, 2, 2, 7⟩] 1 1 rfl (by unfold maxLen; decide) (some ⟨w.heap.size, 0, none⟩) W hx0 aw_leaf
  rw [aw_bytes] at h1
  have HL := Lib.hid h1
  have HI : Hid (∀ w : World, Calls Try.prog 18 #[.string ⟨#[2, 0, 0, 0, 5, 0, 9, 0, 0, 6, 0]⟩] w fun r w' => ∃ b off c, r = .returned (.tuple #[.slice (some ⟨b, off, none⟩) 2 c, .int .i64 0]) ∧ w'.cell? ⟨b, off + 2, none⟩ = some (.int .i64 9) ∧ w'.cell? ⟨b, off + 3, none⟩ = some (.int .i64 6) ∧ Below w.heap.size w w') := Lib.hid fun w => by
    refine (ReadInner_any [2, 0, 0, 0, 5, 0, 9, 0, 0, 6, 0] (by decide) w).mono ?_
    rintro r w' (⟨L, A, n, c, hg, rfl, hn, _, hr, hb⟩ | ⟨hno, _⟩)
    · obtain rfl : L = [⟨0, 5⟩, ⟨9, 6⟩] := says_one nK hg aw_good
      obtain ⟨b, off, rfl, hlt, hc⟩ := kds_get hr (k := 1) (x := ⟨9, 6⟩) rfl
      obtain ⟨c0, c1⟩ := hc 1 ⟨9, 6⟩ rfl
      obtain rfl : n = 2 := hn
      exact ⟨b, off, c, rfl, c0, c1, hb⟩
    · exact absurd aw_good (hno _)
  have HW := Lib.hid hW
  have HB0 := Lib.hid hb0
  clear hW hb0 hblk hx0 h1
  go_enter Try.func9, Try.ntmps9
  go_wp2_with fail
  rw [← HW.out]
  refine HL.out.mono ?_
  rintro r w1 ⟨rfl, hb1⟩
  have HB1 := Lib.hid (bkept HB0.out hb1)
  clear hb1
  go_wp2_with fail
  refine (HI.out _).mono ?_
  rintro r w2 ⟨b, off, c, rfl, c0, c1, hb2⟩
  have HB2 := Lib.hid (bkept HB1.out hb2)
  clear hb2
  go_wp2
  go_ret
  exact ⟨rfl, HB2.out⟩

theorem und_yes {L : List Kid} {s : Int} {k : Nat} {e : Kid} (he : L[k]? = some e) (h : e.key ≤ s) : und L s (k + 1) = k := by
  show (if (L.getD k default).key ≤ s then k else und L s k) = k
  rw [getD_at he, if_pos h]
theorem und_no {L : List Kid} {s : Int} {k : Nat} {e : Kid} (he : L[k]? = some e) (h : ¬ e.key ≤ s) : und L s (k + 1) = und L s k := by
  show (if (L.getD k default).key ≤ s then k else und L s k) = _
  rw [getD_at he, if_neg h]
set_option maxHeartbeats 2000000 in
theorem runder_any (L : List Kid) (len cap : Nat) (hlen : len = L.length) (hm : len ≤ 100000000) (a : Option Addr) (s : Int) (w : World) (hr : Kds w a L) :
    Calls Try.prog 23 #[.slice a len cap, .int .i64 s] w fun r w' => r = .returned (.int .i64 (und L s len : Nat)) ∧ w = w' := by
  have HR := Lib.hid hr
  have HL := Lib.hid hlen
  clear hr hlen
  go_enter Try.func23, Try.ntmps23
  go_wp2
  go_loopw [5, 6] (fun x i wr => ∃ k u : Nat, k ≤ len ∧ i = .int .i64 k ∧ x = .int .i64 u ∧ Hid (u = und L s k) ∧ w = wr) (fun _ i _ => len - (intOf i).toNat)
  case atStart => exact ⟨0, 0, Nat.zero_le _, rfl, rfl, Lib.hid rfl, rfl⟩
  case round =>
    obtain ⟨k, u, hk, rfl, rfl, HU, rfl⟩ := hrel
    by_cases hlt : k < len
    · obtain ⟨e, he⟩ : ∃ e, L[k]? = some e := ⟨_, List.getElem?_eq_getElem (by rw [← HL.out]; exact hlt)⟩
      obtain ⟨b, off, rfl, hb, hc⟩ := kds_get HR.out he
      obtain ⟨q0, q1⟩ := hc k e he
      have HE := Lib.hid he
      have t1 : (k : Int) < (len : Int) := by omega
      have t2 : (0 : Int) ≤ (k : Int) := by omega
      clear hc he
      by_cases hs : e.key ≤ s
      · have HN := Lib.hid (und_yes HE.out hs)
        go_wp2
        go_roundw
        case rel => exact ⟨k + 1, k, by omega, by go_num, rfl, Lib.hid HN.out.symm, trivial⟩
        case measure => simp [intOf]; omega
      · have hs' : decide (e.key ≤ s) = false := decide_eq_false hs
        have HN := Lib.hid (und_no HE.out hs)
        clear hs
        go_wp2
        go_roundw
        case rel => exact ⟨k + 1, u, by omega, by go_num, rfl, Lib.hid (HU.out.trans HN.out.symm), trivial⟩
        case measure => simp [intOf]; omega
    · obtain rfl : k = len := by omega
      have i0 : ¬ (k : Int) < (k : Int) := by omega
      go_wp2
      go_ret
      exact ⟨by rw [HU.out]; rfl, rfl⟩
end LF
end Go.Proofs.Ytmndbdkodijlbaa
