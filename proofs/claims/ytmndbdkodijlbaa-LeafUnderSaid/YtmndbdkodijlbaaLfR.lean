/- What leaf.read answers at both its types, and leaf.ReadLeaf and leaf.ReadInner: of any bytes. Condition: no text is longer than 2^47 bytes. -/
import Derived.Test.YtmndbdkodijlbaaLfW
import Derived.Test.YtmndbdkodijlbaaTake
import Derived.Test.YtmndbdkodijlbaaSame
import Derived.Laws.AppendOwn
namespace Go.Proofs.Ytmndbdkodijlbaa
open Go.RowKit
namespace LF
open MM FM EX
set_option linter.unusedVariables false
set_option linter.unusedSimpArgs false

/-- Bytes that say a node, and the node. -/
def Good {T : Type} (X : Nodes T) (s : List UInt8) (L : List T) : Prop := X.ok L ∧ nodeB X.row L = s
/-- How reading ends. -/
def REnd {T : Type} (X : Nodes T) (rows : World → Option Addr → List T → Prop) (s : List UInt8) (w : World) (r : Ending) (w' : World) : Prop :=
  (∃ L A n c, Good X s L ∧ r = .returned (.tuple #[.slice A n c, .int .i64 0]) ∧ n = L.length ∧ n ≤ c ∧ rows w' A L ∧ Below w.heap.size w w') ∨
  ((∀ L, ¬ Good X s L) ∧ r = .returned (.tuple #[.slice none 0 0, .int .i64 3]) ∧ Below w.heap.size w w')
theorem REnd.far {T : Type} {X : Nodes T} {rows : World → Option Addr → List T → Prop} {s : List UInt8} {w w1 w2 : World} {r : Ending} (h : REnd X rows s w1 r w2) (hb : Below w.heap.size w w1) : REnd X rows s w r w2 := by
  rcases h with ⟨L, A, n, c, h1, h2, h3, h6, h4, h5⟩ | ⟨h1, h2, h3⟩
  · exact .inl ⟨L, A, n, c, h1, h2, h3, h6, h4, bkept hb h5⟩
  · exact .inr ⟨h1, h2, bkept hb h3⟩
theorem good_iff {T : Type} (X : Nodes T) (c : UInt8) (r : List UInt8) (L : List T) : Good X (c :: r) L ↔ r.length = X.wd * c.toNat ∧ L = decs X.dec X.wd c.toNat r ∧ X.ok L := by
  unfold Good
  rw [says_iff]
  constructor
  · rintro ⟨c', r', h1, h2, h3, h4⟩
    injection h1 with e1 e2
    subst e1 e2
    exact ⟨h2, h3, h4⟩
  · rintro ⟨h1, h2, h3⟩; exact ⟨c, r, rfl, h1, h2, h3⟩
theorem good_nil {T : Type} (X : Nodes T) (L : List T) : ¬ Good X [] L := by
  unfold Good
  rw [says_iff]
  rintro ⟨c, r, h, _⟩; cases h
theorem wd1_ok : ∀ i, i < 1 → ¬ Bad ((fun _ => 1 : Nat → Int) i) := by
  intro i hi h; rcases h with h | h <;> (simp at h)
theorem ext_str (t : List UInt8) (n : Nat) : (str t).extract n (str t).size = str (t.drop n) := by
  have e : (str t).size = t.length := str_size t
  rw [e]
  apply ByteArray.ext
  apply Array.ext'
  show ((str t).extract n t.length).data.toList = t.drop n
  simp [str, ByteArray.extract, ByteArray.copySlice]
  exact List.take_of_length_le (by rw [List.length_drop]; exact Nat.le_refl _)
theorem str_data (t : List UInt8) : (str t).data.toList = t := rfl
/-- What Take answers at the front of a text: the row, or that it is short. -/
theorem take_any (Z : Nat → Int) (n : Nat) (hn : 1 ≤ n) (hn3 : n ≤ 300) (hz : ∀ i, i < n → ¬ Bad (Z i)) (t : List UInt8) (hl : t.length ≤ 140737488351232) (w : World) (a : Option Addr) (c : Nat) (hr : Row .i64 w a n Z) :
    Calls Try.prog 50 #[.string (str t), .slice a n c] w fun e w' =>
      (pos Z n ≤ t.length ∧ ∃ b off c2, e = .returned (.tuple #[.slice (some ⟨b, off, none⟩) n c2, .string (str (t.drop (pos Z n))), .int .i64 0]) ∧ b < w'.heap.size ∧ (∀ i, i < n → w'.cell? ⟨b, off + i, none⟩ = some (.int .u64 (num t Z i : Int))) ∧ Below w.heap.size w w') ∨
      (t.length < pos Z n ∧ e = .returned (.tuple #[.slice none 0 0, .string ⟨#[]⟩, .int .i64 5]) ∧ Below w.heap.size w w') := by
  obtain ⟨J, hJ, hin, hout⟩ := place_of Z n (str t).size
  refine (take_good (str t) (by rw [str_size]; exact hl) a n c Z hn3 w hr hz J hJ hin hout).mono fun e w' h => ?_
  rw [str_size] at hin hout
  rcases Nat.lt_or_ge J n with hJn | hJn
  · exact .inr ⟨by have := hout hJn; have := pos_mono Z (show J + 1 ≤ n by omega); omega, h.2 hJn⟩
  · obtain rfl : J = n := by omega
    left
    obtain ⟨v, rfl, hown, hb⟩ := h.1 rfl
    obtain ⟨x, c2, rfl, hrow⟩ := own_row hown
    rcases hrow with h0 | ⟨b, off, rfl, hlt, hc⟩
    · omega
    · exact ⟨hin, b, off, c2, by rw [ext_str], hlt, hc, hb⟩
theorem take_ok (Z : Nat → Int) (n : Nat) (hn : 1 ≤ n) (hn3 : n ≤ 300) (hz : ∀ i, i < n → ¬ Bad (Z i)) (t : List UInt8) (hl : t.length ≤ 140737488351232) (hp : pos Z n ≤ t.length) (w : World) (a : Option Addr) (c : Nat) (hr : Row .i64 w a n Z) :
    Calls Try.prog 50 #[.string (str t), .slice a n c] w fun e w' => ∃ b off c2, e = .returned (.tuple #[.slice (some ⟨b, off, none⟩) n c2, .string (str (t.drop (pos Z n))), .int .i64 0]) ∧ b < w'.heap.size ∧ (∀ i, i < n → w'.cell? ⟨b, off + i, none⟩ = some (.int .u64 (num t Z i : Int))) ∧ Below w.heap.size w w' :=
  (take_any Z n hn hn3 hz t hl w a c hr).mono fun e w' h => by
    rcases h with h | h
    · exact h.2
    · exact absurd h.1 (by omega)
theorem take_short (Z : Nat → Int) (n : Nat) (hn : 1 ≤ n) (hn3 : n ≤ 300) (hz : ∀ i, i < n → ¬ Bad (Z i)) (t : List UInt8) (hl : t.length ≤ 140737488351232) (hp : t.length < pos Z n) (w : World) (a : Option Addr) (c : Nat) (hr : Row .i64 w a n Z) :
    Calls Try.prog 50 #[.string (str t), .slice a n c] w fun e w' => e = .returned (.tuple #[.slice none 0 0, .string ⟨#[]⟩, .int .i64 5]) ∧ Below w.heap.size w w' :=
  (take_any Z n hn hn3 hz t hl w a c hr).mono fun e w' h => by
    rcases h with h | h
    · exact absurd h.1 (by omega)
    · exact h.2
theorem info_ext : (Try.prog.info? 55).map (fun i => (i.zero, i.size, i.bytes)) = some (some (.agg #[.int .i64 0, .int .i64 0, .int .i64 0, .int .i64 0]), 4, 32) := by kernel_rfl
theorem info_kid : (Try.prog.info? 57).map (fun i => (i.zero, i.size, i.bytes)) = some (some (.agg #[.int .i64 0, .int .i64 0]), 2, 16) := by kernel_rfl
theorem i64_nat {n : Nat} (h : n < 9223372036854775808) : IntKind.i64.wrap (n : Int) = (n : Int) := IntWalk.i64_in _ (by omega)
set_option maxHeartbeats 4000000 in
theorem extOf_any (b o c : Nat) (n0 n1 n2 n3 : Nat) (h0 : n0 < 4294967296) (h1 : n1 < 4294967296) (h2 : n2 < 4294967296) (h3 : n3 < 4294967296) (w : World) (hb : b < w.heap.size)
    (c0 : w.cell? ⟨b, o, none⟩ = some (.int .u64 (n0 : Int))) (c1 : w.cell? ⟨b, o + 1, none⟩ = some (.int .u64 (n1 : Int))) (c2 : w.cell? ⟨b, o + 2, none⟩ = some (.int .u64 (n2 : Int))) (c3 : w.cell? ⟨b, o + 3, none⟩ = some (.int .u64 (n3 : Int))) :
    Calls Try.prog 36 #[.slice (some ⟨b, o, none⟩) 4 c] w fun r w' => r = .returned (.agg #[.int .i64 n0, .int .i64 n1, .int .i64 n2, .int .i64 n3]) ∧ Below w.heap.size w w' := by
  have w0 := i64_nat (n := n0) (by omega)
  have w1 := i64_nat (n := n1) (by omega)
  have w2 := i64_nat (n := n2) (by omega)
  have w3 := i64_nat (n := n3) (by omega)
  have k1 : Blk (w.alloc (.cells #[.int .i64 0, .int .i64 0, .int .i64 0, .int .i64 0] 55)) w.heap.size 55 #[.int .i64 0, .int .i64 0, .int .i64 0, .int .i64 0] := Blk.new w _ _
  have hbb := below_box w (.cells #[.int .i64 0, .int .i64 0, .int .i64 0, .int .i64 0] 55)
  have d0 := (hbb.cell (p := ⟨b, o, none⟩) hb).trans c0
  have d1 := (hbb.cell (p := ⟨b, o + 1, none⟩) hb).trans c1
  have d2 := (hbb.cell (p := ⟨b, o + 2, none⟩) hb).trans c2
  have d3 := (hbb.cell (p := ⟨b, o + 3, none⟩) hb).trans c3
  obtain ⟨W, hW⟩ : ∃ W, W = w.alloc (.cells #[.int .i64 0, .int .i64 0, .int .i64 0, .int .i64 0] 55) := ⟨_, rfl⟩
  rw [← hW] at k1 hbb d0 d1 d2 d3
  have K1 := Lib.hid k1
  have HBB := Lib.hid hbb
  have HW := Lib.hid hW
  obtain ⟨⟨_, _, _, _⟩, f0, f1, f2, f3⟩ := cells4 k1
  clear c0 c1 c2 c3 hW k1 hbb
  go_enter Try.func36, Try.ntmps36
  go_wp2
  rw [← HW.out]
  go_region
  go_wp2
  exact ret_cell rfl _ _ _ _ _ _ _ rfl rfl (stored4 K1.out _ _ _ _) Try.underlying55 rfl (by kernel_rfl) ⟨rfl, (stored4_below HBB.out (Nat.le_refl _) _ _ _ _).drew⟩
set_option maxHeartbeats 4000000 in
theorem kidOf_any (b o c : Nat) (n0 n1 : Nat) (h0 : n0 < 4294967296) (h1 : n1 < 4294967296) (w : World) (hb : b < w.heap.size)
    (c0 : w.cell? ⟨b, o, none⟩ = some (.int .u64 (n0 : Int))) (c1 : w.cell? ⟨b, o + 1, none⟩ = some (.int .u64 (n1 : Int))) :
    Calls Try.prog 39 #[.slice (some ⟨b, o, none⟩) 2 c] w fun r w' => r = .returned (.agg #[.int .i64 n0, .int .i64 n1]) ∧ Below w.heap.size w w' := by
  have w0 := i64_nat (n := n0) (by omega)
  have w1 := i64_nat (n := n1) (by omega)
  have k1 : Blk (w.alloc (.cells #[.int .i64 0, .int .i64 0] 57)) w.heap.size 57 #[.int .i64 0, .int .i64 0] := Blk.new w _ _
  have hbb := below_box w (.cells #[.int .i64 0, .int .i64 0] 57)
  have d0 := (hbb.cell (p := ⟨b, o, none⟩) hb).trans c0
  have d1 := (hbb.cell (p := ⟨b, o + 1, none⟩) hb).trans c1
  obtain ⟨W, hW⟩ : ∃ W, W = w.alloc (.cells #[.int .i64 0, .int .i64 0] 57) := ⟨_, rfl⟩
  rw [← hW] at k1 hbb d0 d1
  have K1 := Lib.hid k1
  have HBB := Lib.hid hbb
  have HW := Lib.hid hW
  obtain ⟨⟨_, _⟩, f0, f1⟩ := cells2 k1
  clear c0 c1 hW k1 hbb
  go_enter Try.func39, Try.ntmps39
  go_wp2
  rw [← HW.out]
  go_region
  go_wp2
  exact ret_cell rfl _ _ _ _ _ _ _ rfl rfl ((K1.out.set_ 0 _).set_ 1 _) Try.underlying57 rfl (by kernel_rfl) ⟨rfl, ((HBB.out.setCell (Nat.le_refl _) _).setCell (Nat.le_refl _) _).drew⟩

theorem dec_wf (l : List UInt8) : WfE (decE l) := by
  have key : ∀ (t : List UInt8) (n : Nat), n ≤ 4 → I64 ((val (t.take n) : Nat) : Int) := by
    intro t n hn
    have h := val_lt (t.take n)
    have h2 : 256 ^ (t.take n).length ≤ 256 ^ 4 := Nat.pow_le_pow_right (by decide) (by rw [List.length_take]; omega)
    unfold I64; omega
  exact ⟨key _ _ (by decide), key _ _ (by decide), key _ _ (by decide), key _ _ (by decide)⟩
theorem own_cap {w : World} {base : Nat} {e : TypeId} {size : Nat} {A : Option Addr} {k c n : Nat} {xs : List Value} (h : w.ownsRow base e size (.slice A k c) n xs) : k ≤ c := by
  rcases h.2 with ⟨h1, h2⟩ | ⟨g, cap, cur, h1, _, _, h2, _⟩
  · injection h1 with _ e1 e2
    omega
  · injection h1 with _ e1 e2
    omega

theorem num_E (t : List UInt8) : decE t = ⟨(num t WdE 0 : Nat), (num t WdE 1 : Nat), (num t WdE 2 : Nat), (num t WdE 3 : Nat)⟩ := rfl
theorem num_E_lt (t : List UInt8) (i : Nat) (hi : i < 4) : num t WdE i < 4294967296 := by
  unfold num
  have h := val_lt ((t.drop (pos WdE i)).take (WdE i).toNat)
  have h2 : ((t.drop (pos WdE i)).take (WdE i).toNat).length ≤ 4 := by
    rw [List.length_take]
    obtain rfl | rfl | rfl | rfl : i = 0 ∨ i = 1 ∨ i = 2 ∨ i = 3 := by omega
    all_goals (simp only [WdE]; omega)
  have h3 : 256 ^ ((t.drop (pos WdE i)).take (WdE i).toNat).length ≤ 256 ^ 4 := Nat.pow_le_pow_right (by decide) h2
  omega
set_option maxHeartbeats 8000000 in
theorem readE_any (s : List UInt8) (hs : s.length ≤ 140737488351232) (wa : Option Addr) (wc : Nat) (w : World) (hw : Row .i64 w wa 4 WdE) :
    Calls Try.prog 35 #[.string (str s), .func (.func 25) #[] #[], .slice wa 4 wc, .func (.func 36) #[] #[]] w (REnd nE Exs s w) := by
  obtain ⟨i0, hi, hz0, hz1, hz2⟩ := info_parts info_ext
  have HWD := Lib.hid hw
  clear hw
  rcases s with _ | ⟨c, t⟩
  · have HT : Hid (∀ (w : World) (a : Option Addr) (c : Nat), Row .i64 w a 1 (fun _ => 1) → Calls Try.prog 50 #[.string (str []), .slice a 1 c] w fun e w' => e = .returned (.tuple #[.slice none 0 0, .string ⟨#[]⟩, .int .i64 5]) ∧ Below w.heap.size w w') :=
      Lib.hid fun w a c hr => take_short (fun _ => 1) 1 (by decide) (by decide) wd1_ok [] hs (by decide) w a c hr
    obtain ⟨S0, hS0⟩ : ∃ S, S = str [] := ⟨_, rfl⟩
    rw [← hS0] at HT
    rw [← hS0]
    clear hS0
    go_enter Try.func35, Try.ntmps35
    go_wp2_with fail
    refine (HT.out _ _ _ (row1 .i64 w 3 1 _ rfl)).mono ?_
    rintro e w1 ⟨rfl, hb1⟩
    have HB1 := Lib.hid (bkept (below_box w _) hb1)
    clear hb1
    go_wp2
    go_ret2
    exact .inr ⟨fun L => good_nil _ L, rfl, HB1.out⟩
  · have hcl := c.toNat_lt
    obtain ⟨n, hn⟩ : ∃ n, n = c.toNat := ⟨_, rfl⟩
    have hn256 : n < 256 := by omega
    have HG : Hid (∀ L, Good nE (c :: t) L ↔ t.length = 10 * n ∧ L = decs decE 10 n t ∧ Leafy L) := Lib.hid fun L => by rw [hn]; exact good_iff nE c t L
    have hl : t.length ≤ 140737488351231 := by simp at hs; omega
    obtain ⟨TT, hTT⟩ : ∃ TT : Nat → ByteArray, ∀ k, TT k = str (t.drop (10 * k)) := ⟨_, fun _ => rfl⟩
    obtain ⟨S0, hS0⟩ : ∃ S, S = str (c :: t) := ⟨_, rfl⟩
    have HT0 : Hid (∀ (w : World) (a : Option Addr) (c : Nat), Row .i64 w a 1 (fun _ => 1) → Calls Try.prog 50 #[.string S0, .slice a 1 c] w fun e w' => ∃ b off c2, e = .returned (.tuple #[.slice (some ⟨b, off, none⟩) 1 c2, .string (TT 0), .int .i64 0]) ∧ b < w'.heap.size ∧ w'.cell? ⟨b, off, none⟩ = some (.int .u64 (n : Int)) ∧ Below w.heap.size w w') := Lib.hid fun w a c2 hr => by
      rw [hS0]
      refine (take_ok (fun _ => 1) 1 (by decide) (by decide) wd1_ok (c :: t) hs (by show 0 + 1 ≤ _; simp) w a c2 hr).mono ?_
      rintro e w' ⟨b, off, c3, rfl, hb, hc, hbl⟩
      refine ⟨b, off, c3, by rw [hTT]; rfl, hb, ?_, hbl⟩
      have := hc 0 (by decide)
      rw [show num (c :: t) (fun _ => 1) 0 = n from by rw [hn]; simp [num, pos, val]] at this
      simpa using this
    have HTK : Hid (∀ k, 10 * (k + 1) ≤ t.length → ∀ (w : World) (a : Option Addr) (c : Nat), Row .i64 w a 4 WdE → Calls Try.prog 50 #[.string (TT k), .slice a 4 c] w fun e w' => ∃ b off c2, e = .returned (.tuple #[.slice (some ⟨b, off, none⟩) 4 c2, .string (TT (k + 1)), .int .i64 0]) ∧ b < w'.heap.size ∧ (∀ i, i < 4 → w'.cell? ⟨b, off + i, none⟩ = some (.int .u64 (num (t.drop (10 * k)) WdE i : Int))) ∧ Below w.heap.size w w') := Lib.hid fun k hk w a c2 hr => by
      rw [hTT]
      refine (take_ok WdE 4 (by decide) (by decide) wdE_ok (t.drop (10 * k)) (by rw [List.length_drop]; omega) (by rw [List.length_drop]; show 10 ≤ _; omega) w a c2 hr).mono ?_
      rintro e w' ⟨b, off, c3, rfl, hb, hc, hbl⟩
      refine ⟨b, off, c3, ?_, hb, hc, hbl⟩
      rw [hTT, List.drop_drop]
      rfl
    have HTF : Hid (∀ k, t.length < 10 * (k + 1) → ∀ (w : World) (a : Option Addr) (c : Nat), Row .i64 w a 4 WdE → Calls Try.prog 50 #[.string (TT k), .slice a 4 c] w fun e w' => e = .returned (.tuple #[.slice none 0 0, .string ⟨#[]⟩, .int .i64 5]) ∧ Below w.heap.size w w') := Lib.hid fun k hk w a c2 hr => by
      rw [hTT]
      exact take_short WdE 4 (by decide) (by decide) wdE_ok (t.drop (10 * k)) (by rw [List.length_drop]; omega) (by rw [List.length_drop]; show _ < 10; omega) w a c2 hr
    have HTZ : Hid (t.length = 10 * n → TT n = ⟨#[]⟩) := Lib.hid fun h => by rw [hTT, List.drop_eq_nil_of_le (by omega)]; rfl
    have HTN : Hid (10 * n < t.length → ((TT n).toList == ([] : List UInt8)) = false) := Lib.hid fun h => by
      rw [hTT, str_toList]
      have : t.drop (10 * n) ≠ [] := fun e => by have := congrArg List.length e; rw [List.length_drop] at this; simp at this; omega
      cases hx : t.drop (10 * n) with
      | nil => exact absurd hx this
      | cons a b => rfl
    rw [← hS0]
    clear hS0 hTT hs hcl hn
    go_enter Try.func35, Try.ntmps35
    go_wp2_with fail
    refine (HT0.out _ _ _ (row1 .i64 w 3 1 _ rfl)).mono ?_
    rintro e w1 ⟨b1, o1, c1, rfl, hb1, hc1, hbl1⟩
    have hB1 := bkept (below_box w _) hbl1
    have HB1 := Lib.hid hB1
    have HW1 := Lib.hid (HWD.out.kept hB1 (Nat.le_refl _))
    have hsz1 := hB1.size
    clear hbl1 hB1
    go_wp2
    go_loopw [11, 13, 27] (fun p v i wr => ∃ (k : Nat) (A : Option Addr) (cc : Nat), k ≤ n ∧ i = .int .u64 k ∧ p = .string (TT k) ∧ v = .slice A k cc ∧ Hid (10 * k ≤ t.length) ∧ Hid (wr.ownsRow w1.heap.size 55 4 (.slice A k cc) k (exCells (decs decE 10 k t))) ∧ Below w1.heap.size w1 wr) (fun _ _ i _ => n - (intOf i).toNat)
    case atStart => exact ⟨0, none, 0, Nat.zero_le _, rfl, rfl, rfl, Lib.hid (by simp), Lib.hid (World.ownsRow_nil _ _ _ _), Below.refl _ _⟩
    case round =>
      obtain ⟨k, A, cc, hk, rfl, rfl, rfl, HLE, HOW, hbel⟩ := hrel
      have HBL := Lib.hid hbel
      have hszr := hbel.size
      by_cases hlt : k < n
      · have t1 : (k : Int) < (n : Int) := by omega
        by_cases hfit : 10 * (k + 1) ≤ t.length
        · have HTK1 := Lib.hid (HTK.out k hfit)
          have HFIT := Lib.hid hfit
          clear hbel hfit
          go_wp2_with fail
          refine (HTK1.out _ _ _ (HW1.out.kept HBL.out (Nat.le_refl _))).mono ?_
          rintro e w2 ⟨b2, o2, c2, rfl, hb2, hc2, hbl2⟩
          have HB2 := Lib.hid hbl2
          have HOF := Lib.hid (extOf_any b2 o2 c2 (num (t.drop (10 * k)) WdE 0) (num (t.drop (10 * k)) WdE 1) (num (t.drop (10 * k)) WdE 2) (num (t.drop (10 * k)) WdE 3) (num_E_lt _ 0 (by decide)) (num_E_lt _ 1 (by decide)) (num_E_lt _ 2 (by decide)) (num_E_lt _ 3 (by decide)) w2 hb2 (by simpa using hc2 0 (by decide)) (hc2 1 (by decide)) (hc2 2 (by decide)) (hc2 3 (by decide)))
          have hsz2 : w1.heap.size ≤ w2.heap.size := Nat.le_trans hszr hbl2.size
          clear hc2 hbl2 hb2
          go_wp2_with fail
          refine HOF.out.mono ?_
          rintro e w3 ⟨rfl, hb3⟩
          have hB3 : Below wr.heap.size wr w3 := bkept HB2.out hb3
          have HO3 := Lib.hid (MM.own_kept HOW.out hB3)
          have HB3 := Lib.hid (HBL.out.trans (hB3.mono hszr))
          have hsz3 : w1.heap.size ≤ w3.heap.size := Nat.le_trans hszr hB3.size
          clear hb3 hB3
          go_wp2_with (at_builtin; refine wpList_append_own _ rfl _ _ 22 rfl w1.heap.size 55 i0 (.agg #[.int .i64 0, .int .i64 0, .int .i64 0, .int .i64 0]) 4 32 Try.underlying22 hi hz0 hz1 hz2 rfl (by decide) _ _ _ rfl (HO3.out.alloc _) ⟨w3.heap.size, 0, none⟩ 1 1 [.int .i64 (num (t.drop (10 * k)) WdE 0 : Nat), .int .i64 (num (t.drop (10 * k)) WdE 1 : Nat), .int .i64 (num (t.drop (10 * k)) WdE 2 : Nat), .int .i64 (num (t.drop (10 * k)) WdE 3 : Nat)] rfl rfl ?c1 ?c2 ?c3 ?c4 ?c5 ?_)
          case c1 => exact new_cells _ _ _
          case c2 => intro u hu; simp at hu; rcases hu with rfl | rfl | rfl | rfl <;> rfl
          case c3 => unfold maxLen; omega
          case c4 => omega
          case c5 => simp; omega
          intro v8 w8 own8 hgrow _
          have own9 : w8.ownsRow w1.heap.size 55 4 v8 (k + 1) (exCells (decs decE 10 (k + 1) t)) := by
            rw [decs_snoc, ← exCells_snoc, num_E]; exact own8
          have hl8 : Below w1.heap.size w1 w8 := (HB3.out.alloc hsz3 _).grown hgrow (by simp; omega) (fun j hj => (HO3.out.lt j hj).1)
          obtain ⟨A8, c8, rfl⟩ := own_slice own9
          have O8 := Lib.hid own9
          have L8 := Lib.hid hl8
          clear own8 own9 hl8 hgrow
          go_wp2
          go_roundw
          case rel => exact ⟨k + 1, A8, c8, by omega, by go_num, rfl, rfl, HFIT, O8, L8.out⟩
          case measure => simp [intOf]; omega
        · have HTK1 := Lib.hid (HTF.out k (by omega))
          have HNG : Hid (∀ L, ¬ Good nE (c :: t) L) := Lib.hid fun L h => by
            have := ((HG.out L).1 h).1
            have h3 : 10 * (k + 1) ≤ 10 * n := Nat.mul_le_mul_left _ hlt
            omega
          clear hbel hfit
          go_wp2_with fail
          refine (HTK1.out _ _ _ (HW1.out.kept HBL.out (Nat.le_refl _))).mono ?_
          rintro e w2 ⟨rfl, hb2⟩
          have HB2 := Lib.hid (HB1.out.trans ((HBL.out.trans (hb2.mono hszr)).mono hsz1))
          clear hb2
          go_wp2
          go_ret2
          exact .inr ⟨HNG.out, rfl, HB2.out⟩
      · obtain rfl : k = n := by omega
        have t1 : ¬ (k : Int) < (k : Int) := by omega
        have HBW := Lib.hid (HB1.out.trans (hbel.mono hsz1))
        by_cases hend : t.length = 10 * k
        · obtain ⟨D, hD⟩ : ∃ D, D = decs decE 10 k t := ⟨_, rfl⟩
          have hDl : D.length = k := by rw [hD, decs_len]
          have hO := HOW.out
          rw [← hD] at hO
          have hO' : wr.ownsRow w1.heap.size 55 4 (.slice A k cc) D.length (exCells D) := by rw [hDl]; exact hO
          obtain ⟨A', c', e1, e2⟩ := own_exs hO'
          have hA : A' = A := (Value.slice.inj e1).1.symm
          rw [hA] at e2
          have HROW := Lib.hid e2
          have HDL := Lib.hid hDl
          have HG2 : Hid (∀ L, Good nE (c :: t) L ↔ L = D ∧ Leafy L) := Lib.hid fun L => by
            rw [HG.out L, hD]
            exact ⟨fun h => h.2, fun h => ⟨hend, h⟩⟩
          have hz := HTZ.out hend
          have HMAY := Lib.hid (fun cap => leafMayBe_any D k cap hDl.symm (by unfold maxLen; omega) A wr e2 (fun e he => by rw [hD] at he; obtain ⟨i, _, rfl⟩ := List.mem_map.1 he; exact dec_wf _))
          obtain ⟨EE, hEE⟩ : ∃ E, E = TT k := ⟨_, rfl⟩
          rw [← hEE] at hz ⊢
          subst hz
          clear hEE hD hDl hO hO' e1 e2 hA hend hbel
          by_cases hv : Leafy D
          · rw [decide_eq_true hv] at HMAY
            have HV := Lib.hid hv
            clear hv
            go_wp2_with fail
            refine (HMAY.out _).mono ?_
            rintro e w2 ⟨rfl, hb2⟩
            have HB2 := Lib.hid (bkept HBW.out hb2)
            have HR2 := Lib.hid (HROW.out.below hb2)
            clear hb2
            go_wp2
            go_ret2
            exact .inl ⟨D, A, _, _, (HG2.out D).2 ⟨rfl, HV.out⟩, rfl, HDL.out.symm, own_cap HOW.out, HR2.out, HB2.out⟩
          · rw [decide_eq_false hv] at HMAY
            have HV := Lib.hid hv
            clear hv
            go_wp2_with fail
            refine (HMAY.out _).mono ?_
            rintro e w2 ⟨rfl, hb2⟩
            have HB2 := Lib.hid (bkept HBW.out hb2)
            clear hb2
            go_wp2
            go_ret2
            exact .inr ⟨fun L h => HV.out (by have := (HG2.out L).1 h; rw [← this.1]; exact this.2), rfl, HB2.out⟩
        · have hgt : 10 * k < t.length := by have := HLE.out; omega
          have hne := HTN.out hgt
          have HNG : Hid (∀ L, ¬ Good nE (c :: t) L) := Lib.hid fun L h => hend ((HG.out L).1 h).1
          clear hend hgt hbel
          go_wp2
          go_ret2
          exact .inr ⟨HNG.out, rfl, HBW.out⟩
theorem ReadLeaf_any (s : List UInt8) (hs : s.length ≤ 140737488351232) (w : World) :
    Calls Try.prog 16 #[.string (str s)] w (REnd nE Exs s w) := by
  have HRD := Lib.hid (fun wa w hw => readE_any s hs wa 4 w hw)
  obtain ⟨S0, hS0⟩ : ∃ S, S = str s := ⟨_, rfl⟩
  rw [← hS0] at HRD ⊢
  clear hS0
  go_enter Try.func16, Try.ntmps16
  go_wp2_with fail
  refine (extWidths_any _).mono ?_
  rintro r w1 ⟨rfl, hr1, hb1⟩
  have HB1 := Lib.hid hb1
  have HW := Lib.hid (HRD.out (some ⟨w.heap.size, 0, none⟩) w1 hr1)
  clear hr1 hb1
  go_wp2_with fail
  refine HW.out.mono ?_
  rintro r w2 h2
  rcases h2.far HB1.out with ⟨L, A, n, c, g1, rfl, g2, g5, g3, g4⟩ | ⟨g1, rfl, g4⟩
  · have G1 := Lib.hid g1
    have G5 := Lib.hid g5
    have G2 := Lib.hid g2
    have G3 := Lib.hid g3
    have G4 := Lib.hid g4
    clear g1 g2 g3 g4 g5 h2
    go_wp2
    go_ret2
    exact .inl ⟨L, A, n, c, G1.out, rfl, G2.out, G5.out, G3.out, G4.out⟩
  · have G1 := Lib.hid g1
    have G4 := Lib.hid g4
    clear g1 g4 h2
    go_wp2
    go_ret2
    exact .inr ⟨G1.out, rfl, G4.out⟩

theorem num_K (t : List UInt8) : decK t = ⟨(num t WdK 0 : Nat), (num t WdK 1 : Nat)⟩ := rfl
theorem num_K_lt (t : List UInt8) (i : Nat) (hi : i < 2) : num t WdK i < 4294967296 := by
  unfold num
  have h := val_lt ((t.drop (pos WdK i)).take (WdK i).toNat)
  have h2 : ((t.drop (pos WdK i)).take (WdK i).toNat).length ≤ 4 := by
    rw [List.length_take]
    obtain rfl | rfl : i = 0 ∨ i = 1 := by omega
    all_goals (simp only [WdK]; omega)
  have h3 : 256 ^ ((t.drop (pos WdK i)).take (WdK i).toNat).length ≤ 256 ^ 4 := Nat.pow_le_pow_right (by decide) h2
  omega
set_option maxHeartbeats 8000000 in
theorem readK_any (s : List UInt8) (hs : s.length ≤ 140737488351232) (wa : Option Addr) (wc : Nat) (w : World) (hw : Row .i64 w wa 2 WdK) :
    Calls Try.prog 38 #[.string (str s), .func (.func 31) #[] #[], .slice wa 2 wc, .func (.func 39) #[] #[]] w (REnd nK Kds s w) := by
  obtain ⟨i0, hi, hz0, hz1, hz2⟩ := info_parts info_kid
  have HWD := Lib.hid hw
  clear hw
  rcases s with _ | ⟨c, t⟩
  · have HT : Hid (∀ (w : World) (a : Option Addr) (c : Nat), Row .i64 w a 1 (fun _ => 1) → Calls Try.prog 50 #[.string (str []), .slice a 1 c] w fun e w' => e = .returned (.tuple #[.slice none 0 0, .string ⟨#[]⟩, .int .i64 5]) ∧ Below w.heap.size w w') :=
      Lib.hid fun w a c hr => take_short (fun _ => 1) 1 (by decide) (by decide) wd1_ok [] hs (by decide) w a c hr
    obtain ⟨S0, hS0⟩ : ∃ S, S = str [] := ⟨_, rfl⟩
    rw [← hS0] at HT
    rw [← hS0]
    clear hS0
    go_enter Try.func38, Try.ntmps38
    go_wp2_with fail
    refine (HT.out _ _ _ (row1 .i64 w 3 1 _ rfl)).mono ?_
    rintro e w1 ⟨rfl, hb1⟩
    have HB1 := Lib.hid (bkept (below_box w _) hb1)
    clear hb1
    go_wp2
    go_ret2
    exact .inr ⟨fun L => good_nil _ L, rfl, HB1.out⟩
  · have hcl := c.toNat_lt
    obtain ⟨n, hn⟩ : ∃ n, n = c.toNat := ⟨_, rfl⟩
    have hn256 : n < 256 := by omega
    have HG : Hid (∀ L, Good nK (c :: t) L ↔ t.length = 5 * n ∧ L = decs decK 5 n t ∧ Kidy L) := Lib.hid fun L => by rw [hn]; exact good_iff nK c t L
    have hl : t.length ≤ 140737488351231 := by simp at hs; omega
    obtain ⟨TT, hTT⟩ : ∃ TT : Nat → ByteArray, ∀ k, TT k = str (t.drop (5 * k)) := ⟨_, fun _ => rfl⟩
    obtain ⟨S0, hS0⟩ : ∃ S, S = str (c :: t) := ⟨_, rfl⟩
    have HT0 : Hid (∀ (w : World) (a : Option Addr) (c : Nat), Row .i64 w a 1 (fun _ => 1) → Calls Try.prog 50 #[.string S0, .slice a 1 c] w fun e w' => ∃ b off c2, e = .returned (.tuple #[.slice (some ⟨b, off, none⟩) 1 c2, .string (TT 0), .int .i64 0]) ∧ b < w'.heap.size ∧ w'.cell? ⟨b, off, none⟩ = some (.int .u64 (n : Int)) ∧ Below w.heap.size w w') := Lib.hid fun w a c2 hr => by
      rw [hS0]
      refine (take_ok (fun _ => 1) 1 (by decide) (by decide) wd1_ok (c :: t) hs (by show 0 + 1 ≤ _; simp) w a c2 hr).mono ?_
      rintro e w' ⟨b, off, c3, rfl, hb, hc, hbl⟩
      refine ⟨b, off, c3, by rw [hTT]; rfl, hb, ?_, hbl⟩
      have := hc 0 (by decide)
      rw [show num (c :: t) (fun _ => 1) 0 = n from by rw [hn]; simp [num, pos, val]] at this
      simpa using this
    have HTK : Hid (∀ k, 5 * (k + 1) ≤ t.length → ∀ (w : World) (a : Option Addr) (c : Nat), Row .i64 w a 2 WdK → Calls Try.prog 50 #[.string (TT k), .slice a 2 c] w fun e w' => ∃ b off c2, e = .returned (.tuple #[.slice (some ⟨b, off, none⟩) 2 c2, .string (TT (k + 1)), .int .i64 0]) ∧ b < w'.heap.size ∧ (∀ i, i < 2 → w'.cell? ⟨b, off + i, none⟩ = some (.int .u64 (num (t.drop (5 * k)) WdK i : Int))) ∧ Below w.heap.size w w') := Lib.hid fun k hk w a c2 hr => by
      rw [hTT]
      refine (take_ok WdK 2 (by decide) (by decide) wdK_ok (t.drop (5 * k)) (by rw [List.length_drop]; omega) (by rw [List.length_drop]; show 5 ≤ _; omega) w a c2 hr).mono ?_
      rintro e w' ⟨b, off, c3, rfl, hb, hc, hbl⟩
      refine ⟨b, off, c3, ?_, hb, hc, hbl⟩
      rw [hTT, List.drop_drop]
      rfl
    have HTF : Hid (∀ k, t.length < 5 * (k + 1) → ∀ (w : World) (a : Option Addr) (c : Nat), Row .i64 w a 2 WdK → Calls Try.prog 50 #[.string (TT k), .slice a 2 c] w fun e w' => e = .returned (.tuple #[.slice none 0 0, .string ⟨#[]⟩, .int .i64 5]) ∧ Below w.heap.size w w') := Lib.hid fun k hk w a c2 hr => by
      rw [hTT]
      exact take_short WdK 2 (by decide) (by decide) wdK_ok (t.drop (5 * k)) (by rw [List.length_drop]; omega) (by rw [List.length_drop]; show _ < 5; omega) w a c2 hr
    have HTZ : Hid (t.length = 5 * n → TT n = ⟨#[]⟩) := Lib.hid fun h => by rw [hTT, List.drop_eq_nil_of_le (by omega)]; rfl
    have HTN : Hid (5 * n < t.length → ((TT n).toList == ([] : List UInt8)) = false) := Lib.hid fun h => by
      rw [hTT, str_toList]
      have : t.drop (5 * n) ≠ [] := fun e => by have := congrArg List.length e; rw [List.length_drop] at this; simp at this; omega
      cases hx : t.drop (5 * n) with
      | nil => exact absurd hx this
      | cons a b => rfl
    rw [← hS0]
    clear hS0 hTT hs hcl hn
    go_enter Try.func38, Try.ntmps38
    go_wp2_with fail
    refine (HT0.out _ _ _ (row1 .i64 w 3 1 _ rfl)).mono ?_
    rintro e w1 ⟨b1, o1, c1, rfl, hb1, hc1, hbl1⟩
    have hB1 := bkept (below_box w _) hbl1
    have HB1 := Lib.hid hB1
    have HW1 := Lib.hid (HWD.out.kept hB1 (Nat.le_refl _))
    have hsz1 := hB1.size
    clear hbl1 hB1
    go_wp2
    go_loopw [11, 13, 27] (fun p v i wr => ∃ (k : Nat) (A : Option Addr) (cc : Nat), k ≤ n ∧ i = .int .u64 k ∧ p = .string (TT k) ∧ v = .slice A k cc ∧ Hid (5 * k ≤ t.length) ∧ Hid (wr.ownsRow w1.heap.size 57 2 (.slice A k cc) k (kdCells (decs decK 5 k t))) ∧ Below w1.heap.size w1 wr) (fun _ _ i _ => n - (intOf i).toNat)
    case atStart => exact ⟨0, none, 0, Nat.zero_le _, rfl, rfl, rfl, Lib.hid (by simp), Lib.hid (World.ownsRow_nil _ _ _ _), Below.refl _ _⟩
    case round =>
      obtain ⟨k, A, cc, hk, rfl, rfl, rfl, HLE, HOW, hbel⟩ := hrel
      have HBL := Lib.hid hbel
      have hszr := hbel.size
      by_cases hlt : k < n
      · have t1 : (k : Int) < (n : Int) := by omega
        by_cases hfit : 5 * (k + 1) ≤ t.length
        · have HTK1 := Lib.hid (HTK.out k hfit)
          have HFIT := Lib.hid hfit
          clear hbel hfit
          go_wp2_with fail
          refine (HTK1.out _ _ _ (HW1.out.kept HBL.out (Nat.le_refl _))).mono ?_
          rintro e w2 ⟨b2, o2, c2, rfl, hb2, hc2, hbl2⟩
          have HB2 := Lib.hid hbl2
          have HOF := Lib.hid (kidOf_any b2 o2 c2 (num (t.drop (5 * k)) WdK 0) (num (t.drop (5 * k)) WdK 1) (num_K_lt _ 0 (by decide)) (num_K_lt _ 1 (by decide)) w2 hb2 (by simpa using hc2 0 (by decide)) (hc2 1 (by decide)))
          have hsz2 : w1.heap.size ≤ w2.heap.size := Nat.le_trans hszr hbl2.size
          clear hc2 hbl2 hb2
          go_wp2_with fail
          refine HOF.out.mono ?_
          rintro e w3 ⟨rfl, hb3⟩
          have hB3 : Below wr.heap.size wr w3 := bkept HB2.out hb3
          have HO3 := Lib.hid (MM.own_kept HOW.out hB3)
          have HB3 := Lib.hid (HBL.out.trans (hB3.mono hszr))
          have hsz3 : w1.heap.size ≤ w3.heap.size := Nat.le_trans hszr hB3.size
          clear hb3 hB3
          go_wp2_with (at_builtin; refine wpList_append_own _ rfl _ _ 32 rfl w1.heap.size 57 i0 (.agg #[.int .i64 0, .int .i64 0]) 2 16 Try.underlying32 hi hz0 hz1 hz2 rfl (by decide) _ _ _ rfl (HO3.out.alloc _) ⟨w3.heap.size, 0, none⟩ 1 1 [.int .i64 (num (t.drop (5 * k)) WdK 0 : Nat), .int .i64 (num (t.drop (5 * k)) WdK 1 : Nat)] rfl rfl ?c1 ?c2 ?c3 ?c4 ?c5 ?_)
          case c1 => exact new_cells _ _ _
          case c2 => intro u hu; simp at hu; rcases hu with rfl | rfl <;> rfl
          case c3 => unfold maxLen; omega
          case c4 => omega
          case c5 => simp; omega
          intro v8 w8 own8 hgrow _
          have own9 : w8.ownsRow w1.heap.size 57 2 v8 (k + 1) (kdCells (decs decK 5 (k + 1) t)) := by
            rw [decs_snoc, ← kdCells_snoc, num_K]; exact own8
          have hl8 : Below w1.heap.size w1 w8 := (HB3.out.alloc hsz3 _).grown hgrow (by simp; omega) (fun j hj => (HO3.out.lt j hj).1)
          obtain ⟨A8, c8, rfl⟩ := own_slice own9
          have O8 := Lib.hid own9
          have L8 := Lib.hid hl8
          clear own8 own9 hl8 hgrow
          go_wp2
          go_roundw
          case rel => exact ⟨k + 1, A8, c8, by omega, by go_num, rfl, rfl, HFIT, O8, L8.out⟩
          case measure => simp [intOf]; omega
        · have HTK1 := Lib.hid (HTF.out k (by omega))
          have HNG : Hid (∀ L, ¬ Good nK (c :: t) L) := Lib.hid fun L h => by
            have := ((HG.out L).1 h).1
            have h3 : 5 * (k + 1) ≤ 5 * n := Nat.mul_le_mul_left _ hlt
            omega
          clear hbel hfit
          go_wp2_with fail
          refine (HTK1.out _ _ _ (HW1.out.kept HBL.out (Nat.le_refl _))).mono ?_
          rintro e w2 ⟨rfl, hb2⟩
          have HB2 := Lib.hid (HB1.out.trans ((HBL.out.trans (hb2.mono hszr)).mono hsz1))
          clear hb2
          go_wp2
          go_ret2
          exact .inr ⟨HNG.out, rfl, HB2.out⟩
      · obtain rfl : k = n := by omega
        have t1 : ¬ (k : Int) < (k : Int) := by omega
        have HBW := Lib.hid (HB1.out.trans (hbel.mono hsz1))
        by_cases hend : t.length = 5 * k
        · obtain ⟨D, hD⟩ : ∃ D, D = decs decK 5 k t := ⟨_, rfl⟩
          have hDl : D.length = k := by rw [hD, decs_len]
          have hO := HOW.out
          rw [← hD] at hO
          have hO' : wr.ownsRow w1.heap.size 57 2 (.slice A k cc) D.length (kdCells D) := by rw [hDl]; exact hO
          obtain ⟨A', c', e1, e2⟩ := own_kds hO'
          have hA : A' = A := (Value.slice.inj e1).1.symm
          rw [hA] at e2
          have HROW := Lib.hid e2
          have HDL := Lib.hid hDl
          have HG2 : Hid (∀ L, Good nK (c :: t) L ↔ L = D ∧ Kidy L) := Lib.hid fun L => by
            rw [HG.out L, hD]
            exact ⟨fun h => h.2, fun h => ⟨hend, h⟩⟩
          have hz := HTZ.out hend
          have HMAY := Lib.hid (fun (cap : Nat) => innerMayBe_any D k cc hDl.symm (by unfold maxLen; omega) (own_cap HOW.out) A wr e2)
          obtain ⟨EE, hEE⟩ : ∃ E, E = TT k := ⟨_, rfl⟩
          rw [← hEE] at hz ⊢
          subst hz
          clear hEE hD hDl hO hO' e1 e2 hA hend hbel
          by_cases hv : Kidy D
          · rw [decide_eq_true hv] at HMAY
            have HV := Lib.hid hv
            clear hv
            go_wp2_with fail
            refine (HMAY.out 0).mono ?_
            rintro e w2 ⟨rfl, hb2⟩
            have HB2 := Lib.hid (bkept HBW.out hb2)
            have HR2 := Lib.hid (HROW.out.below hb2)
            clear hb2
            go_wp2
            go_ret2
            exact .inl ⟨D, A, _, _, (HG2.out D).2 ⟨rfl, HV.out⟩, rfl, HDL.out.symm, own_cap HOW.out, HR2.out, HB2.out⟩
          · rw [decide_eq_false hv] at HMAY
            have HV := Lib.hid hv
            clear hv
            go_wp2_with fail
            refine (HMAY.out 0).mono ?_
            rintro e w2 ⟨rfl, hb2⟩
            have HB2 := Lib.hid (bkept HBW.out hb2)
            clear hb2
            go_wp2
            go_ret2
            exact .inr ⟨fun L h => HV.out (by have := (HG2.out L).1 h; rw [← this.1]; exact this.2), rfl, HB2.out⟩
        · have hgt : 5 * k < t.length := by have := HLE.out; omega
          have hne := HTN.out hgt
          have HNG : Hid (∀ L, ¬ Good nK (c :: t) L) := Lib.hid fun L h => hend ((HG.out L).1 h).1
          clear hend hgt hbel
          go_wp2
          go_ret2
          exact .inr ⟨HNG.out, rfl, HBW.out⟩
theorem ReadInner_any (s : List UInt8) (hs : s.length ≤ 140737488351232) (w : World) :
    Calls Try.prog 18 #[.string (str s)] w (REnd nK Kds s w) := by
  have HRD := Lib.hid (fun wa w hw => readK_any s hs wa 2 w hw)
  obtain ⟨S0, hS0⟩ : ∃ S, S = str s := ⟨_, rfl⟩
  rw [← hS0] at HRD ⊢
  clear hS0
  go_enter Try.func18, Try.ntmps18
  go_wp2_with fail
  refine (kidWidths_any _).mono ?_
  rintro r w1 ⟨rfl, hr1, hb1⟩
  have HB1 := Lib.hid hb1
  have HW := Lib.hid (HRD.out (some ⟨w.heap.size, 0, none⟩) w1 hr1)
  clear hr1 hb1
  go_wp2_with fail
  refine HW.out.mono ?_
  rintro r w2 h2
  rcases h2.far HB1.out with ⟨L, A, n, c, g1, rfl, g2, g5, g3, g4⟩ | ⟨g1, rfl, g4⟩
  · have G1 := Lib.hid g1
    have G5 := Lib.hid g5
    have G2 := Lib.hid g2
    have G3 := Lib.hid g3
    have G4 := Lib.hid g4
    clear g1 g2 g3 g4 g5 h2
    go_wp2
    go_ret2
    exact .inl ⟨L, A, n, c, G1.out, rfl, G2.out, G5.out, G3.out, G4.out⟩
  · have G1 := Lib.hid g1
    have G4 := Lib.hid g4
    clear g1 g4 h2
    go_wp2
    go_ret2
    exact .inr ⟨G1.out, rfl, G4.out⟩
end LF
end Go.Proofs.Ytmndbdkodijlbaa
