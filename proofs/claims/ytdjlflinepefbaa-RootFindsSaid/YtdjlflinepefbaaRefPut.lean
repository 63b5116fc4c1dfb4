/- What scoriaref01.Put and the function that it calls answer, for every number of 64 bits and every width. No condition. -/
import Derived.Test.YtdjlflinepefbaaFPut
namespace Go.Proofs.Ytdjlflinepefbaa
open Go.RowKit
namespace FM
set_option linter.unusedVariables false
set_option linter.unusedSimpArgs false

theorem info_u8 : (Try.prog.info? 5).map (fun i => (i.zero, i.size, i.bytes)) = some (some (.int .u8 0), 1, 1) := by kernel_rfl

theorem ret_sb {a b : Bool} (s : ByteArray) (h : a = b) : Ending.returned (.tuple #[.string s, .bool a]) = .returned (.tuple #[.string s, .bool b]) := by rw [h]

/-- The bytes as values. -/
def bv (l : List UInt8) : List Value := l.map fun b => Value.int .u8 (b.toNat : Int)
theorem bv_snoc (l : List UInt8) (m : Nat) : bv l ++ [Value.int .u8 ((m : Int) % 256)] = bv (l ++ [UInt8.ofNat (m % 256)]) := by
  simp [bv]
/-- A new cell of one value reads as that value. -/
theorem one_new (w : World) (x : Value) (t : TypeId) : ∀ j u, [x][j]? = some u → (w.alloc (.cells #[x] t)).cell? ((⟨w.heap.size, 0, none⟩ : Addr).add j) = some u := by
  intro j u h
  match j, h with
  | 0, h => simp at h; subst h; simp [Addr.add, World.cell?_alloc_new]
  | j + 1, h => simp at h
/-- A row of the call's own, as a string. -/
theorem conv_own {B k : Nat} {v : Value} {l : List UInt8} (w : World) (h : w.ownsRow B 5 1 v k (bv l)) :
    (convert 61 9 v).run Try.prog w = .ok (.string (str l)) w := by
  have hlen : l.length = k := by simpa [bv] using h.1
  have hown := h
  rcases h.2 with ⟨rfl, hk⟩ | ⟨g, cap, cur, rfl, hb, hg, hrest⟩
  · have hl : l = [] := List.eq_nil_of_length_eq_zero (by omega)
    subst hl
    exact run_convert_bytes_nil w 61 5 Try.underlying61 Try.underlying5 0 0 9 Try.underlying9
  · have hc := run_convert_bytes_arg (P := Try.prog) w 61 5 Try.underlying61 Try.underlying5 g 0 k cap (l.map fun b => (b.toNat : Int)) (by simpa using hlen) (fun i hi => by
      have hil : i < l.length := by omega
      have h2 := hown.cells (g := g) rfl i (Value.int .u8 ((l[i]).toNat : Int)) (by simp [bv, hil])
      rw [← Addr.add_lit]
      rw [h2]
      simp [List.getD, hil]) 9 Try.underlying9
    rw [hc]
    have hid : ((fun n : Int => UInt8.ofNat n.toNat) ∘ fun b : UInt8 => (b.toNat : Int)) = id := by funext b; simp
    simp [strOfNums, str, hid]
/-- One round's step. -/
theorem step_fb (n k m : Nat) (h : m = n / 256 ^ k) : fb n (k + 1) = fb n k ++ [UInt8.ofNat (m % 256)] ∧ m / 256 = n / 256 ^ (k + 1) := by
  subst h
  exact ⟨fb_snoc n k, by rw [Nat.div_div_eq_div_mul, Nat.pow_succ]⟩

set_option maxHeartbeats 800000 in
theorem rfield_any (n wd : Nat) (hn : n < 18446744073709551616) (h1 : 1 ≤ wd) (h8 : wd ≤ 8) (w : World) :
    Calls Try.prog 56 #[.int .u64 (n : Int), .int .i64 (wd : Int)] w fun e w' => e = .returned (.tuple #[.string (str (fb n wd)), .bool (decide (n / 256 ^ wd = 0))]) ∧ Below w.heap.size w w' := by
  obtain ⟨i0, hi, hz0, hz1, hz2⟩ := info_parts info_u8
  go_enter Try.func56, Try.ntmps56
  go_wp2
  go_loopw [0, 6, 7] (fun m v i wr => ∃ k q : Nat, k ≤ wd ∧ i = .int .i64 k ∧ m = .int .u64 (q : Int) ∧ Hid (q = n / 256 ^ k) ∧ q < 18446744073709551616 ∧ wr.ownsRow w.heap.size 5 1 v k (bv (fb n k)) ∧ Below w.heap.size w wr) (fun _ _ i _ => wd - (intOf i).toNat)
  case atStart => exact ⟨0, n, Nat.zero_le _, rfl, rfl, (by simp : n = n / 256 ^ 0), hn, World.ownsRow_nil _ _ _ _, Below.refl _ _⟩
  case round =>
    obtain ⟨k, q, hk, rfl, rfl, hq, hqb, hown, hbel⟩ := hrel
    have hsz := hbel.size
    by_cases hlt : k < wd
    · go_wp2_with (at_builtin; refine wpList_append_own _ rfl _ _ 61 rfl w.heap.size 5 i0 (.int .u8 0) 1 1 Try.underlying61 hi hz0 hz1 hz2 rfl (by decide) _ _ _ rfl (hown.alloc _) ⟨wr.heap.size, 0, none⟩ 1 1 [.int .u8 ((q : Int) % 256)] rfl rfl ?c1 ?c2 ?c3 ?c4 ?c5 ?_)
      case c1 => exact one_new _ _ _
      case c2 => intro u hu; simp at hu; subst hu; rfl
      case c3 => unfold maxLen; omega
      case c4 => omega
      case c5 => simp; omega
      intro v' w1 hown' hgrow _
      obtain ⟨hfb, hdiv⟩ := step_fb n k q hq.out
      rw [bv_snoc, ← hfb] at hown'
      have hbel' : Below w.heap.size w w1 := (hbel.alloc hsz _).grown hgrow (by simp; omega) (fun j hj => (hown.lt j hj).1)
      have HD := Lib.hid hdiv
      have HO := Lib.hid hown'
      clear hfb hdiv hown' hown hgrow hq
      go_wp2
      go_roundw
      case rel => exact ⟨k + 1, q / 256, by omega, by go_num, by go_num, HD.out, by omega, HO.out, hbel'⟩
      case measure => simp [intOf]; omega
    · obtain rfl : k = wd := by omega
      have hcv := conv_own wr hown
      have HQ := Lib.hid hq.out
      have HO := Lib.hid hown
      clear hq hown
      go_wp2
      go_ret2
      refine ⟨?_, hbel⟩
      exact ret_sb _ (by rw [← HQ.out, Bool.eq_iff_iff]; simp)

theorem rfield_yes (n wd : Nat) (hn : n < 18446744073709551616) (h1 : 1 ≤ wd) (h8 : wd ≤ 8) (hf : n < 256 ^ wd) (w : World) :
    Calls Try.prog 56 #[.int .u64 (n : Int), .int .i64 (wd : Int)] w fun e w' => e = .returned (.tuple #[.string (str (fb n wd)), .bool true]) ∧ Below w.heap.size w w' := by
  refine (rfield_any n wd hn h1 h8 w).mono ?_
  rintro e w' ⟨rfl, hb⟩
  exact ⟨ret_sb _ (by rw [decide_eq_true_iff]; exact Nat.div_eq_of_lt hf), hb⟩
theorem rfield_no (n wd : Nat) (hn : n < 18446744073709551616) (h1 : 1 ≤ wd) (h8 : wd ≤ 8) (hf : 256 ^ wd ≤ n) (w : World) :
    Calls Try.prog 56 #[.int .u64 (n : Int), .int .i64 (wd : Int)] w fun e w' => e = .returned (.tuple #[.string (str (fb n wd)), .bool false]) ∧ Below w.heap.size w w' := by
  refine (rfield_any n wd hn h1 h8 w).mono ?_
  rintro e w' ⟨rfl, hb⟩
  refine ⟨ret_sb _ ?_, hb⟩
  have := Nat.div_pos hf (Nat.pow_pos (by decide))
  rw [decide_eq_false_iff_not]; omega

set_option maxHeartbeats 400000 in
theorem rput_arg (n wide : Int) (h : wide < 1 ∨ 8 < wide) (w : World) : Calls Try.prog 47 #[.int .u64 n, .int .i64 wide] w fun e w' => e = .returned (.tuple #[.string (str []), .int .i64 1]) ∧ w = w' := by
  rcases h with h | h
  · go_enter Try.func47, Try.ntmps47
    go_wp2
    go_ret2
    exact ⟨rfl, rfl⟩
  · have h' : ¬ wide < 1 := by omega
    go_enter Try.func47, Try.ntmps47
    go_wp2
    go_ret2
    exact ⟨rfl, rfl⟩
set_option maxHeartbeats 400000 in
theorem rput_long (n wd : Nat) (hn : n < 18446744073709551616) (h1 : 1 ≤ wd) (h8 : wd ≤ 8) (hf : 256 ^ wd ≤ n) (w : World) : Calls Try.prog 47 #[.int .u64 (n : Int), .int .i64 (wd : Int)] w fun e w' => e = .returned (.tuple #[.string (str []), .int .i64 2]) ∧ Below w.heap.size w w' := by
  have a1 : ¬ (wd : Int) < 1 := by omega
  have a8 : ¬ 8 < (wd : Int) := by omega
  go_enter Try.func47, Try.ntmps47
  go_wp2_with (go_at_call 56; refine (rfield_no n wd hn h1 h8 hf w).mono ?_; rintro e w' ⟨rfl, hb⟩)
  go_ret2
  exact ⟨rfl, hb⟩
set_option maxHeartbeats 400000 in
theorem rput_ok (n wd : Nat) (hn : n < 18446744073709551616) (h1 : 1 ≤ wd) (h8 : wd ≤ 8) (hf : n < 256 ^ wd) (w : World) : Calls Try.prog 47 #[.int .u64 (n : Int), .int .i64 (wd : Int)] w fun e w' => e = .returned (.tuple #[.string (str (fb n wd)), .int .i64 0]) ∧ Below w.heap.size w w' := by
  have a1 : ¬ (wd : Int) < 1 := by omega
  have a8 : ¬ 8 < (wd : Int) := by omega
  go_enter Try.func47, Try.ntmps47
  go_wp2_with (go_at_call 56; refine (rfield_yes n wd hn h1 h8 hf w).mono ?_; rintro e w' ⟨rfl, hb⟩)
  go_ret2
  exact ⟨rfl, hb⟩
end FM
end Go.Proofs.Ytdjlflinepefbaa
