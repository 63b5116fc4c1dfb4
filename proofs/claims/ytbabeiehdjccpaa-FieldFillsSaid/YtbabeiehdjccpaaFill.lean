/- What scoria/field.Fill and scoriaref01.Fill answer, for every text, every size up to 20,000 and every byte. No other condition. -/
import Derived.Test.YtbabeiehdjccpaaRefPut
import Derived.Test.YtbabeiehdjccpaaRepeat
namespace Go.Proofs.Ytbabeiehdjccpaa
open Go.RowKit
namespace FM
set_option linter.unusedVariables false
set_option linter.unusedSimpArgs false

theorem fill_neg (s : ByteArray) (size : Int) (b : Int) (h : size < 0) (w : World) : Calls Try.prog 19 #[.string s, .int .i64 size, .int .u8 b] w fun e w' => e = .returned (.tuple #[.string ⟨#[]⟩, .int .i64 1]) ∧ w = w' := by
  go_enter Try.func19, Try.ntmps19
  go_wp2
  go_ret2
  exact ⟨rfl, rfl⟩
theorem rfill_neg (s : ByteArray) (size : Int) (b : Int) (h : size < 0) (w : World) : Calls Try.prog 20 #[.string s, .int .i64 size, .int .u8 b] w fun e w' => e = .returned (.tuple #[.string ⟨#[]⟩, .int .i64 1]) ∧ w = w' := by
  go_enter Try.func20, Try.ntmps20
  go_wp2
  go_ret2
  exact ⟨rfl, rfl⟩
theorem fill_long (s : ByteArray) (size : Int) (b : Int) (h0 : 0 ≤ size) (h : size < (s.size : Int)) (w : World) : Calls Try.prog 19 #[.string s, .int .i64 size, .int .u8 b] w fun e w' => e = .returned (.tuple #[.string ⟨#[]⟩, .int .i64 2]) ∧ w = w' := by
  go_enter Try.func19, Try.ntmps19
  go_wp2
  go_ret2
  exact ⟨rfl, rfl⟩
theorem rfill_long (s : ByteArray) (size : Int) (b : Int) (h0 : 0 ≤ size) (h : size < (s.size : Int)) (w : World) : Calls Try.prog 20 #[.string s, .int .i64 size, .int .u8 b] w fun e w' => e = .returned (.tuple #[.string ⟨#[]⟩, .int .i64 2]) ∧ w = w' := by
  go_enter Try.func20, Try.ntmps20
  go_wp2
  go_ret2
  exact ⟨rfl, rfl⟩

theorem repeat_one (B : UInt8) (c : Nat) : Lib.repeatL [B] c = List.replicate c B := by
  induction c with
  | zero => rfl
  | succ c ih => rw [Lib.repeatL, ih]; rfl
theorem conv_one (w : World) (B : UInt8) :
    (convert 58 9 (.slice (some ⟨w.heap.size, 0, none⟩) 1 1)).run Try.prog (w.alloc (.cells #[.int .u8 (B.toNat : Int)] 5)) = .ok (.string (str [B])) (w.alloc (.cells #[.int .u8 (B.toNat : Int)] 5)) := by
  have hs : strOfNums [(B.toNat : Int)] = str [B] := by simp [strOfNums, str]
  rw [← hs]
  refine run_convert_bytes_arg _ 58 5 Try.underlying58 Try.underlying5 w.heap.size 0 1 1 [(B.toNat : Int)] rfl ?_ 9 Try.underlying9
  intro i hi
  obtain rfl : i = 0 := by omega
  simp only [Nat.zero_add]
  rw [World.cell?_alloc_new]
  rfl

set_option maxHeartbeats 800000 in
theorem fill_ok (s : ByteArray) (n : Nat) (B : UInt8) (h : s.size ≤ n) (h2 : n ≤ 20000) (w : World) : Calls Try.prog 19 #[.string s, .int .i64 (n : Int), .int .u8 (B.toNat : Int)] w fun e w' => e = .returned (.tuple #[.string (s ++ str (List.replicate (n - s.size) B)), .int .i64 0]) ∧ Below w.heap.size w w' := by
  obtain ⟨c, hc⟩ : ∃ c, c = n - s.size := ⟨_, rfl⟩
  have hci : (n : Int) - (s.size : Int) = (c : Int) := by omega
  rw [← hc]
  have hk := conv_one w B
  have hrep := repeat_any (str [B]) c
  have hone : (str [B]).size = 1 := str_size _
  rw [hone] at hrep
  have hl : (str [B]).data.toList = [B] := rfl
  rw [hl, repeat_one] at hrep
  have hsz : (str (List.replicate c B)).size ≤ 20000 := by rw [str_size, List.length_replicate]; omega
  obtain ⟨T, hT⟩ : ∃ T, T = str [B] := ⟨_, rfl⟩
  obtain ⟨R, hR⟩ : ∃ R, R = str (List.replicate c B) := ⟨_, rfl⟩
  have HR : Hid (∀ w, Calls Try.prog 29 #[.string T, .int .i64 (c : Int)] w fun e w' => e = .returned (.string R) ∧ Below w.heap.size w w') := by
    intro w
    rw [hT, hR]
    exact hrep w (by omega) (by omega)
  rw [← hT] at hk
  rw [← hR] at hsz ⊢
  have g1 : ¬ (n : Int) < 0 := by omega
  have g2 : ¬ (n : Int) < (s.size : Int) := by omega
  have g3 : ¬ 2147483647 < (n : Int) := by omega
  clear hrep hone hl hT hR hc
  go_enter Try.func19, Try.ntmps19
  go_wp2_with fail
  refine (HR.out _).mono ?_
  rintro e w1 ⟨rfl, hb1⟩
  go_wp2
  go_ret2
  exact ⟨rfl, ((Below.refl _ _).alloc (Nat.le_refl _) _).trans (hb1.mono (by simp))⟩

set_option maxHeartbeats 800000 in
theorem rfill_ok (s : ByteArray) (n : Nat) (B : UInt8) (h : s.size ≤ n) (h2 : n ≤ 20000) (w : World) : Calls Try.prog 20 #[.string s, .int .i64 (n : Int), .int .u8 (B.toNat : Int)] w fun e w' => e = .returned (.tuple #[.string (s ++ str (List.replicate (n - s.size) B)), .int .i64 0]) ∧ Below w.heap.size w w' := by
  obtain ⟨i0, hi, hz0, hz1, hz2⟩ := info_parts info_u8
  have g1 : ¬ (n : Int) < 0 := by omega
  have g2 : ¬ (n : Int) < (s.size : Int) := by omega
  go_enter Try.func20, Try.ntmps20
  go_wp2
  go_loopw [8, 9] (fun v i wr => ∃ k q : Nat, q ≤ n ∧ Hid (q = s.size + k) ∧ i = .int .i64 (q : Int) ∧ wr.ownsRow w.heap.size 5 1 v k (bv (List.replicate k B)) ∧ Below w.heap.size w wr) (fun _ i _ => n - (intOf i).toNat)
  case atStart => exact ⟨0, s.size, h, rfl, rfl, World.ownsRow_nil _ _ _ _, Below.refl _ _⟩
  case round =>
    obtain ⟨k, q, hq, hqk, rfl, hown, hbel⟩ := hrel
    have hsz := hbel.size
    have hk : k ≤ 20000 := by have := hqk.out; omega
    by_cases hlt : q < n
    · go_wp2_with (at_builtin; refine wpList_append_own _ rfl _ _ 58 rfl w.heap.size 5 i0 (.int .u8 0) 1 1 Try.underlying58 hi hz0 hz1 hz2 rfl (by decide) _ _ _ rfl (hown.alloc _) ⟨wr.heap.size, 0, none⟩ 1 1 [.int .u8 (B.toNat : Int)] rfl rfl ?c1 ?c2 ?c3 ?c4 ?c5 ?_)
      case c1 => exact one_new _ _ _
      case c2 => intro u hu; simp at hu; subst hu; rfl
      case c3 => unfold maxLen; omega
      case c4 => omega
      case c5 => simp; omega
      intro v' w1 hown' hgrow _
      have hbv : bv (List.replicate k B) ++ [Value.int .u8 (B.toNat : Int)] = bv (List.replicate (k + 1) B) := by
        rw [List.replicate_succ']; simp [bv]
      rw [hbv] at hown'
      have hbel' : Below w.heap.size w w1 := (hbel.alloc hsz _).grown hgrow (by simp; omega) (fun j hj => (hown.lt j hj).1)
      have HO := Lib.hid hown'
      have HQ : Hid (q + 1 = s.size + (k + 1)) := by have := hqk.out; show _ = _; omega
      clear hown' hown hgrow hbv
      go_wp2
      go_roundw
      case rel => exact ⟨k + 1, q + 1, by omega, HQ.out, by go_num, HO.out, hbel'⟩
      case measure => simp [intOf]; omega
    · obtain rfl : q = n := by omega
      have hkn : k = q - s.size := by have := hqk.out; omega
      have hcv := conv_own wr hown
      have hrs : (str (List.replicate k B)).size ≤ 20000 := by rw [str_size, List.length_replicate]; omega
      obtain ⟨R, hR⟩ : ∃ R, R = str (List.replicate k B) := ⟨_, rfl⟩
      have HF : Hid (str (List.replicate (q - s.size) B) = R) := by rw [hR, hkn]; rfl
      rw [← hR] at hcv hrs
      have ss : s.size ≤ 20000 := by omega
      clear hkn hR hown
      go_wp2
      go_ret2
      exact ⟨by rw [HF.out]; rfl, hbel⟩
end FM
end Go.Proofs.Ytbabeiehdjccpaa
