/- 2 texts laid together: each says at its head what it proves. No condition but those that each theorem names. -/
import Derived.Test.YtdjlflinepefbabGreatQ40
import Derived.Test.YtdjlflinepefbabGreatQ41
import Derived.Test.YtdjlflinepefbabGreatProg
import Derived.Test.YtdjlflinepefbabGreatQ39
import Derived.WalkKit
import Derived.Handy
import Derived.Laws.BytesArg
import Derived.Lib.Hide
import Derived.Deep.QuietTactic
import Derived.BigQuiet
import Derived.WalkSmall

/- What scoria/field.Row answers, for every two lists of at most 300 numbers and widths. No other condition. -/
namespace Go.Proofs.YtdjlflinepefbabGreat
open Go.RowKit
namespace FM
set_option linter.unusedVariables false
set_option linter.unusedSimpArgs false

/-- The first k fields of a row. -/
def rowl (N Z : Nat → Int) : Nat → List UInt8
  | 0 => []
  | k + 1 => rowl N Z k ++ fb (N k).toNat (Z k).toNat
theorem rowl_len (N Z : Nat → Int) (k : Nat) (h : ∀ i, i < k → Z i ≤ 8) : (rowl N Z k).length ≤ 8 * k := by
  induction k with
  | zero => exact Nat.le_refl _
  | succ k ih =>
    have h1 := ih (fun i hi => h i (by omega))
    have h2 := h k (by omega)
    rw [rowl, List.length_append, fb_length]
    omega
theorem cells_cat (l m : List UInt8) : Lib.byteCells l ++ Lib.strCells (str m) = Lib.byteCells (l ++ m) := by
  simp [Lib.byteCells, Lib.strCells, str]
theorem builder_kept {T e : TypeId} {B b : Nat} {bs : List Value} {w w' : World} (h : Lib.IsBuilder T e B b bs w) (hb : Below w.heap.size w w') : Lib.IsBuilder T e B b bs w' := by
  have key : ∀ p, Lib.BuilderAt T e B b p bs w → Lib.BuilderAt T e B b p bs w' := by
    intro p hp
    have hlt := hp.lt
    obtain ⟨hB, v, hbk, hown, hne⟩ := hp
    exact ⟨hB, v, by rw [hb.block b hlt]; exact hbk, hown.kept (row := none) ⟨hb.os, hb.tape, hb.output, hb.size, fun j hj _ => hb.block j hj⟩ (by cases v.ownBlock <;> simp), hne⟩
  rcases h with h | h
  · exact .inl (key _ h)
  · exact .inr (key _ h)

theorem row_len (a b : Option Addr) (la ca lb cb : Nat) (hne : la ≠ lb) (w : World) :
    Calls Tryz.prog 94 #[.slice a la ca, .slice b lb cb] w fun e w' => e = .returned (.tuple #[.string ⟨#[]⟩, .int .i64 1]) ∧ w = w' := by
  have h2 : ((la : Int) != (lb : Int)) = true := by simp; omega
  go_enter Tryz.func94, Tryz.ntmps94
  go_wp2
  go_ret2
  exact ⟨rfl, rfl⟩

set_option maxHeartbeats 400000 in
theorem row_bad (a b : Option Addr) (len ca cb : Nat) (Z : Nat → Int) (hl : len ≤ 300) (w : World) (hr : Row .i64 w b len Z) (hbad : ∃ i, i < len ∧ Bad (Z i)) :
    Calls Tryz.prog 94 #[.slice a len ca, .slice b len cb] w fun e w' => e = .returned (.tuple #[.string ⟨#[]⟩, .int .i64 1]) ∧ w = w' := by
  have HC := Lib.hid (contains_some b len cb Z hl w hr hbad)
  have h2 : ((len : Int) != (len : Int)) = false := by simp
  clear hbad hr
  go_enter Tryz.func94, Tryz.ntmps94
  go_wp2_with fail
  refine HC.out.mono ?_
  rintro e w1 ⟨rfl, rfl⟩
  go_wp2
  go_ret2
  exact ⟨rfl, rfl⟩

/-- How Row ends where the first J of the len numbers fit. -/
def RowEnd (N Z : Nat → Int) (len J : Nat) (w : World) (e : Ending) (w' : World) : Prop :=
  (J = len → e = .returned (.tuple #[.string (str (rowl N Z len)), .int .i64 0]) ∧ Below w.heap.size w w') ∧
  (J < len → e = .returned (.tuple #[.string ⟨#[]⟩, .int .i64 2]) ∧ Below w.heap.size w w')

set_option maxHeartbeats 1600000 in
theorem row_good (a b : Option Addr) (len ca cb : Nat) (N Z : Nat → Int) (hl : len ≤ 300) (w : World) (hn : Row .u64 w a len N) (hr : Row .i64 w b len Z) (hN : ∀ i, i < len → 0 ≤ N i ∧ N i < 18446744073709551616) (hok : ∀ i, i < len → ¬ Bad (Z i))
    (J : Nat) (hJ : J ≤ len) (hin : ∀ i, i < J → (N i).toNat < 256 ^ (Z i).toNat) (hout : J < len → 256 ^ (Z J).toNat ≤ (N J).toNat) :
    Calls Tryz.prog 94 #[.slice a len ca, .slice b len cb] w (RowEnd N Z len J w) := by
  have HC := Lib.hid (contains_none b len cb Z hl w hr hok)
  have h2 : ((len : Int) != (len : Int)) = false := by simp
  have hrl : ∀ k, k ≤ len → (rowl N Z k).length ≤ 8 * k := fun k hk => rowl_len N Z k (fun i hi => (not_bad (hok i (by omega))).2)
  have HRL := Lib.hid hrl
  have HOK := Lib.hid hok
  have HA := Lib.hid hn
  have HR := Lib.hid hr
  have HO := Lib.hid hout
  have HI := Lib.hid hin
  have HN := Lib.hid hN
  clear hok hr hout hin hn hN hrl
  go_enter Tryz.func94, Tryz.ntmps94
  go_wp2_with fail
  refine HC.out.mono ?_
  rintro e w1 ⟨rfl, rfl⟩
  go_wp2
  go_loopw [22] (fun i wr => ∃ k : Nat, k ≤ J ∧ i = .int .i64 k ∧ Lib.IsBuilder 217 5 w.heap.size w.heap.size (Lib.byteCells (rowl N Z k)) wr ∧ Below w.heap.size w wr) (fun i _ => len - (intOf i).toNat)
  case atStart => exact ⟨0, Nat.zero_le _, rfl, Lib.fresh_isBuilder _ _ w, (Below.refl _ _).alloc (Nat.le_refl _) _⟩
  case round =>
    obtain ⟨k, hk, rfl, hbd, hbel⟩ := hrel
    have hsz := hbel.size
    have HBD := Lib.hid hbd
    clear hbd
    by_cases hlt : k < len
    · rcases HA.out with h0 | ⟨ba, oa, rfl, hba, hca⟩
      · omega
      · rcases HR.out with h0 | ⟨bb, ob, rfl, hbb, hcb⟩
        · omega
        · have hc1 : wr.cell? ⟨ba, oa + k, none⟩ = some (.int .u64 (N k)) := by rw [hbel.cell (by simpa using hba)]; exact hca k hlt
          have hc2 : wr.cell? ⟨bb, ob + k, none⟩ = some (.int .i64 (Z k)) := by rw [hbel.cell (by simpa using hbb)]; exact hcb k hlt
          clear hca hcb
          obtain ⟨g1, g8⟩ := not_bad (HOK.out k hlt)
          obtain ⟨q0, q1⟩ := HN.out k hlt
          obtain ⟨m, hm⟩ := Int.eq_ofNat_of_zero_le q0
          obtain ⟨d, hd⟩ := Int.eq_ofNat_of_zero_le (show 0 ≤ Z k by omega)
          rw [hm] at hc1 q1
          rw [hd] at hc2 g1 g8
          have f1 : 1 ≤ d := by omega
          have f8 : d ≤ 8 := by omega
          have m64 : m < 18446744073709551616 := by omega
          have HM := Lib.hid hm
          have HD := Lib.hid hd
          have i0 : (k : Int) < (len : Int) := by omega
          clear hm hd q0 q1 g1 g8
          by_cases hkJ : k < J
          · have hfit : Hid (m < 256 ^ d) := by
              have := HI.out k hkJ
              rw [HM.out, HD.out] at this
              exact this
            have hrow : Hid (rowl N Z (k + 1) = rowl N Z k ++ fb m d) := by
              show rowl N Z k ++ fb (N k).toNat (Z k).toNat = _
              rw [HM.out, HD.out]; rfl
            have hlen : Hid ((Lib.byteCells (rowl N Z k)).length + (str (fb m d)).size ≤ 140737488355328) := by
              have := HRL.out k (by omega)
              have e1 : (Lib.byteCells (rowl N Z k)).length = (rowl N Z k).length := by simp [Lib.byteCells]
              show _ ≤ _
              rw [e1, str_size, fb_length]; omega
            go_wp2_with fail
            refine (put_ok m d m64 f1 f8 hfit.out _).mono ?_
            rintro e w2 ⟨rfl, hb2⟩
            have hz2 : w.heap.size ≤ w2.heap.size := Nat.le_trans hsz hb2.size
            go_wp2_with fail
            refine (write_any w.heap.size w.heap.size _ (str (fb m d)) w2 (builder_kept HBD.out hb2) hlen.out hz2).mono ?_
            rintro e w3 ⟨rfl, hbd3, hb3⟩
            rw [cells_cat, ← hrow.out] at hbd3
            have hb13 : Below w.heap.size w w3 := hbel.trans ((hb2.mono hsz).trans hb3)
            have H3 := Lib.hid hbd3
            clear hbd3 hb2 hb3 hz2
            go_wp2
            go_roundw
            case rel => exact ⟨k + 1, by omega, by go_num, .inr H3.out, hb13⟩
            case measure => simp [intOf]; omega
          · obtain rfl : k = J := by omega
            have hfit : Hid (256 ^ d ≤ m) := by
              have := HO.out hlt
              rw [HM.out, HD.out] at this
              exact this
            go_wp2_with fail
            refine (put_long m d m64 f1 f8 hfit.out _).mono ?_
            rintro e w2 ⟨rfl, rfl⟩
            go_wp2
            go_ret2
            exact ⟨fun h => by omega, fun _ => ⟨rfl, hbel⟩⟩
    · obtain rfl : k = len := by omega
      obtain rfl : J = k := by omega
      have i0 : ¬ (J : Int) < (J : Int) := by omega
      go_wp2_with fail
      refine (string_any w.heap.size w.heap.size _ wr HBD.out hsz).mono ?_
      rintro e w2 ⟨rfl, hb2⟩
      go_wp2
      go_ret2
      exact ⟨fun _ => ⟨rfl, hbel.trans hb2⟩, fun h => by omega⟩
end FM
end Go.Proofs.YtdjlflinepefbabGreat

/- What package check answers, for every text of at most 2^47 bytes and every sum. No other condition. -/
namespace Go.Proofs.YtdjlflinepefbabGreat
open Go.RowKit
namespace CM
open FM (str str_toList str_size)
set_option linter.unusedVariables false
set_option linter.unusedSimpArgs false

theorem ret_u32 {a b : Int} (h : a = b) : Ending.returned (.int .u32 a) = .returned (.int .u32 b) := by rw [h]

set_option maxHeartbeats 400000 in
theorem step_any (c : BitVec 32) (w : World) : Calls Tryz.prog 194 #[.int .u32 (c.toNat : Int)] w fun e w' => e = .returned (.int .u32 ((gn 8 c).toNat : Int)) ∧ w = w' := by
  go_enter Tryz.func194, Tryz.ntmps194
  go_wp2
  go_loop [0, 4] (fun v i => ∃ (k : Nat) (d : BitVec 32), k ≤ 8 ∧ i = .int .i64 k ∧ v = .int .u32 (d.toNat : Int) ∧ Hid (d = gn k c)) (fun _ i => 8 - (intOf i).toNat)
  case atStart => exact ⟨0, c, by omega, rfl, rfl, (rfl : c = gn 0 c)⟩
  case round =>
    obtain ⟨k, d, hk, rfl, rfl, hd⟩ := hrel
    by_cases hlt : k < 8
    · have hm := msb_val d
      cases hb : d.msb with
      | true =>
        rw [hb] at hm
        have HG : Hid (g d = gn (k + 1) c) := by rw [gn_succ, ← hd.out]; rfl
        have HB := Lib.hid hb
        clear hb
        go_wp2
        go_round
        case rel => exact ⟨k + 1, g d, by omega, by go_num, by rw [shl_val', g_of_msb HB.out, ← poly_val, xor_val], HG.out⟩
        case measure => simp [intOf]; omega
      | false =>
        rw [hb] at hm
        have HG : Hid (g d = gn (k + 1) c) := by rw [gn_succ, ← hd.out]; rfl
        have HB := Lib.hid hb
        clear hb
        go_wp2
        go_round
        case rel => exact ⟨k + 1, g d, by omega, by go_num, by rw [shl_val', g_of_not HB.out], HG.out⟩
        case measure => simp [intOf]; omega
    · obtain rfl : k = 8 := by omega
      go_wp2
      go_ret
      exact ⟨ret_u32 (by rw [hd.out]), rfl⟩
set_option maxHeartbeats 400000 in
theorem more_any (s : BitVec 32) (t : ByteArray) (ht : t.size ≤ 140737488355328) (w : World) : Calls Tryz.prog 178 #[.int .u32 (s.toNat : Int), .string t] w fun e w' => e = .returned (.int .u32 ((more s t.data.toList).toNat : Int)) ∧ w = w' := by
  obtain ⟨r, hr⟩ : ∃ r, r = ~~~ s := ⟨_, rfl⟩
  have hn := not_val s
  rw [← hr] at hn
  have HR := Lib.hid hr
  clear hr
  go_enter Tryz.func178, Tryz.ntmps178
  go_wp2
  go_loop [5, 11] (fun v i => ∃ (k : Nat) (d : BitVec 32), k ≤ t.size ∧ i = .int .i64 k ∧ v = .int .u32 (d.toNat : Int) ∧ Hid (d = crc r (t.data.toList.take k))) (fun _ i => t.size - (intOf i).toNat)
  case atStart => exact ⟨0, r, Nat.zero_le _, rfl, rfl, (rfl : r = crc r (t.data.toList.take 0))⟩
  case round =>
    obtain ⟨k, d, hk, rfl, rfl, hd⟩ := hrel
    clear hn
    by_cases hlt : k < t.size
    · obtain ⟨x, hx0⟩ : ∃ x, x = d ^^^ bw t[k] := ⟨_, rfl⟩
      have hx : bits .xor .u32 (d.toNat : Int) ((t[k].toNat : Int) % (4294967296 : Int) * (16777216 : Int) % (4294967296 : Int)) = (x.toNat : Int) := by rw [byte_val, xor_val, hx0]
      have hgn : gn 8 x = crc r (t.data.toList.take (k + 1)) := by
        rw [List.take_succ_eq_append_getElem (by simpa using hlt), crc_snoc, ← hd.out, hx0]; rfl
      have HX := Lib.hid hx
      have HGN := Lib.hid hgn
      clear hx hgn hx0
      go_wp2_with fail
      rw [HX.out]
      refine (step_any x _).mono ?_
      rintro e w1 ⟨rfl, rfl⟩
      clear HX
      obtain ⟨y, hy⟩ : ∃ y, y = gn 8 x := ⟨_, rfl⟩
      rw [← hy]
      have HY := Lib.hid hy
      clear hy
      go_wp2
      go_round
      case rel => exact ⟨k + 1, y, by omega, by go_num, rfl, by rw [HY.out]; exact HGN.out⟩
      case measure => simp [intOf]; omega
    · obtain ⟨q, hq⟩ : ∃ q, q = ~~~ d := ⟨_, rfl⟩
      have hn2 := not_val d
      rw [← hq] at hn2
      have HQ := Lib.hid hq
      clear hq
      go_wp2
      go_ret
      refine ⟨ret_u32 ?_, rfl⟩
      rw [HQ.out, hd.out, List.take_of_length_le (by simp; omega), HR.out]
      rfl

theorem sum_any (t : ByteArray) (ht : t.size ≤ 140737488355328) (w : World) : Calls Tryz.prog 137 #[.string t] w fun e w' => e = .returned (.int .u32 ((sum t.data.toList).toNat : Int)) ∧ w = w' := by
  have H : Hid (∀ w, Calls Tryz.prog 178 #[.int .u32 0, .string t] w fun e w' => e = .returned (.int .u32 ((more 0#32 t.data.toList).toNat : Int)) ∧ w = w') := more_any 0#32 t ht
  go_enter Tryz.func137, Tryz.ntmps137
  go_wp2_with fail
  refine (H.out _).mono ?_
  rintro e w1 ⟨rfl, rfl⟩
  go_wp2
  go_ret
  exact ⟨rfl, rfl⟩

/-- A row of four bytes in a new block, as a string. -/
theorem conv_four (w : World) (n : Nat) (hlt : n < 4294967296) :
    (convert 215 9 (.slice (some ⟨w.heap.size, 0, none⟩) 4 4)).run Tryz.prog (w.alloc (.cells #[.int .u8 ((n : Int) / 16777216), .int .u8 ((n : Int) / 65536 % 256), .int .u8 ((n : Int) / 256 % 256), .int .u8 ((n : Int) % 256)] 5)) =
      .ok (.string (str [UInt8.ofNat (n / 16777216 % 256), UInt8.ofNat (n / 65536 % 256), UInt8.ofNat (n / 256 % 256), UInt8.ofNat (n % 256)])) (w.alloc (.cells #[.int .u8 ((n : Int) / 16777216), .int .u8 ((n : Int) / 65536 % 256), .int .u8 ((n : Int) / 256 % 256), .int .u8 ((n : Int) % 256)] 5)) := by
  have hm : n / 16777216 % 256 = n / 16777216 := by omega
  have hs : strOfNums [(n : Int) / 16777216, (n : Int) / 65536 % 256, (n : Int) / 256 % 256, (n : Int) % 256] = str [UInt8.ofNat (n / 16777216 % 256), UInt8.ofNat (n / 65536 % 256), UInt8.ofNat (n / 256 % 256), UInt8.ofNat (n % 256)] := by
    rw [hm]
    have e1 : ((n : Int) / 16777216).toNat = n / 16777216 := by omega
    have e2 : ((n : Int) / 65536 % 256).toNat = n / 65536 % 256 := by omega
    have e3 : ((n : Int) / 256 % 256).toNat = n / 256 % 256 := by omega
    have e4 : ((n : Int) % 256).toNat = n % 256 := by omega
    simp only [strOfNums, str, List.map_cons, List.map_nil, e1, e2, e3, e4]
  rw [← hs]
  refine run_convert_bytes_arg _ 215 5 Tryz.underlying215 Tryz.underlying5 w.heap.size 0 4 4 [(n : Int) / 16777216, (n : Int) / 65536 % 256, (n : Int) / 256 % 256, (n : Int) % 256] rfl ?_ 9 Tryz.underlying9
  intro i hi
  simp only [Nat.zero_add]
  rw [World.cell?_alloc_new]
  match i, hi with
  | 0, _ => rfl
  | 1, _ => rfl
  | 2, _ => rfl
  | 3, _ => rfl

set_option maxHeartbeats 400000 in
theorem tail_any (s : BitVec 32) (w : World) : Calls Tryz.prog 136 #[.int .u32 (s.toNat : Int)] w fun e w' => e = .returned (.string (str (tailb s))) ∧ Below w.heap.size w w' := by
  obtain ⟨n, hn⟩ : ∃ n, n = s.toNat := ⟨_, rfl⟩
  have hlt : n < 4294967296 := by rw [hn]; exact s.isLt
  have ht : tailb s = [UInt8.ofNat (n / 16777216 % 256), UInt8.ofNat (n / 65536 % 256), UInt8.ofNat (n / 256 % 256), UInt8.ofNat (n % 256)] := by rw [hn]; rfl
  rw [ht, ← hn]
  have hk := conv_four w n hlt
  clear ht hn
  go_enter Tryz.func136, Tryz.ntmps136
  go_wp2
  go_ret
  exact ⟨rfl, by go_grown⟩

theorem str_append (s : ByteArray) (l : List UInt8) : s ++ str l = str (s.data.toList ++ l) := by
  apply ByteArray.ext
  simp [str]
theorem str_data (s : ByteArray) : str s.data.toList = s := by
  apply ByteArray.ext
  simp [str]

set_option maxHeartbeats 400000 in
theorem seal_any (t : ByteArray) (ht : t.size ≤ 140737488355328) (w : World) : Calls Tryz.prog 96 #[.string t] w fun e w' => e = .returned (.string (str (sealed t.data.toList))) ∧ Below w.heap.size w w' := by
  have hz : (str (tailb (sum t.data.toList))).size ≤ 4 := by rw [str_size, tailb_len]; exact Nat.le_refl _
  have he : t ++ str (tailb (sum t.data.toList)) = str (sealed t.data.toList) := str_append t _
  obtain ⟨u, hu⟩ : ∃ u, u = str (tailb (sum t.data.toList)) := ⟨_, rfl⟩
  have HT : Hid (∀ w, Calls Tryz.prog 136 #[.int .u32 ((sum t.data.toList).toNat : Int)] w fun e w' => e = .returned (.string u) ∧ Below w.heap.size w w') := by rw [hu]; exact tail_any _
  rw [← hu] at hz he
  have HE := Lib.hid he
  clear hu he
  go_enter Tryz.func96, Tryz.ntmps96
  go_wp2_with fail
  refine (sum_any t ht _).mono ?_
  rintro e w1 ⟨rfl, rfl⟩
  go_wp2_with fail
  refine (HT.out _).mono ?_
  rintro e w1 ⟨rfl, hb1⟩
  go_wp2
  go_ret
  exact ⟨by rw [← HE.out]; rfl, hb1⟩

set_option maxHeartbeats 400000 in
theorem open_short (t : ByteArray) (ht : t.size < 4) (w : World) : Calls Tryz.prog 99 #[.string t] w fun e w' => e = .returned (.tuple #[.string ⟨#[]⟩, .int .i64 5]) ∧ w = w' := by
  go_enter Tryz.func99, Tryz.ntmps99
  go_wp2
  go_ret2
  exact ⟨rfl, rfl⟩

theorem run_to (t : ByteArray) (h4 : 4 ≤ t.size) (w : World) : (Instr.slice 9 (.string t) none (some (.int .i64 ((t.size : Int) - 4))) none).run Tryz.prog w = .ok (.string (str (t.data.toList.take (t.size - 4)))) w := by
  rw [run_slice_string_to_if w 9 t .i64 ((t.size : Int) - 4) Tryz.underlying9, if_pos ⟨by omega, by omega⟩]
  have e : ((t.size : Int) - 4).toNat = t.size - 4 := by omega
  rw [e]
  congr 2
  apply ByteArray.ext
  apply Array.toList_inj.1
  simp [str, ByteArray.data_extract, List.extract_eq_take_drop]
theorem run_of (t : ByteArray) (h4 : 4 ≤ t.size) (w : World) : (Instr.slice 9 (.string t) (some (.int .i64 ((t.size : Int) - 4))) none none).run Tryz.prog w = .ok (.string (str (t.data.toList.drop (t.size - 4)))) w := by
  rw [run_slice_string_from_if w 9 t .i64 ((t.size : Int) - 4) Tryz.underlying9, if_pos ⟨by omega, by omega⟩]
  have e : ((t.size : Int) - 4).toNat = t.size - 4 := by omega
  rw [e]
  congr 2
  apply ByteArray.ext
  apply Array.toList_inj.1
  simp only [str, ByteArray.data_extract, Array.toList_extract, List.extract_eq_take_drop]
  exact List.take_of_length_le (by rw [List.length_drop]; simp)

set_option maxHeartbeats 800000 in
theorem open_long (t : ByteArray) (ht : t.size ≤ 140737488355328) (h4 : 4 ≤ t.size) (B E T : ByteArray) (hB : Hid (B = str (t.data.toList.take (t.size - 4)))) (hE : Hid (E = str (t.data.toList.drop (t.size - 4)))) (hT : Hid (T = str (tailb (sum (t.data.toList.take (t.size - 4)))))) (w : World) :
    Calls Tryz.prog 99 #[.string t] w fun e w' => (E = T → e = .returned (.tuple #[.string B, .int .i64 0])) ∧ (E ≠ T → e = .returned (.tuple #[.string ⟨#[]⟩, .int .i64 6])) ∧ Below w.heap.size w w' := by
  have s1 := run_to t h4
  have s2 := run_of t h4
  rw [← hB.out] at s1
  rw [← hE.out] at s2
  have hBl : B.data.toList = t.data.toList.take (t.size - 4) := by rw [hB.out]; rfl
  have hBs : B.size ≤ 140737488355328 := by
    have : B.data.toList.length ≤ t.size := by rw [hBl, List.length_take]; omega
    have h2 : B.data.toList.length = B.size := Array.length_toList
    omega
  have HS : Hid (∀ w, Calls Tryz.prog 137 #[.string B] w fun e w' => e = .returned (.int .u32 ((sum (t.data.toList.take (t.size - 4))).toNat : Int)) ∧ w = w') := by rw [← hBl]; exact sum_any B hBs
  have HT : Hid (∀ w, Calls Tryz.prog 136 #[.int .u32 ((sum (t.data.toList.take (t.size - 4))).toNat : Int)] w fun e w' => e = .returned (.string T) ∧ Below w.heap.size w w') := by rw [hT.out]; exact tail_any _
  clear hBl hBs
  by_cases hq : E = T
  · have hq2 : (E.toList == T.toList) = true := by rw [hq]; simp
    have HQ := Lib.hid hq
    clear hq
    go_enter Tryz.func99, Tryz.ntmps99
    go_wp2
    go_quiet (fail)
    go_wp2_with fail
    refine (HS.out _).mono ?_
    rintro e w1 ⟨rfl, rfl⟩
    go_wp2_with fail
    refine (HT.out _).mono ?_
    rintro e w1 ⟨rfl, hb1⟩
    go_wp2
    go_ret2
    exact ⟨fun _ => rfl, fun h => absurd HQ.out h, (below_drewN (Below.refl w.heap.size w) _).trans hb1⟩
  · have hq2 : (E.toList == T.toList) = false := by
      rw [beq_eq_false_iff_ne]
      intro h
      apply hq
      apply ByteArray.ext
      apply Array.toList_inj.1
      rw [ByteArray.toList_eq, ByteArray.toList_eq] at h
      exact h
    have HQ := Lib.hid hq
    clear hq
    go_enter Tryz.func99, Tryz.ntmps99
    go_wp2
    go_quiet (fail)
    go_wp2_with fail
    refine (HS.out _).mono ?_
    rintro e w1 ⟨rfl, rfl⟩
    go_wp2_with fail
    refine (HT.out _).mono ?_
    rintro e w1 ⟨rfl, hb1⟩
    go_wp2
    go_ret2
    exact ⟨fun h => absurd h HQ.out, fun _ => rfl, (below_drewN (Below.refl w.heap.size w) _).trans hb1⟩

/-- What is left when the last four bytes are taken away. -/
def body (l : List UInt8) : List UInt8 := l.take (l.length - 4)
def sealOk (l : List UInt8) : Prop := l.drop (l.length - 4) = tailb (sum (body l))

theorem len_size (t : ByteArray) : t.data.toList.length = t.size := Array.length_toList

theorem open_ok (t : ByteArray) (ht : t.size ≤ 140737488355328) (h4 : 4 ≤ t.size) (h : sealOk t.data.toList) (w : World) :
    Calls Tryz.prog 99 #[.string t] w fun e w' => e = .returned (.tuple #[.string (str (body t.data.toList)), .int .i64 0]) ∧ Below w.heap.size w w' := by
  refine (open_long t ht h4 _ _ _ (Lib.hid rfl) (Lib.hid rfl) (Lib.hid rfl) w).mono ?_
  rintro e w' ⟨h1, _, hb⟩
  refine ⟨?_, hb⟩
  unfold sealOk body at h
  rw [len_size] at h
  rw [h1 (by rw [h]), body, len_size]
theorem open_bad (t : ByteArray) (ht : t.size ≤ 140737488355328) (h4 : 4 ≤ t.size) (h : ¬ sealOk t.data.toList) (w : World) :
    Calls Tryz.prog 99 #[.string t] w fun e w' => e = .returned (.tuple #[.string ⟨#[]⟩, .int .i64 6]) ∧ Below w.heap.size w w' := by
  refine (open_long t ht h4 _ _ _ (Lib.hid rfl) (Lib.hid rfl) (Lib.hid rfl) w).mono ?_
  rintro e w' ⟨_, h2, hb⟩
  refine ⟨h2 ?_, hb⟩
  intro hc
  apply h
  unfold sealOk body
  rw [len_size]
  exact FM.str_inj hc

theorem sealed_len (l : List UInt8) : (sealed l).length = l.length + 4 := by simp [sealed, tailb_len]
theorem body_sealed (l : List UInt8) : body (sealed l) = l := by
  unfold body
  rw [sealed_len, Nat.add_sub_cancel, sealed, List.take_left]
theorem sealed_ok (l : List UInt8) : sealOk (sealed l) := by
  unfold sealOk
  rw [body_sealed, sealed_len, Nat.add_sub_cancel, sealed, List.drop_left]
theorem sealed_body {l : List UInt8} (h : sealOk l) : sealed (body l) = l := by
  unfold sealOk at h
  rw [sealed, ← h, body, List.take_append_drop]
end CM
end Go.Proofs.YtdjlflinepefbabGreat
