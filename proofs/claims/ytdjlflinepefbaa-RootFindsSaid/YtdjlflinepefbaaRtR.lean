/- What root.Read answers: of any bytes. Condition: no text is longer than 2^47 bytes. -/
import Derived.Test.YtdjlflinepefbaaRtW
import Derived.Test.YtdjlflinepefbaaTake
import Derived.Test.YtdjlflinepefbaaSame
import Derived.Laws.AppendOwn
namespace Go.Proofs.Ytdjlflinepefbaa
open Go.RowKit
namespace RT
open MM FM EX
open LF (decs decs_snoc decs_len flat_len)
set_option linter.unusedVariables false
set_option linter.unusedSimpArgs false

section
variable {w : World} {g : Nat} {t : TypeId}
theorem stored4 {a0 a1 a2 a3 : Value} (h : Blk w g t #[a0, a1, a2, a3]) (x0 x1 x2 x3 : Value) :
    Blk ((((w.setCell ⟨g, 0, none⟩ x0).setCell ⟨g, 1, none⟩ x1).setCell ⟨g, 2, none⟩ x2).setCell ⟨g, 3, none⟩ x3) g t #[x0, x1, x2, x3] :=
  (((h.set_ 0 x0).set_ 1 x1).set_ 2 x2).set_ 3 x3
theorem stored4_below {B : Nat} {w0 : World} (hb : Below B w0 w) (hg : B ≤ g) (x0 x1 x2 x3 : Value) :
    Below B w0 ((((w.setCell ⟨g, 0, none⟩ x0).setCell ⟨g, 1, none⟩ x1).setCell ⟨g, 2, none⟩ x2).setCell ⟨g, 3, none⟩ x3) :=
  (((hb.setCell hg _).setCell hg _).setCell hg _).setCell hg _
theorem cells4 {a0 a1 a2 a3 : Value} (h : Blk w g t #[a0, a1, a2, a3]) :
    (w.cell? ⟨g, 0, none⟩ = some a0 ∧ w.cell? ⟨g, 1, none⟩ = some a1 ∧ w.cell? ⟨g, 2, none⟩ = some a2 ∧ w.cell? ⟨g, 3, none⟩ = some a3) ∧ w.frozen? ⟨g, 0, none⟩ = false ∧ w.frozen? ⟨g, 1, none⟩ = false ∧ w.frozen? ⟨g, 2, none⟩ = false ∧ w.frozen? ⟨g, 3, none⟩ = false := ⟨⟨h.cell 0, h.cell 1, h.cell 2, h.cell 3⟩, h.frozen 0, h.frozen 1, h.frozen 2, h.frozen 3⟩
end
theorem i64_nat {n : Nat} (h : n < 9223372036854775808) : IntKind.i64.wrap (n : Int) = (n : Int) := IntWalk.i64_in _ (by omega)
/-- The top that a row says. -/
def topOf (t h : Nat) : Int := if h = 0 ∧ t = 0 then -1 else (t : Nat)
structure U4 (b o n0 n1 n2 n3 : Nat) (W w' : World) : Prop where
  c0 : w'.cell? ⟨b, o, none⟩ = some (.int .u64 (n0 : Int))
  c1 : w'.cell? ⟨b, o + 1, none⟩ = some (.int .u64 (n1 : Int))
  c2 : w'.cell? ⟨b, o + 2, none⟩ = some (.int .u64 (n2 : Int))
  c3 : w'.cell? ⟨b, o + 3, none⟩ = some (.int .u64 (n3 : Int))
  lt : b < w'.heap.size
  bel : Below W.heap.size W w'
theorem U4.below {b o n0 n1 n2 n3 : Nat} {W w1 w2 : World} (h : U4 b o n0 n1 n2 n3 W w1) (hb : Below w1.heap.size w1 w2) : U4 b o n0 n1 n2 n3 W w2 :=
  ⟨(hb.cell (p := ⟨b, o, none⟩) h.lt).trans h.c0, (hb.cell (p := ⟨b, o + 1, none⟩) h.lt).trans h.c1, (hb.cell (p := ⟨b, o + 2, none⟩) h.lt).trans h.c2, (hb.cell (p := ⟨b, o + 3, none⟩) h.lt).trans h.c3, Nat.lt_of_lt_of_le h.lt hb.size, bkept h.bel hb⟩
theorem u4_s {b o n0 n1 n2 n3 : Nat} {W w' : World} (h : U4 b o n0 n1 n2 n3 W w') : w'.cell? ⟨b, o, none⟩ = some (.int .u64 (n0 : Int)) ∧ w'.cell? ⟨b, o + 1, none⟩ = some (.int .u64 (n1 : Int)) ∧ w'.cell? ⟨b, o + 2, none⟩ = some (.int .u64 (n2 : Int)) ∧ w'.cell? ⟨b, o + 3, none⟩ = some (.int .u64 (n3 : Int)) ∧ U4 b o n0 n1 n2 n3 W w' := ⟨h.c0, h.c1, h.c2, h.c3, h⟩
theorem u4_of {b o n0 n1 n2 n3 : Nat} {W w' : World} (h : w'.cell? ⟨b, o, none⟩ = some (.int .u64 (n0 : Int)) ∧ w'.cell? ⟨b, o + 1, none⟩ = some (.int .u64 (n1 : Int)) ∧ w'.cell? ⟨b, o + 2, none⟩ = some (.int .u64 (n2 : Int)) ∧ w'.cell? ⟨b, o + 3, none⟩ = some (.int .u64 (n3 : Int)) ∧ U4 b o n0 n1 n2 n3 W w') : U4 b o n0 n1 n2 n3 W w' := h.2.2.2.2
set_option maxHeartbeats 4000000 in
theorem spaceOf_any (b o c : Nat) (n0 n1 n2 n3 : Nat) (h0 : n0 < 4294967296) (h1 : n1 < 4294967296) (h2 : n2 < 4294967296) (h3 : n3 < 4294967296) (w : World) (hb : b < w.heap.size)
    (c0 : w.cell? ⟨b, o, none⟩ = some (.int .u64 (n0 : Int))) (c1 : w.cell? ⟨b, o + 1, none⟩ = some (.int .u64 (n1 : Int))) (c2 : w.cell? ⟨b, o + 2, none⟩ = some (.int .u64 (n2 : Int))) (c3 : w.cell? ⟨b, o + 3, none⟩ = some (.int .u64 (n3 : Int))) :
    Calls Try.prog 31 #[.slice (some ⟨b, o, none⟩) 4 c] w fun r w' => r = .returned (.agg #[.int .i64 n0, .int .i64 n1, .int .i64 (topOf n2 n3), .int .i64 n3]) ∧ Below w.heap.size w w' := by
  have w0 := i64_nat (n := n0) (by omega)
  have w1 := i64_nat (n := n1) (by omega)
  have w2 := i64_nat (n := n2) (by omega)
  have w3 := i64_nat (n := n3) (by omega)
  have k1 : Blk (w.alloc (.cells #[.int .i64 0, .int .i64 0, .int .i64 0, .int .i64 0] 54)) w.heap.size 54 #[.int .i64 0, .int .i64 0, .int .i64 0, .int .i64 0] := Blk.new w _ _
  have hbb := below_box w (.cells #[.int .i64 0, .int .i64 0, .int .i64 0, .int .i64 0] 54)
  have d0 := (hbb.cell (p := ⟨b, o, none⟩) hb).trans c0
  have d1 := (hbb.cell (p := ⟨b, o + 1, none⟩) hb).trans c1
  have d2 := (hbb.cell (p := ⟨b, o + 2, none⟩) hb).trans c2
  have d3 := (hbb.cell (p := ⟨b, o + 3, none⟩) hb).trans c3
  obtain ⟨W, hW⟩ : ∃ W, W = w.alloc (.cells #[.int .i64 0, .int .i64 0, .int .i64 0, .int .i64 0] 54) := ⟨_, rfl⟩
  rw [← hW] at k1 hbb d0 d1 d2 d3
  have K1 := Lib.hid k1
  have HBB := Lib.hid hbb
  have HW := Lib.hid hW
  obtain ⟨T, hT⟩ : ∃ T, T = topOf n2 n3 := ⟨_, rfl⟩
  rw [← hT]
  have HT := Lib.hid hT
  clear c0 c1 c2 c3 hW k1 hbb hT
  go_enter Try.func31, Try.ntmps31
  go_wp2
  rw [← HW.out]
  have HI : Hid (U4 b o n0 n1 n2 n3 W W.drew) := Lib.hid ⟨d0, d1, d2, d3, by rw [HW.out]; simp; omega, (Below.refl _ _).drew⟩
  have HSX := Lib.hid (u4_s HI.out)
  have HI0 : U4 b o n0 n1 n2 n3 W W := ⟨d0, d1, d2, d3, by rw [HW.out]; simp; omega, Below.refl _ _⟩
  have HSZ := Lib.hid (u4_s (HI0.below ((below_box W (.cells #[.int .i64 (n0 : Int), .int .i64 (n1 : Int), .int .i64 (n2 : Int), .int .i64 (n3 : Int)] 54)).drew)))
  clear HI0
  clear d0 d1 d2 d3
  go_region_held3 (fun w' => w'.cell? ⟨b, o, none⟩ = some (.int .u64 (n0 : Int)) ∧ w'.cell? ⟨b, o + 1, none⟩ = some (.int .u64 (n1 : Int)) ∧ w'.cell? ⟨b, o + 2, none⟩ = some (.int .u64 (n2 : Int)) ∧ w'.cell? ⟨b, o + 3, none⟩ = some (.int .u64 (n3 : Int)) ∧ U4 b o n0 n1 n2 n3 W w') (first | with_reducible exact HSX.out | with_reducible assumption | with_reducible exact HSZ.out | exact u4_s ((u4_of (by assumption)).below (below_box _ _))) (fail)
  obtain ⟨V, hV⟩ : ∃ V, V = (W.alloc (.cells #[.int .i64 (n0 : Int), .int .i64 (n1 : Int), .int .i64 (n2 : Int), .int .i64 (n3 : Int)] 54)).drew := ⟨_, rfl⟩
  have hWV : Below W.heap.size W V := by rw [hV]; exact (below_box W _).drew
  have hK0 := K1.out.below hWV K1.out.lt
  have hK2 : Blk V W.heap.size 54 #[.int .i64 (n0 : Int), .int .i64 (n1 : Int), .int .i64 (n2 : Int), .int .i64 (n3 : Int)] := by rw [hV]; exact Blk.new W 54 #[.int .i64 (n0 : Int), .int .i64 (n1 : Int), .int .i64 (n2 : Int), .int .i64 (n3 : Int)]
  have hzW : w.heap.size < W.heap.size := K1.out.lt
  have hbV := bkept HBB.out hWV
  rw [← hV]
  obtain ⟨⟨_, _, _, _⟩, f0, f1, f2, f3⟩ := cells4 hK0
  obtain ⟨⟨p0, p1, p2, p3⟩, g0, g1, g2, g3⟩ := cells4 hK2
  have HK0 := Lib.hid hK0
  have HK2 := Lib.hid hK2
  have HZW := Lib.hid hzW
  have HBV := Lib.hid hbV
  clear HI HSX HSZ hV hWV hK0 hK2 hzW hbV
  by_cases hz : n3 = 0 ∧ n2 = 0
  · obtain ⟨rfl, rfl⟩ := hz
    have ht : topOf 0 0 = -1 := rfl
    have HT1 := Lib.hid ht
    clear ht
    obtain ⟨V2, hV2⟩ : ∃ V2, V.setCell ⟨W.heap.size, 2, none⟩ (.int .i64 (-1)) = V2 := ⟨_, rfl⟩
    have hK3 : Blk V2 W.heap.size 54 #[.int .i64 (n0 : Int), .int .i64 (n1 : Int), .int .i64 (-1), .int .i64 ((0 : Nat) : Int)] := by rw [← hV2]; exact HK2.out.set_ 2 _
    have hK4 : Blk V2 w.heap.size 54 #[.int .i64 0, .int .i64 0, .int .i64 0, .int .i64 0] := by rw [← hV2]; exact HK0.out.far (Nat.ne_of_lt HZW.out) _
    obtain ⟨⟨q0, q1, q2, q3⟩, _⟩ := cells4 hK3
    obtain ⟨_, k0, k1, k2, k3⟩ := cells4 hK4
    have HK4 := Lib.hid hK4
    have HB2 : Hid (Below w.heap.size w V2) := Lib.hid (by rw [← hV2]; exact HBV.out.setCell (Nat.le_of_lt HZW.out) _)
    clear hK3 hK4
    go_wp2
    exact ret_cell rfl _ _ _ _ _ _ _ rfl rfl (stored4 HK4.out _ _ _ _) Try.underlying54 rfl (by kernel_rfl) ⟨by rw [HT.out, HT1.out] <;> rfl, stored4_below HB2.out (Nat.le_refl _) _ _ _ _⟩
  · have ht : topOf n2 n3 = (n2 : Nat) := if_neg hz
    have HT1 := Lib.hid ht
    clear ht
    by_cases h9 : n3 = 0
    · subst h9
      have h8 : ((n2 : Int) == 0) = false := by simp; omega
      go_wp2
      exact ret_cell rfl _ _ _ _ _ _ _ rfl rfl (stored4 HK0.out _ _ _ _) Try.underlying54 rfl (by kernel_rfl) ⟨by rw [HT.out, HT1.out] <;> rfl, stored4_below HBV.out (Nat.le_refl _) _ _ _ _⟩
    · have h8 : ((n3 : Int) == 0) = false := by simp; omega
      go_wp2
      exact ret_cell rfl _ _ _ _ _ _ _ rfl rfl (stored4 HK0.out _ _ _ _) Try.underlying54 rfl (by kernel_rfl) ⟨by rw [HT.out, HT1.out] <;> rfl, stored4_below HBV.out (Nat.le_refl _) _ _ _ _⟩
theorem ext_str (t : List UInt8) (n : Nat) : (str t).extract n (str t).size = str (t.drop n) := by
  have e : (str t).size = t.length := str_size t
  rw [e]
  apply ByteArray.ext
  apply Array.ext'
  show ((str t).extract n t.length).data.toList = t.drop n
  simp [str, ByteArray.extract, ByteArray.copySlice]
  exact List.take_of_length_le (by rw [List.length_drop]; exact Nat.le_refl _)
theorem str_data (t : List UInt8) : (str t).data.toList = t := rfl
/-- What Take answers at the front of a text: the row, or that it is short. -/
theorem take_any (Z : Nat → Int) (n : Nat) (hn : 1 ≤ n) (hn3 : n ≤ 300) (hz : ∀ i, i < n → ¬ Bad (Z i)) (t : List UInt8) (hl : t.length ≤ 140737488351232) (w : World) (a : Option Addr) (c : Nat) (hr : Row .i64 w a n Z) :
    Calls Try.prog 30 #[.string (str t), .slice a n c] w fun e w' =>
      (pos Z n ≤ t.length ∧ ∃ b off c2, e = .returned (.tuple #[.slice (some ⟨b, off, none⟩) n c2, .string (str (t.drop (pos Z n))), .int .i64 0]) ∧ b < w'.heap.size ∧ (∀ i, i < n → w'.cell? ⟨b, off + i, none⟩ = some (.int .u64 (num t Z i : Int))) ∧ Below w.heap.size w w') ∨
      (t.length < pos Z n ∧ e = .returned (.tuple #[.slice none 0 0, .string ⟨#[]⟩, .int .i64 5]) ∧ Below w.heap.size w w') := by
  obtain ⟨J, hJ, hin, hout⟩ := place_of Z n (str t).size
  refine (take_good (str t) (by rw [str_size]; exact hl) a n c Z hn3 w hr hz J hJ hin hout).mono fun e w' h => ?_
  rw [str_size] at hin hout
  rcases Nat.lt_or_ge J n with hJn | hJn
  · exact .inr ⟨by have := hout hJn; have := pos_mono Z (show J + 1 ≤ n by omega); omega, h.2 hJn⟩
  · obtain rfl : J = n := by omega
    left
    obtain ⟨v, rfl, hown, hb⟩ := h.1 rfl
    obtain ⟨x, c2, rfl, hrow⟩ := own_row hown
    rcases hrow with h0 | ⟨b, off, rfl, hlt, hc⟩
    · omega
    · exact ⟨hin, b, off, c2, by rw [ext_str], hlt, hc, hb⟩
theorem take_ok (Z : Nat → Int) (n : Nat) (hn : 1 ≤ n) (hn3 : n ≤ 300) (hz : ∀ i, i < n → ¬ Bad (Z i)) (t : List UInt8) (hl : t.length ≤ 140737488351232) (hp : pos Z n ≤ t.length) (w : World) (a : Option Addr) (c : Nat) (hr : Row .i64 w a n Z) :
    Calls Try.prog 30 #[.string (str t), .slice a n c] w fun e w' => ∃ b off c2, e = .returned (.tuple #[.slice (some ⟨b, off, none⟩) n c2, .string (str (t.drop (pos Z n))), .int .i64 0]) ∧ b < w'.heap.size ∧ (∀ i, i < n → w'.cell? ⟨b, off + i, none⟩ = some (.int .u64 (num t Z i : Int))) ∧ Below w.heap.size w w' :=
  (take_any Z n hn hn3 hz t hl w a c hr).mono fun e w' h => by
    rcases h with h | h
    · exact h.2
    · exact absurd h.1 (by omega)
theorem take_short (Z : Nat → Int) (n : Nat) (hn : 1 ≤ n) (hn3 : n ≤ 300) (hz : ∀ i, i < n → ¬ Bad (Z i)) (t : List UInt8) (hl : t.length ≤ 140737488351232) (hp : t.length < pos Z n) (w : World) (a : Option Addr) (c : Nat) (hr : Row .i64 w a n Z) :
    Calls Try.prog 30 #[.string (str t), .slice a n c] w fun e w' => e = .returned (.tuple #[.slice none 0 0, .string ⟨#[]⟩, .int .i64 5]) ∧ Below w.heap.size w w' :=
  (take_any Z n hn hn3 hz t hl w a c hr).mono fun e w' h => by
    rcases h with h | h
    · exact absurd h.1 (by omega)
    · exact h.2
theorem info_space : (Try.prog.info? 54).map (fun i => (i.zero, i.size, i.bytes)) = some (some (.agg #[.int .i64 0, .int .i64 0, .int .i64 0, .int .i64 0]), 4, 32) := by kernel_rfl
/-- How reading ends. -/
def REnd (s : List UInt8) (w : World) (r : Ending) (w' : World) : Prop :=
  (∃ g L A n c, Says s g L ∧ r = .returned (.tuple #[.int .i64 g, .slice A n c, .int .i64 0]) ∧ n = L.length ∧ n ≤ c ∧ Exs w' A L ∧ Below w.heap.size w w') ∨
  ((∀ g L, ¬ Says s g L) ∧ r = .returned (.tuple #[.int .i64 0, .slice none 0 0, .int .i64 3]) ∧ Below w.heap.size w w')
theorem own_cap {w : World} {base : Nat} {e : TypeId} {size : Nat} {A : Option Addr} {k c n : Nat} {xs : List Value} (h : w.ownsRow base e size (.slice A k c) n xs) : k ≤ c := by
  rcases h.2 with ⟨h1, h2⟩ | ⟨g, cap, cur, h1, _, _, h2, _⟩
  · injection h1 with _ e1 e2
    omega
  · injection h1 with _ e1 e2
    omega
theorem num_S (t : List UInt8) : decS t = ⟨(num t WdS 0 : Nat), (num t WdS 1 : Nat), topOf (num t WdS 2) (num t WdS 3), (num t WdS 3 : Nat)⟩ := rfl
theorem num_S_lt (t : List UInt8) (i : Nat) (hi : i < 4) : num t WdS i < 4294967296 := by
  unfold num
  have h := val_lt ((t.drop (pos WdS i)).take (WdS i).toNat)
  have h2 : ((t.drop (pos WdS i)).take (WdS i).toNat).length ≤ 4 := by
    rw [List.length_take]
    obtain rfl | rfl | rfl | rfl : i = 0 ∨ i = 1 ∨ i = 2 ∨ i = 3 := by omega
    all_goals (simp only [WdS]; omega)
  have h3 : 256 ^ ((t.drop (pos WdS i)).take (WdS i).toNat).length ≤ 256 ^ 4 := Nat.pow_le_pow_right (by decide) h2
  omega
theorem gen_lt (s : List UInt8) : genOf s < 1099511627776 := by
  unfold genOf
  have h := val_lt (s.take 5)
  have h3 : 256 ^ (s.take 5).length ≤ 256 ^ 5 := Nat.pow_le_pow_right (by decide) (by rw [List.length_take]; omega)
  omega
theorem cnt_lt (s : List UInt8) : cntOf s < 256 := by
  unfold cntOf
  have h := val_lt ((s.drop 5).take 1)
  have h3 : 256 ^ ((s.drop 5).take 1).length ≤ 256 ^ 1 := Nat.pow_le_pow_right (by decide) (by rw [List.length_take]; omega)
  omega
theorem Read_short (s : List UInt8) (hs : s.length ≤ 140737488351232) (h6 : s.length < 6) (w : World) : Calls Try.prog 14 #[.string (str s)] w (REnd s w) := by
  have HT : Hid (∀ (w : World) (a : Option Addr) (c : Nat), Row .i64 w a 2 WdH → Calls Try.prog 30 #[.string (str s), .slice a 2 c] w fun e w' => e = .returned (.tuple #[.slice none 0 0, .string ⟨#[]⟩, .int .i64 5]) ∧ Below w.heap.size w w') :=
    Lib.hid fun w a c hr => take_short WdH 2 (by decide) (by decide) wdH_ok s hs (by show _ < 6; exact h6) w a c hr
  obtain ⟨S0, hS0⟩ : ∃ S, S = str s := ⟨_, rfl⟩
  rw [← hS0] at HT
  rw [← hS0]
  have HNG : Hid (∀ g L, ¬ Says s g L) := Lib.hid fun g L h => by have := ((says_iff s g L).1 h).1; omega
  clear hS0 hs h6
  go_enter Try.func14, Try.ntmps14
  go_wp2_with fail
  refine (headWidths_any _).mono ?_
  rintro e w1 ⟨rfl, hr1, hb1⟩
  have HB1 := Lib.hid hb1
  have HR1 := Lib.hid hr1
  clear hb1 hr1
  go_wp2_with fail
  refine (HT.out _ _ _ HR1.out).mono ?_
  rintro e w2 ⟨rfl, hb2⟩
  have HB2 := Lib.hid (bkept HB1.out hb2)
  clear hb2
  go_wp2
  go_ret3
  exact .inr ⟨HNG.out, rfl, HB2.out⟩
set_option maxRecDepth 100000 in
set_option maxHeartbeats 8000000 in
theorem Read_long (s : List UInt8) (hs : s.length ≤ 140737488351232) (h6 : 6 ≤ s.length) (w : World) : Calls Try.prog 14 #[.string (str s)] w (REnd s w) := by
  obtain ⟨i0, hi, hz0, hz1, hz2⟩ := info_parts info_space
  obtain ⟨n, hn⟩ : ∃ n, n = cntOf s := ⟨_, rfl⟩
  obtain ⟨t, ht⟩ : ∃ t, t = s.drop 6 := ⟨_, rfl⟩
  obtain ⟨gn, hgn⟩ : ∃ g, g = genOf s := ⟨_, rfl⟩
  have hn256 : n < 256 := by rw [hn]; exact cnt_lt s
  have hg5 : gn < 1099511627776 := by rw [hgn]; exact gen_lt s
  have HG : Hid (∀ g L, Says s g L ↔ t.length = 9 * n ∧ L = decs decS 9 n t ∧ g = (gn : Nat) ∧ Recd g L) := Lib.hid fun g L => by rw [hn, ht, hgn, says_iff]; exact ⟨fun h => h.2, fun h => ⟨h6, h⟩⟩
  have hl : t.length ≤ 140737488351232 := by rw [ht, List.length_drop]; omega
  obtain ⟨TT, hTT⟩ : ∃ TT : Nat → ByteArray, ∀ k, TT k = str (t.drop (9 * k)) := ⟨_, fun _ => rfl⟩
  obtain ⟨S0, hS0⟩ : ∃ S, S = str s := ⟨_, rfl⟩
  have HT0 : Hid (∀ (w : World) (a : Option Addr) (c : Nat), Row .i64 w a 2 WdH → Calls Try.prog 30 #[.string S0, .slice a 2 c] w fun e w' => ∃ b off c2, e = .returned (.tuple #[.slice (some ⟨b, off, none⟩) 2 c2, .string (TT 0), .int .i64 0]) ∧ b < w'.heap.size ∧ w'.cell? ⟨b, off, none⟩ = some (.int .u64 (gn : Int)) ∧ w'.cell? ⟨b, off + 1, none⟩ = some (.int .u64 (n : Int)) ∧ Below w.heap.size w w') := Lib.hid fun w a c2 hr => by
    rw [hS0]
    refine (take_ok WdH 2 (by decide) (by decide) wdH_ok s hs (by show 6 ≤ _; exact h6) w a c2 hr).mono ?_
    rintro e w' ⟨b, off, c3, rfl, hb, hc, hbl⟩
    refine ⟨b, off, c3, by rw [hTT, ht]; rfl, hb, ?_, ?_, hbl⟩
    · have := hc 0 (by decide)
      rw [hgn]; exact this
    · have := hc 1 (by decide)
      rw [hn]; exact this
  have HTK : Hid (∀ k, 9 * (k + 1) ≤ t.length → ∀ (w : World) (a : Option Addr) (c : Nat), Row .i64 w a 4 WdS → Calls Try.prog 30 #[.string (TT k), .slice a 4 c] w fun e w' => ∃ b off c2, e = .returned (.tuple #[.slice (some ⟨b, off, none⟩) 4 c2, .string (TT (k + 1)), .int .i64 0]) ∧ b < w'.heap.size ∧ (∀ i, i < 4 → w'.cell? ⟨b, off + i, none⟩ = some (.int .u64 (num (t.drop (9 * k)) WdS i : Int))) ∧ Below w.heap.size w w') := Lib.hid fun k hk w a c2 hr => by
    rw [hTT]
    refine (take_ok WdS 4 (by decide) (by decide) wdS_ok (t.drop (9 * k)) (by rw [List.length_drop]; omega) (by rw [List.length_drop]; show 9 ≤ _; omega) w a c2 hr).mono ?_
    rintro e w' ⟨b, off, c3, rfl, hb, hc, hbl⟩
    refine ⟨b, off, c3, ?_, hb, hc, hbl⟩
    rw [hTT, List.drop_drop]
    rfl
  have HTF : Hid (∀ k, t.length < 9 * (k + 1) → ∀ (w : World) (a : Option Addr) (c : Nat), Row .i64 w a 4 WdS → Calls Try.prog 30 #[.string (TT k), .slice a 4 c] w fun e w' => e = .returned (.tuple #[.slice none 0 0, .string ⟨#[]⟩, .int .i64 5]) ∧ Below w.heap.size w w') := Lib.hid fun k hk w a c2 hr => by
    rw [hTT]
    exact take_short WdS 4 (by decide) (by decide) wdS_ok (t.drop (9 * k)) (by rw [List.length_drop]; omega) (by rw [List.length_drop]; show _ < 9; omega) w a c2 hr
  have HTZ : Hid (t.length = 9 * n → TT n = ⟨#[]⟩) := Lib.hid fun h => by rw [hTT, List.drop_eq_nil_of_le (by omega)]; rfl
  have HTN : Hid (9 * n < t.length → ((TT n).toList == ([] : List UInt8)) = false) := Lib.hid fun h => by
    rw [hTT, str_toList]
    have : t.drop (9 * n) ≠ [] := fun e => by have := congrArg List.length e; rw [List.length_drop] at this; simp at this; omega
    cases hx : t.drop (9 * n) with
    | nil => exact absurd hx this
    | cons a b => rfl
  have wg := i64_nat (n := gn) (by omega)
  rw [← hS0]
  clear hS0 hTT hs hn ht hgn h6 hl hg5
  go_enter Try.func14, Try.ntmps14
  go_wp2_with fail
  refine (headWidths_any _).mono ?_
  rintro e w0 ⟨rfl, hr0, hb0⟩
  have HB0 := Lib.hid hb0
  have HR0 := Lib.hid hr0
  clear hb0 hr0
  go_wp2_with fail
  refine (HT0.out _ _ _ HR0.out).mono ?_
  rintro e w1 ⟨b1, o1, c1, rfl, hb1, hc1, hc2, hbl1⟩
  have hB1 := bkept HB0.out hbl1
  have HB1 := Lib.hid hB1
  have HC1 := Lib.hid hc1
  have HLT1 := Lib.hid hb1
  have hsz1 := hB1.size
  clear hbl1 hB1 hc1 hb1
  go_wp2
  go_loopw [3, 6, 20] (fun v p i wr => ∃ (k : Nat) (A : Option Addr) (cc : Nat), k ≤ n ∧ i = .int .u64 k ∧ p = .string (TT k) ∧ v = .slice A k cc ∧ Hid (9 * k ≤ t.length) ∧ Hid (wr.ownsRow w1.heap.size 54 4 (.slice A k cc) k (exCells (decs decS 9 k t))) ∧ Below w1.heap.size w1 wr) (fun _ _ i _ => n - (intOf i).toNat)
  case atStart => exact ⟨0, none, 0, Nat.zero_le _, rfl, rfl, rfl, Lib.hid (by simp), Lib.hid (World.ownsRow_nil _ _ _ _), Below.refl _ _⟩
  case round =>
    obtain ⟨k, A, cc, hk, rfl, rfl, rfl, HLE, HOW, hbel⟩ := hrel
    have HBL := Lib.hid hbel
    have hszr := hbel.size
    by_cases hlt : k < n
    · have t1 : (k : Int) < (n : Int) := by omega
      by_cases hfit : 9 * (k + 1) ≤ t.length
      · have HTK1 := Lib.hid (HTK.out k hfit)
        have HFIT := Lib.hid hfit
        clear hbel hfit
        go_wp2_with fail
        refine (spaceWidths_any _).mono ?_
        rintro e wx ⟨rfl, hrx, hbx⟩
        have HBX := Lib.hid hbx
        have HRX := Lib.hid hrx
        clear hbx hrx
        go_wp2_with fail
        refine (HTK1.out _ _ _ HRX.out).mono ?_
        rintro e w2 ⟨b2, o2, c2, rfl, hb2, hc2, hbl2⟩
        have HB2 := Lib.hid (bkept HBX.out hbl2)
        have HOF := Lib.hid (spaceOf_any b2 o2 c2 (num (t.drop (9 * k)) WdS 0) (num (t.drop (9 * k)) WdS 1) (num (t.drop (9 * k)) WdS 2) (num (t.drop (9 * k)) WdS 3) (num_S_lt _ 0 (by decide)) (num_S_lt _ 1 (by decide)) (num_S_lt _ 2 (by decide)) (num_S_lt _ 3 (by decide)) w2 hb2 (by simpa using hc2 0 (by decide)) (hc2 1 (by decide)) (hc2 2 (by decide)) (hc2 3 (by decide)))
        have hsz2 : w1.heap.size ≤ w2.heap.size := Nat.le_trans hszr HB2.out.size
        clear hc2 hbl2 hb2
        go_wp2_with fail
        refine HOF.out.mono ?_
        rintro e w3 ⟨rfl, hb3⟩
        have hB3 : Below wr.heap.size wr w3 := bkept HB2.out hb3
        have HO3 := Lib.hid (MM.own_kept HOW.out hB3)
        have HB3 := Lib.hid (HBL.out.trans (hB3.mono hszr))
        have hsz3 : w1.heap.size ≤ w3.heap.size := Nat.le_trans hszr hB3.size
        obtain ⟨TP, hTP⟩ : ∃ x, x = topOf (num (t.drop (9 * k)) WdS 2) (num (t.drop (9 * k)) WdS 3) := ⟨_, rfl⟩
        rw [← hTP]
        have HTP := Lib.hid hTP
        clear hb3 hB3 hTP
        go_wp2_with (at_builtin; refine wpList_append_own _ rfl _ _ 22 rfl w1.heap.size 54 i0 (.agg #[.int .i64 0, .int .i64 0, .int .i64 0, .int .i64 0]) 4 32 Try.underlying22 hi hz0 hz1 hz2 rfl (by decide) _ _ _ rfl (HO3.out.alloc _) ⟨w3.heap.size, 0, none⟩ 1 1 [.int .i64 (num (t.drop (9 * k)) WdS 0 : Nat), .int .i64 (num (t.drop (9 * k)) WdS 1 : Nat), .int .i64 TP, .int .i64 (num (t.drop (9 * k)) WdS 3 : Nat)] rfl (by rfl) ?c1 ?c2 ?c3 ?c4 ?c5 ?_)
        case c1 => exact new_cells _ _ _
        case c2 => intro u hu; simp at hu; rcases hu with rfl | rfl | rfl | rfl <;> rfl
        case c3 => unfold maxLen; omega
        case c4 => omega
        case c5 => simp; omega
        intro v8 w8 own8 hgrow _
        have own9 : w8.ownsRow w1.heap.size 54 4 v8 (k + 1) (exCells (decs decS 9 (k + 1) t)) := by
          rw [decs_snoc, ← exCells_snoc, num_S, ← HTP.out]; exact own8
        have hl8 : Below w1.heap.size w1 w8 := (HB3.out.alloc hsz3 _).grown hgrow (by simp; omega) (fun j hj => (HO3.out.lt j hj).1)
        obtain ⟨A8, c8, rfl⟩ := own_slice own9
        have O8 := Lib.hid own9
        have L8 := Lib.hid hl8
        clear own8 own9 hl8 hgrow
        go_wp2
        go_roundw
        case rel => exact ⟨k + 1, A8, c8, by omega, by go_num, rfl, rfl, HFIT, O8, L8.out⟩
        case measure => simp [intOf]; omega
      · have HTK1 := Lib.hid (HTF.out k (by omega))
        have HNG : Hid (∀ g L, ¬ Says s g L) := Lib.hid fun g L h => by
          have := ((HG.out g L).1 h).1
          have h3 : 9 * (k + 1) ≤ 9 * n := Nat.mul_le_mul_left _ hlt
          omega
        clear hbel hfit
        go_wp2_with fail
        refine (spaceWidths_any _).mono ?_
        rintro e wx ⟨rfl, hrx, hbx⟩
        have HBX := Lib.hid hbx
        have HRX := Lib.hid hrx
        clear hbx hrx
        go_wp2_with fail
        refine (HTK1.out _ _ _ HRX.out).mono ?_
        rintro e w2 ⟨rfl, hb2⟩
        have HB2 := Lib.hid (HB1.out.trans ((HBL.out.trans ((bkept HBX.out hb2).mono hszr)).mono hsz1))
        clear hb2
        go_wp2
        go_ret3
        exact .inr ⟨HNG.out, rfl, HB2.out⟩
    · obtain rfl : k = n := by omega
      have t1 : ¬ (k : Int) < (k : Int) := by omega
      have HBW := Lib.hid (HB1.out.trans (hbel.mono hsz1))
      have hcg := (hbel.cell (p := ⟨b1, o1, none⟩) HLT1.out).trans HC1.out
      by_cases hend : t.length = 9 * k
      · obtain ⟨D, hD⟩ : ∃ D, D = decs decS 9 k t := ⟨_, rfl⟩
        have hDl : D.length = k := by rw [hD, decs_len]
        have hO := HOW.out
        rw [← hD] at hO
        have hO' : wr.ownsRow w1.heap.size 54 4 (.slice A k cc) D.length (exCells D) := by rw [hDl]; exact hO
        obtain ⟨A', c', e1, e2⟩ := own_exs hO'
        have hA : A' = A := (Value.slice.inj e1).1.symm
        rw [hA] at e2
        have HROW := Lib.hid e2
        have HDL := Lib.hid hDl
        have HG2 : Hid (∀ g L, Says s g L ↔ L = D ∧ g = (gn : Nat) ∧ Recd g L) := Lib.hid fun g L => by
          rw [HG.out g L, hD]
          exact ⟨fun h => h.2, fun h => ⟨hend, h⟩⟩
        have hz := HTZ.out hend
        have HMAY := Lib.hid (fun cap => mayBe_any (gn : Int) D k cap hDl.symm A wr e2)
        obtain ⟨EE, hEE⟩ : ∃ E, E = TT k := ⟨_, rfl⟩
        rw [← hEE] at hz ⊢
        subst hz
        clear hEE hD hDl hO hO' e1 e2 hA hend hbel
        by_cases hv : Recd (gn : Int) D
        · rw [decide_eq_true hv] at HMAY
          have HV := Lib.hid hv
          clear hv
          go_wp2_with fail
          refine (HMAY.out _).mono ?_
          rintro e w2 ⟨rfl, hb2⟩
          have HB2 := Lib.hid (bkept HBW.out hb2)
          have HR2 := Lib.hid (HROW.out.below hb2)
          clear hb2
          go_wp2
          go_ret3
          exact .inl ⟨(gn : Int), D, A, _, _, (HG2.out _ D).2 ⟨rfl, rfl, HV.out⟩, rfl, HDL.out.symm, own_cap HOW.out, HR2.out, HB2.out⟩
        · rw [decide_eq_false hv] at HMAY
          have HV := Lib.hid hv
          clear hv
          go_wp2_with fail
          refine (HMAY.out _).mono ?_
          rintro e w2 ⟨rfl, hb2⟩
          have HB2 := Lib.hid (bkept HBW.out hb2)
          clear hb2
          go_wp2
          go_ret3
          exact .inr ⟨fun g L h => HV.out (by obtain ⟨rfl, rfl, h3⟩ := (HG2.out g L).1 h; exact h3), rfl, HB2.out⟩
      · have hgt : 9 * k < t.length := by have := HLE.out; omega
        have hne := HTN.out hgt
        have HNG : Hid (∀ g L, ¬ Says s g L) := Lib.hid fun g L h => hend ((HG.out g L).1 h).1
        clear hend hgt hbel
        go_wp2
        go_ret3
        exact .inr ⟨HNG.out, rfl, HBW.out⟩
theorem Read_any (s : List UInt8) (hs : s.length ≤ 140737488351232) (w : World) : Calls Try.prog 14 #[.string (str s)] w (REnd s w) := by
  rcases Nat.lt_or_ge s.length 6 with h | h
  · exact Read_short s hs h w
  · exact Read_long s hs h w
end RT
end Go.Proofs.Ytdjlflinepefbaa
