/- 3 texts laid together: each says at its head what it proves. No condition but those that each theorem names. -/
import Derived.Test.YtdjlflinepefbabGreatQ45
import Derived.Test.YtdjlflinepefbabGreatQ38
import Derived.Test.YtdjlflinepefbabGreatQ39
import Derived.Test.YtdjlflinepefbabGreatProg
import Derived.WalkKit
import Derived.ProofKit
import Derived.OpenShut
import Derived.ShutString
import Derived.ChangeOld
import Derived.ChangeSame
import Derived.Below
import Derived.SizedLaws
import Derived.Deep.Slices
import Derived.Deep.Fields
import Derived.Lib.SmallJoins

/- What page.Read answers: of any bytes. Condition: no text is longer than 2^47 bytes. -/
namespace Go.Proofs.YtdjlflinepefbabGreat
open Go.RowKit
namespace PG
open FM CM MM
set_option linter.unusedVariables false
set_option linter.unusedSimpArgs false

/-- What parse answers of bytes that are no page's: no. -/
theorem parse_no (t : ByteArray) (hl : t.size ≤ 140737488351232) (h : ¬ Laid t.data.toList) (w : World) :
    Calls Tryz.prog 100 #[.string t] w fun e w' => ∃ q : Pg, e = .returned (.tuple #[.agg #[.int .i64 q.kind, .int .i64 q.space, .int .i64 q.key, .int .i64 q.seq, .string q.body], .bool false]) ∧ Below w.heap.size w w' := by
  by_cases h1 : t.data.toList.take 2 = [83, 99]
  · rcases Nat.lt_or_ge t.size 16 with h2 | h2
    · exact (parse_short t hl h1 h2 w).mono fun e w' h => ⟨Pg.zero, h.1, h.2⟩
    · by_cases h3 : val ((t.data.toList.drop 15).take 1) = t.size - 16
      · have hm : ¬ May (dec t.data.toList) := fun hm => h ⟨⟨h1, by rw [len_size]; exact h2, by rw [len_size]; exact h3⟩, hm⟩
        exact (parse_fit t hl h1 h2 h3 false (Lib.hid (maybe_no _ hm)) w).mono fun e w' h => ⟨dec t.data.toList, h.1, h.2⟩
      · exact (parse_len t hl h1 h2 h3 w).mono fun e w' h => ⟨Pg.zero, h.1, h.2⟩
  · exact (parse_unmarked t hl h1 w).mono fun e w' h => ⟨Pg.zero, h.1, h.2⟩
theorem parse_yes (t : ByteArray) (hl : t.size ≤ 140737488351232) (h : Laid t.data.toList) (w : World) :
    Calls Tryz.prog 100 #[.string t] w fun e w' => e = .returned (.tuple #[.agg #[.int .i64 (dec t.data.toList).kind, .int .i64 (dec t.data.toList).space, .int .i64 (dec t.data.toList).key, .int .i64 (dec t.data.toList).seq, .string (dec t.data.toList).body], .bool true]) ∧ Below w.heap.size w w' :=
  parse_fit t hl h.1.1 (by have := h.1.2.1; rwa [len_size] at this) (by have := h.1.2.2; rwa [len_size] at this) true (Lib.hid (maybe_yes _ h.2)) w

/-- Bytes whose sum does not fit, or that have none: Open's own error. -/
theorem read_err (t : ByteArray) (n : Int) (hn : ¬ n = 0) (HO : Hid (∀ w, Calls Tryz.prog 99 #[.string t] w fun e w' => e = .returned (.tuple #[.string ⟨#[]⟩, .int .i64 n]) ∧ Below w.heap.size w w')) (w : World) :
    Calls Tryz.prog 68 #[.string t] w fun e w' => e = .returned (.tuple #[.agg #[.int .i64 0, .int .i64 0, .int .i64 0, .int .i64 0, .string ⟨#[]⟩], .int .i64 n]) ∧ Below w.heap.size w w' := by
  obtain ⟨W, hW⟩ : ∃ W, W = w.alloc (.cells #[.int .i64 0, .int .i64 0, .int .i64 0, .int .i64 0, .string ⟨#[]⟩] 117) := ⟨_, rfl⟩
  have k1 : Blk W w.heap.size 117 #[.int .i64 0, .int .i64 0, .int .i64 0, .int .i64 0, .string ⟨#[]⟩] := by rw [hW]; exact Blk.new w _ _
  have hb0 : Below w.heap.size w W := by rw [hW]; exact below_box w _
  have HW := Lib.hid hW
  clear hW
  go_enter Tryz.func68, Tryz.ntmps68
  go_wp2_with fail
  rw [← HW.out]
  refine (HO.out _).mono ?_
  rintro e w1 ⟨rfl, hb1⟩
  have k2 := k1.below hb1 k1.lt
  obtain ⟨⟨z0, z1, z2, z3, z4⟩, f0, f1, f2, f3, f4⟩ := cells5 k2
  have HB := Lib.hid (hb0.trans (hb1.mono hb0.size))
  have K2 := Lib.hid k2
  clear hb1 k1 k2 hb0
  go_wp2
  exact ret_cell_tmp rfl _ _ _ _ _ _ _ _ rfl rfl rfl (stored5 K2.out _ _ _ _ _) Tryz.underlying117 rfl (by kernel_rfl) ⟨rfl, stored5_below HB.out (Nat.le_refl _) _ _ _ _ _⟩

set_option maxHeartbeats 1000000 in
/-- A sum that fits, over what is no page's. -/
theorem read_form (t b : ByteArray) (HO : Hid (∀ w, Calls Tryz.prog 99 #[.string t] w fun e w' => e = .returned (.tuple #[.string b, .int .i64 0]) ∧ Below w.heap.size w w'))
    (HP : Hid (∀ w, Calls Tryz.prog 100 #[.string b] w fun e w' => ∃ q : Pg, e = .returned (.tuple #[.agg #[.int .i64 q.kind, .int .i64 q.space, .int .i64 q.key, .int .i64 q.seq, .string q.body], .bool false]) ∧ Below w.heap.size w w')) (w : World) :
    Calls Tryz.prog 68 #[.string t] w fun e w' => e = .returned (.tuple #[.agg #[.int .i64 0, .int .i64 0, .int .i64 0, .int .i64 0, .string ⟨#[]⟩], .int .i64 3]) ∧ Below w.heap.size w w' := by
  obtain ⟨W, hW⟩ : ∃ W, W = w.alloc (.cells #[.int .i64 0, .int .i64 0, .int .i64 0, .int .i64 0, .string ⟨#[]⟩] 117) := ⟨_, rfl⟩
  have k1 : Blk W w.heap.size 117 #[.int .i64 0, .int .i64 0, .int .i64 0, .int .i64 0, .string ⟨#[]⟩] := by rw [hW]; exact Blk.new w _ _
  have hb0 : Below w.heap.size w W := by rw [hW]; exact below_box w _
  have HW := Lib.hid hW
  clear hW
  go_enter Tryz.func68, Tryz.ntmps68
  go_wp2_with fail
  rw [← HW.out]
  refine (HO.out _).mono ?_
  rintro e w1 ⟨rfl, hb1⟩
  have HB := Lib.hid (hb0.trans (hb1.mono hb0.size))
  have K2 := Lib.hid (k1.below hb1 k1.lt)
  clear hb1 k1 hb0
  go_wp2_with fail
  refine (HP.out _).mono ?_
  rintro e w2 ⟨⟨q0, q1, q2, q3, q4⟩, rfl, hb2⟩
  have k3 := (K2.out.below hb2 K2.out.lt).alloc (.cells #[.int .i64 q0, .int .i64 q1, .int .i64 q2, .int .i64 q3, .string q4] 117)
  obtain ⟨⟨z0, z1, z2, z3, z4⟩, f0, f1, f2, f3, f4⟩ := cells5 k3
  have hbb := HB.out.trans (hb2.mono HB.out.size)
  have HB3 := Lib.hid (hbb.alloc hbb.size (.cells #[.int .i64 q0, .int .i64 q1, .int .i64 q2, .int .i64 q3, .string q4] 117))
  have K3 := Lib.hid k3
  clear hb2 hbb k3
  go_wp2
  exact ret_cell_tmp rfl _ _ _ _ _ _ _ _ rfl rfl rfl (stored5 K3.out _ _ _ _ _) Tryz.underlying117 rfl (by kernel_rfl) ⟨rfl, stored5_below HB3.out (Nat.le_refl _) _ _ _ _ _⟩

set_option maxHeartbeats 1000000 in
theorem read_page (t b : ByteArray) (q0 q1 q2 q3 : Int) (q4 : ByteArray) (HO : Hid (∀ w, Calls Tryz.prog 99 #[.string t] w fun e w' => e = .returned (.tuple #[.string b, .int .i64 0]) ∧ Below w.heap.size w w'))
    (HP : Hid (∀ w, Calls Tryz.prog 100 #[.string b] w fun e w' => e = .returned (.tuple #[.agg #[.int .i64 q0, .int .i64 q1, .int .i64 q2, .int .i64 q3, .string q4], .bool true]) ∧ Below w.heap.size w w')) (w : World) :
    Calls Tryz.prog 68 #[.string t] w fun e w' => e = .returned (.tuple #[.agg #[.int .i64 q0, .int .i64 q1, .int .i64 q2, .int .i64 q3, .string q4], .int .i64 0]) ∧ Below w.heap.size w w' := by
  obtain ⟨W, hW⟩ : ∃ W, W = w.alloc (.cells #[.int .i64 0, .int .i64 0, .int .i64 0, .int .i64 0, .string ⟨#[]⟩] 117) := ⟨_, rfl⟩
  have k1 : Blk W w.heap.size 117 #[.int .i64 0, .int .i64 0, .int .i64 0, .int .i64 0, .string ⟨#[]⟩] := by rw [hW]; exact Blk.new w _ _
  have hb0 : Below w.heap.size w W := by rw [hW]; exact below_box w _
  have HW := Lib.hid hW
  clear hW
  go_enter Tryz.func68, Tryz.ntmps68
  go_wp2_with fail
  rw [← HW.out]
  refine (HO.out _).mono ?_
  rintro e w1 ⟨rfl, hb1⟩
  have HB := Lib.hid (hb0.trans (hb1.mono hb0.size))
  have K2 := Lib.hid (k1.below hb1 k1.lt)
  clear hb1 k1 hb0
  go_wp2_with fail
  refine (HP.out _).mono ?_
  rintro e w2 ⟨rfl, hb2⟩
  have k3 := (K2.out.below hb2 K2.out.lt).alloc (.cells #[.int .i64 q0, .int .i64 q1, .int .i64 q2, .int .i64 q3, .string q4] 117)
  obtain ⟨⟨z0, z1, z2, z3, z4⟩, f0, f1, f2, f3, f4⟩ := cells5 k3
  have hbb := HB.out.trans (hb2.mono HB.out.size)
  have HB3 := Lib.hid (hbb.alloc hbb.size (.cells #[.int .i64 q0, .int .i64 q1, .int .i64 q2, .int .i64 q3, .string q4] 117))
  have K3 := Lib.hid k3
  clear hb2 hbb k3
  go_wp2
  exact ret_cell_tmp rfl _ _ _ _ _ _ _ _ rfl rfl rfl (stored5 K3.out _ _ _ _ _) Tryz.underlying117 rfl (by kernel_rfl) ⟨rfl, stored5_below HB3.out (Nat.le_refl _) _ _ _ _ _⟩

/-- How bytes are read: which error, or which page. -/
inductive Ans (t : ByteArray) : Pg → Int → Prop
  | short (h : t.size < 4) : Ans t Pg.zero 5
  | sum (h4 : 4 ≤ t.size) (h : ¬ sealOk t.data.toList) : Ans t Pg.zero 6
  | form (h4 : 4 ≤ t.size) (h : sealOk t.data.toList) (hf : ¬ Laid (CM.body t.data.toList)) : Ans t Pg.zero 3
  | page (h4 : 4 ≤ t.size) (h : sealOk t.data.toList) (hf : Laid (CM.body t.data.toList)) : Ans t (dec (CM.body t.data.toList)) 0
theorem ans_some (t : ByteArray) : ∃ q n, Ans t q n := by
  rcases Nat.lt_or_ge t.size 4 with h | h
  · exact ⟨_, _, .short h⟩
  · by_cases h1 : sealOk t.data.toList
    · by_cases h2 : Laid (CM.body t.data.toList)
      · exact ⟨_, _, .page h h1 h2⟩
      · exact ⟨_, _, .form h h1 h2⟩
    · exact ⟨_, _, .sum h h1⟩
theorem ans_page {t : ByteArray} {q : Pg} (h : Ans t q 0) : May q ∧ str (bytes q) = t := by
  generalize hn : (0 : Int) = n at h
  cases h with
  | short h => exact absurd hn (by decide)
  | sum h4 h => exact absurd hn (by decide)
  | form h4 h hf => exact absurd hn (by decide)
  | page h4 h hf => exact ⟨hf.2, by rw [bytes, lay_dec hf.1, sealed_body h, str_data]⟩
theorem ans_zero {t : ByteArray} {q : Pg} {n : Int} (h : Ans t q n) (hn : n ≠ 0) : q = Pg.zero := by
  cases h with
  | short h => rfl
  | sum h4 h => rfl
  | form h4 h hf => rfl
  | page h4 h hf => exact absurd rfl hn
/-- What was written is read. -/
theorem ans_bytes {p : Pg} (h : May p) : Ans (str (bytes p)) p 0 := by
  have e1 : (str (bytes p)).data.toList = sealed (lay p) := data_str _
  have e2 : CM.body (str (bytes p)).data.toList = lay p := by rw [e1, body_sealed]
  have := Ans.page (t := str (bytes p)) (by rw [str_size, bytes_len]; omega) (by rw [e1]; exact sealed_ok _) (by rw [e2]; exact laid_lay h)
  rwa [e2, dec_lay h] at this
theorem body_size (t : ByteArray) (h : t.size ≤ 140737488351232) : (str (CM.body t.data.toList)).size ≤ 140737488351232 := by
  rw [str_size, CM.body, List.length_take, CM.len_size]; omega
theorem read_any {t : ByteArray} {q : Pg} {n : Int} (h : Ans t q n) (hl : t.size ≤ 140737488351232) (w : World) :
    Calls Tryz.prog 68 #[.string t] w fun e w' => e = .returned (.tuple #[.agg #[.int .i64 q.kind, .int .i64 q.space, .int .i64 q.key, .int .i64 q.seq, .string q.body], .int .i64 n]) ∧ Below w.heap.size w w' := by
  cases h with
  | short h => exact read_err t 5 (by decide) (Lib.hid fun w => (open_short t h w).mono fun e w' h => ⟨h.1, h.2 ▸ Below.refl _ _⟩) w
  | sum h4 h => exact read_err t 6 (by decide) (Lib.hid (open_bad t (by omega) h4 h)) w
  | form h4 h hf => exact read_form t _ (Lib.hid (open_ok t (by omega) h4 h)) (Lib.hid (parse_no _ (body_size t hl) (by rw [data_str]; exact hf))) w
  | page h4 h hf =>
    have hp := parse_yes (str (CM.body t.data.toList)) (body_size t hl) (by rw [data_str]; exact hf)
    rw [data_str] at hp
    exact read_page t _ _ _ _ _ _ (Lib.hid (open_ok t (by omega) h4 h)) (Lib.hid hp) w
end PG
end Go.Proofs.YtdjlflinepefbabGreat

/- The worked example of the two lowest layers together holds: scoriatop.fine answers true. Condition: errors.errorType holds what start-up lays. -/
namespace Go.Proofs.YtdjlflinepefbabGreat
namespace TP
open Go.RowKit MM ND PG
set_option linter.unusedVariables false
set_option linter.unusedSimpArgs false

theorem plain_any (w : World) : Calls Tryz.prog 64 #[] w fun e w' => e = .returned (.agg #[.int .i64 16, .int .i64 8]) ∧ Below w.heap.size w w' := by
  go_enter Tryz.func64, Tryz.ntmps64
  go_wp2
  simp [bodyPost, results, Tryz.results64, go_sem]
  exact (Below.refl _ _).alloc (Nat.le_refl _) _

def fx : Pg := ⟨1, 0, 3, 0, ⟨#[97]⟩⟩
theorem fx_may : May fx := by unfold May fx; decide
theorem bytes_size {p : Pg} (h : May p) : (FM.str (PG.bytes p)).size ≤ 128 := by rw [FM.str_size, PG.bytes_len]; have := h.2.2.2.2; omega

/-- A page put first. -/
def D1 (a : ByteArray) : Nd := ((fresh 16 8).counted).wrote 0 a
theorem d1 {a : ByteArray} (h : a.size ≤ 128) : (fresh 16 8).program 0 a = (D1 a, 0) := by
  have := program_eq (d := fresh 16 8) (p := 0) rfl (by decide) h rfl rfl
  exact this
theorem d1_read (a : ByteArray) : (D1 a).read 0 = (a, 0) := by kernel_rfl

set_option maxRecDepth 100000 in
set_option maxHeartbeats 1000000 in
theorem fine_any (w : World) : Calls Tryz.prog 32 #[] w fun e w' => e = .returned (.bool true) ∧ Below w.heap.size w w' := by
  have HWR := Lib.hid (write_yes fx fx_may)
  have HAN := Lib.hid (ans_bytes fx_may)
  have HSZ := Lib.hid (bytes_size fx_may)
  obtain ⟨X, hX⟩ : ∃ X, X = FM.str (PG.bytes fx) := ⟨_, rfl⟩
  rw [← hX] at HWR HAN HSZ
  clear hX
  have HRD : Hid (∀ w, Calls Tryz.prog 68 #[.string X] w fun e w' => e = .returned (.tuple #[.agg #[.int .i64 1, .int .i64 0, .int .i64 3, .int .i64 0, .string ⟨#[97]⟩], .int .i64 0]) ∧ Below w.heap.size w w') := read_any HAN.out (by have := HSZ.out; omega)
  have HWR' : Hid (∀ w, Calls Tryz.prog 65 #[.agg #[.int .i64 1, .int .i64 0, .int .i64 3, .int .i64 0, .string ⟨#[97]⟩]] w fun e w' => e = .returned (.tuple #[.string X, .int .i64 0]) ∧ Below w.heap.size w w') := HWR.out
  clear HWR
  go_enter Tryz.func32, Tryz.ntmps32
  go_wp2_with fail
  refine (plain_any _).mono ?_
  rintro e w0 ⟨rfl, hb0⟩
  go_wp2_with fail
  refine (st_new 16 8 (by omega) w hb0).mono ?_
  rintro e w1 ⟨g, rfl, h1, _⟩
  have H1 := Lib.hid h1
  clear h1 hb0
  go_wp2_with fail
  refine (HWR'.out _).mono ?_
  rintro e w2 ⟨rfl, hb2⟩
  have H2 := Lib.hid (H1.out.below hb2)
  clear hb2
  go_wp2_with fail
  refine (st_program H2.out (by decide) 0 rfl X).mono ?_
  rintro e w3 ⟨v3, rfl, he3, h3, _⟩
  rw [d1 HSZ.out] at he3 h3
  obtain rfl := he3.none rfl
  have H3 := Lib.hid h3
  clear h3 he3
  go_wp2_with fail
  refine (st_read H3.out 0 rfl).mono ?_
  rintro e w4 ⟨v4, rfl, he4, h4, _⟩
  rw [d1_read] at he4
  obtain rfl := he4.none rfl
  rw [d1_read]
  have H4 := Lib.hid h4
  clear h4 he4
  go_wp2_with fail
  refine (HRD.out _).mono ?_
  rintro e w5 ⟨rfl, hb5⟩
  have hbel := H4.out.bel.trans (hb5.mono H4.out.bel.size)
  have HB5 := Lib.hid (hbel.alloc hbel.size (.cells #[.int .i64 1, .int .i64 0, .int .i64 3, .int .i64 0, .string ⟨#[97]⟩] 117))
  clear hb5 hbel
  go_wp2
  go_ret
  exact ⟨rfl, HB5.out⟩
end TP
end Go.Proofs.YtdjlflinepefbabGreat

/- How the arguments of layer 3's laws are opened: slices of structs of one-cell fields; one such struct by value. No condition but those that each theorem names. -/
namespace Go.Proofs.YtdjlflinepefbabGreat.OP
open Go.RowKit Go.ChangeShapes Go.WideShapes Go.Deep
set_option linter.unusedVariables false

section
variable {H : Type} {enc : TypeId × Value → H} {P : Program} {w : World} {base : Nat} {spare : Nat → Bool} {held : Bool}
theorem open_slice_fields {t e : TypeId} {fs : Array Field} {fuel : Nat} {cs : List Value} {x : DataW H × List MemPlace} (ht : P.underlying t = some (.slice e)) (he : P.underlying e = some (.struct fs))
    (hone : oneCellFields P fs = true) (hC : P.cellsOf e = fs.size) (h : DataW.trod enc P w base spare held fuel t cs = some x) :
    (cs = [.slice none 0 0] ∧ x = (.nil, [])) ∨
    ∃ (a : Addr) (len cap m : Nat) (D : Nat → DataW H) (Pl : Nat → List MemPlace), cs = [.slice (some a) len cap] ∧ base ≤ a.block ∧ len ≤ cap ∧ cap ≤ maxLen ∧ m = (if spare a.block then cap else len) ∧
      x = (.slice ((List.range len).map D) ((List.range (m - len)).map fun j => D (len + j)), MemPlace.row a (m * fs.size) ++ (List.range m).flatMap Pl) ∧
      ∀ i, i < m → ∃ (ys : List (DataW H × List MemPlace)) (n : Nat), D i = .agg (ys.map (·.1)) ∧ Pl i = ys.flatMap (·.2) ∧ ys.length = fs.size ∧
        ∀ (j : Nat) (f : Field), fs[j]? = some f → ∃ (v : Value) (y : DataW H × List MemPlace), w.cell? (a.add (i * fs.size + j)) = some v ∧ ys[j]? = some y ∧ DataW.trod enc P w base spare held n f.type [v] = some y := by
  rcases open_slice ht h with h0 | ⟨a, len, cap, m, n, D, Pl, hcs, hb, hl, hm, hmm, hx, hi⟩
  · exact .inl h0
  · refine .inr ⟨a, len, cap, m, D, Pl, hcs, hb, hl, hm, hmm, by rw [hC] at hx; exact hx, fun i him => ?_⟩
    obtain ⟨cs', hc, ht'⟩ := hi i him
    rw [hC] at hc
    obtain ⟨ys, n', hn', hy, hlen, hyl, hf⟩ := DataW.trod_struct he ht'
    obtain ⟨_, hcl, hat⟩ := World.cells?_some hc
    simp only [Prod.mk.injEq] at hy
    refine ⟨ys, n', hy.1, hy.2, hyl, fun j f hj => ?_⟩
    obtain ⟨ho, hk⟩ := hone_of hone j f hj
    have hjl : j < fs.size := (Array.getElem?_eq_some_iff.1 hj).1
    have hcell := hat j hjl
    have hv : cs'[j]? = some (cs'[j]'(by omega)) := List.getElem?_eq_getElem (by omega)
    have h1 := hf j f hj
    rw [ho, hk] at h1
    have hone' : (cs'.drop j).take 1 = [cs'[j]'(by omega)] := by
      rw [List.drop_eq_getElem_cons (by omega)]
      rfl
    rw [hone'] at h1
    have hys : ys[j]? = some (ys[j]'(by omega)) := List.getElem?_eq_getElem (by omega)
    refine ⟨_, _, ?_, hys, h1.trans hys⟩
    rw [← Go.Deep.add_add, hcell, hv]
end

/-- A slice whose len elements of n cells each meet R, element by element; nothing is said of an empty one's address. -/
def Rows (w : World) (a : Option Addr) (len n : Nat) (R : (Nat → Option Value) → Prop) : Prop :=
  len = 0 ∨ ∃ b off, a = some ⟨b, off, none⟩ ∧ b < w.heap.size ∧ ∀ i, i < len → R fun j => w.cell? ⟨b, off + (i * n + j), none⟩
theorem addr_form {w : World} {x : Addr} {v : Value} (h : w.cell? (x.add 0) = some v) : ∃ b off, x = ⟨b, off, none⟩ ∧ b < w.heap.size := by
  rw [show x.add 0 = x from by simp [Addr.add]] at h
  obtain ⟨b, off, spot⟩ := x
  have hspot : spot = none := by simpa using World.cell?_spot h
  subst hspot
  exact ⟨b, off, rfl, World.block_lt_of_cell? w _ h⟩
theorem Rows.kept {w w' : World} {a : Option Addr} {len n B : Nat} {R : (Nat → Option Value) → Prop} (h : Rows w a len n R) (hb : Below B w w') (hB : w.heap.size ≤ B) : Rows w' a len n R := by
  rcases h with h | ⟨b, off, rfl, hlt, hc⟩
  · exact .inl h
  · refine .inr ⟨b, off, rfl, Nat.lt_of_lt_of_le hlt hb.size, fun i hi => ?_⟩
    have e : (fun j => w'.cell? ⟨b, off + (i * n + j), none⟩) = fun j => w.cell? ⟨b, off + (i * n + j), none⟩ := funext fun j => hb.cell (p := ⟨b, off + (i * n + j), none⟩) (Nat.lt_of_lt_of_le hlt hB)
    rw [e]; exact hc i hi

set_option maxRecDepth 100000 in
theorem open_step {H : Type} {enc : TypeId × Value → H} {w : World} {b0 : Nat} {r : Reach} {v : Value} {d : DataW H} {p : List MemPlace}
    (hv : Value.okWide Tryz.prog w r b0 138 v) (h : DataW.Trod enc Tryz.prog w 0 (fun _ => true) true 138 v d p) :
    ∃ (s : ByteArray) (n : Int), v = .agg #[.string s, .int .i64 n] ∧ s.size ≤ maxLen ∧ (Lit.int .i64 n).wf = true := by
  obtain ⟨c0, c1, y0, y1, m, rfl, _, _, h0, h1⟩ := Go.Joins.open_agg2 Tryz.underlying138 (by kernel_rfl) (by kernel_rfl) hv h
  obtain ⟨s, e0, _, hs⟩ := DataW.trod_string Tryz.underlying9 h0
  obtain ⟨n, e1, _, hn⟩ := DataW.trod_int Tryz.underlying3 h1
  simp at e0 e1
  subst e0 e1
  exact ⟨s, n, rfl, hs, hn⟩
/-- A slice of integers that came in, as a function of their places. -/
def Ints (w : World) (a : Option Addr) (len : Nat) (C : Nat → Int) : Prop :=
  len = 0 ∨ ∃ b off, a = some ⟨b, off, none⟩ ∧ b < w.heap.size ∧ ∀ i, i < len → w.cell? ⟨b, off + i, none⟩ = some (.int .i64 (C i)) ∧ (Lit.int .i64 (C i)).wf = true
theorem Ints.kept {w w' : World} {a : Option Addr} {len B : Nat} {C : Nat → Int} (h : Ints w a len C) (hb : Below B w w') (hB : w.heap.size ≤ B) : Ints w' a len C := by
  rcases h with h | ⟨b, off, rfl, hlt, hc⟩
  · exact .inl h
  · exact .inr ⟨b, off, rfl, Nat.lt_of_lt_of_le hlt hb.size, fun i hi => by rw [hb.cell (p := ⟨b, off + i, none⟩) (Nat.lt_of_lt_of_le hlt hB)]; exact hc i hi⟩
set_option maxRecDepth 100000 in
theorem open_intsC {H : Type} {enc : TypeId × Value → H} {w : World} {b0 : Nat} {r : Reach} {v : Value} {d : DataW H} {p : List MemPlace}
    (hv : Value.okWide Tryz.prog w r b0 56 v) (h : DataW.Trod enc Tryz.prog w 0 (fun _ => true) true 56 v d p) :
    ∃ a len cap C, v = .slice a len cap ∧ len ≤ maxLen ∧ Ints w a len C := by
  obtain ⟨a, len, cap, rfl⟩ := okWide_slice Tryz.underlying56 hv
  obtain ⟨fuel, hf⟩ := h
  rcases open_ints Tryz.underlying56 Tryz.underlying3 (by kernel_rfl) hf with ⟨hcs, _⟩ | ⟨x, l, c, zs, hcs, _, hl, hm, hz, _, hcell, hwz⟩
  · simp [Value.cells] at hcs
    obtain ⟨rfl, rfl, rfl⟩ := hcs
    exact ⟨_, _, _, fun _ => 0, rfl, Nat.zero_le _, .inl rfl⟩
  · simp [Value.cells] at hcs
    obtain ⟨rfl, rfl, rfl⟩ := hcs
    have hz' : zs.length = cap := by simpa using hz
    refine ⟨_, _, _, fun i => zs.getD i 0, rfl, Nat.le_trans hl hm, ?_⟩
    by_cases h0 : len = 0
    · exact .inl h0
    · have hc0 := hcell 0 (by omega)
      obtain ⟨b, off, rfl, hb⟩ := addr_form hc0
      refine .inr ⟨b, off, rfl, hb, fun i hi => ?_⟩
      have := hcell i (by omega)
      rw [Addr.add_lit] at this
      have hi' : i < zs.length := by omega
      refine ⟨this, ?_⟩
      have := hwz zs[i] (List.getElem_mem hi')
      simpa [List.getD, hi'] using this
end Go.Proofs.YtdjlflinepefbabGreat.OP
