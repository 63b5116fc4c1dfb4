/- The worked example of the two lowest layers together holds: scoriatop.fine answers true. Condition: errors.errorType holds what start-up lays. -/
import Derived.Test.YtolcacmkageidacDoorNdS
import Derived.Test.YtolcacmkageidacDoorNdEq
import Derived.Test.YtolcacmkageidacDoorPgE
namespace Go.Proofs.YtolcacmkageidacDoor
namespace TP
open Go.RowKit MM ND PG
set_option linter.unusedVariables false
set_option linter.unusedSimpArgs false

theorem plain_any (w : World) : Calls Tryd.prog 8 #[] w fun e w' => e = .returned (.agg #[.int .i64 16, .int .i64 8]) ∧ Below w.heap.size w w' := by
  go_enter Tryd.func8, Tryd.ntmps8
  go_wp2
  simp [bodyPost, results, Tryd.results8, go_sem]
  exact (Below.refl _ _).alloc (Nat.le_refl _) _

def fx : Pg := ⟨1, 0, 3, 0, ⟨#[97]⟩⟩
theorem fx_may : May fx := by unfold May fx; decide
theorem bytes_size {p : Pg} (h : May p) : (FM.str (PG.bytes p)).size ≤ 128 := by rw [FM.str_size, PG.bytes_len]; have := h.2.2.2.2; omega

/-- A page put first. -/
def D1 (a : ByteArray) : Nd := ((fresh 16 8).counted).wrote 0 a
theorem d1 {a : ByteArray} (h : a.size ≤ 128) : (fresh 16 8).program 0 a = (D1 a, 0) := by
  have := program_eq (d := fresh 16 8) (p := 0) rfl (by decide) h rfl rfl
  exact this
theorem d1_read (a : ByteArray) : (D1 a).read 0 = (a, 0) := by kernel_rfl

set_option maxRecDepth 100000 in
set_option maxHeartbeats 1000000 in
theorem fine_any (w : World) : Calls Tryd.prog 6 #[] w fun e w' => e = .returned (.bool true) ∧ Below w.heap.size w w' := by
  have HWR := Lib.hid (write_yes fx fx_may)
  have HAN := Lib.hid (ans_bytes fx_may)
  have HSZ := Lib.hid (bytes_size fx_may)
  obtain ⟨X, hX⟩ : ∃ X, X = FM.str (PG.bytes fx) := ⟨_, rfl⟩
  rw [← hX] at HWR HAN HSZ
  clear hX
  have HRD : Hid (∀ w, Calls Tryd.prog 14 #[.string X] w fun e w' => e = .returned (.tuple #[.agg #[.int .i64 1, .int .i64 0, .int .i64 3, .int .i64 0, .string ⟨#[97]⟩], .int .i64 0]) ∧ Below w.heap.size w w') := read_any HAN.out (by have := HSZ.out; omega)
  have HWR' : Hid (∀ w, Calls Tryd.prog 5 #[.agg #[.int .i64 1, .int .i64 0, .int .i64 3, .int .i64 0, .string ⟨#[97]⟩]] w fun e w' => e = .returned (.tuple #[.string X, .int .i64 0]) ∧ Below w.heap.size w w') := HWR.out
  clear HWR
  go_enter Tryd.func6, Tryd.ntmps6
  go_wp2_with fail
  refine (plain_any _).mono ?_
  rintro e w0 ⟨rfl, hb0⟩
  go_wp2_with fail
  refine (st_new 16 8 (by omega) w hb0).mono ?_
  rintro e w1 ⟨g, rfl, h1, _⟩
  have H1 := Lib.hid h1
  clear h1 hb0
  go_wp2_with fail
  refine (HWR'.out _).mono ?_
  rintro e w2 ⟨rfl, hb2⟩
  have H2 := Lib.hid (H1.out.below hb2)
  clear hb2
  go_wp2_with fail
  refine (st_program H2.out (by decide) 0 rfl X).mono ?_
  rintro e w3 ⟨v3, rfl, he3, h3, _⟩
  rw [d1 HSZ.out] at he3 h3
  obtain rfl := he3.none rfl
  have H3 := Lib.hid h3
  clear h3 he3
  go_wp2_with fail
  refine (st_read H3.out 0 rfl).mono ?_
  rintro e w4 ⟨v4, rfl, he4, h4, _⟩
  rw [d1_read] at he4
  obtain rfl := he4.none rfl
  rw [d1_read]
  have H4 := Lib.hid h4
  clear h4 he4
  go_wp2_with fail
  refine (HRD.out _).mono ?_
  rintro e w5 ⟨rfl, hb5⟩
  have hbel := H4.out.bel.trans (hb5.mono H4.out.bel.size)
  have HB5 := Lib.hid (hbel.alloc hbel.size (.cells #[.int .i64 1, .int .i64 0, .int .i64 3, .int .i64 0, .string ⟨#[97]⟩] 23))
  clear hb5 hbel
  go_wp2
  go_ret
  exact ⟨rfl, HB5.out⟩
end TP
end Go.Proofs.YtolcacmkageidacDoor
