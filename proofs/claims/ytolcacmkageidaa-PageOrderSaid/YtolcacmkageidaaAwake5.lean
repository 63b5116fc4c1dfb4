/- The worked example of layer 5 holds: scorialaw05.awake answers true. No condition. -/
import Derived.Test.YtolcacmkageidaaPgW
namespace Go.Proofs.Ytolcacmkageidaa
open Go.RowKit
namespace PG
open FM CM
set_option linter.unusedVariables false
set_option linter.unusedSimpArgs false

def ex : Pg := ⟨1, 1, 2, 3, ⟨#[97, 98]⟩⟩
theorem ex_may : May ex := by unfold May ex; decide
theorem ex_cut : (str (bytes ex)).extract 0 18 = ⟨#[83, 99, 1, 1, 0, 2, 0, 0, 0, 3, 0, 0, 0, 0, 0, 2, 97, 98]⟩ := by decide +kernel
theorem name2 (w : World) : Calls Try.prog 16 #[.int .i64 2] w fun e w' => e = .returned (.string ⟨#[108, 101, 97, 102]⟩) ∧ w = w' := name_any 2 w
theorem awake_any (w : World) : Calls Try.prog 9 #[] w fun e w' => e = .returned (.bool true) ∧ Below w.heap.size w w' := by
  have HW := Lib.hid (write_yes ex ex_may)
  have e1 := ex_cut
  have e2 : (str (bytes ex)).size = 22 := by rw [str_size, bytes_len]; rfl
  obtain ⟨X, hX⟩ : ∃ X, X = str (bytes ex) := ⟨_, rfl⟩
  rw [← hX] at HW e1 e2
  have e3 : (X.extract 0 18).toList = [83, 99, 1, 1, 0, 2, 0, 0, 0, 3, 0, 0, 0, 0, 0, 2, 97, 98] := by rw [e1, ByteArray.toList_eq]
  have e4 : (18 : Int) ≤ (X.size : Int) := by omega
  clear hX e1
  go_enter Try.func9, Try.ntmps9
  go_wp2_with fail
  refine (HW.out _).mono ?_
  rintro e w1 ⟨rfl, hb1⟩
  go_wp2_with fail
  refine (name2 _).mono ?_
  rintro e w2 ⟨rfl, rfl⟩
  go_wp2
  go_ret
  exact ⟨rfl, hb1⟩
end PG
end Go.Proofs.Ytolcacmkageidaa
