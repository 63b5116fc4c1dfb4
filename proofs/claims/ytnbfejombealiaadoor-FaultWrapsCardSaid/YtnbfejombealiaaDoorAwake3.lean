/- The worked example of layer 3 holds: scorialaw03.awake answers true, where errors.errorType holds what start-up lays. -/
import Derived.Test.YtnbfejombealiaaDoorFTrail
import Derived.WalkSpells
import Derived.WalkLawsBesides
import Derived.Outline
namespace Go.Proofs.YtnbfejombealiaaDoor
namespace ER
open Go.RowKit Go.Extern.Stop Go.Stop Go.Extern
open MM
set_option linter.unusedVariables false
set_option linter.unusedSimpArgs false

set_option maxRecDepth 100000 in
set_option maxHeartbeats 1000000 in
theorem awake_any (w : World) (hg : ErrorType w) : Calls Tryd.prog 10 #[] w fun e w' => e = .returned (.bool true) ∧ Below w.heap.size w w' := by
  have h0 : IsErr w w.heap.size (.num 4) (.iface 30 (.int .i64 4)) := ⟨rfl, by decide⟩
  have H1 := Lib.hid (wrap_any ⟨#[114, 101, 97, 100]⟩ 7 (.num 4) _ w h0 (by decide) (by decide))
  obtain ⟨w1, hw1⟩ : ∃ w1, w1 = w.alloc (.cells #[.string ⟨#[114, 101, 97, 100]⟩, .int .i64 7, .iface 30 (.int .i64 4)] 60) := ⟨_, rfl⟩
  have hb1 : Below w.heap.size w w1 := by rw [hw1]; exact (Below.refl _ _).alloc (Nat.le_refl _) _
  have hs1 : w1.heap.size = w.heap.size + 1 := by rw [hw1]; simp
  have hE : IsErr w1 w1.heap.size (.fault ⟨#[114, 101, 97, 100]⟩ 7 (.num 4)) (.iface 57 (.pointer (some ⟨w.heap.size, 0, none⟩))) := by rw [hs1, hw1]; exact wrapped h0 (by decide) (by decide)
  have hg1 := hg.kept hb1
  have H2 : Hid (Calls Tryd.prog 16 #[.iface 57 (.pointer (some ⟨w.heap.size, 0, none⟩))] w1 fun e w' => ∃ v', e = .returned v' ∧ w'.ownsRow w1.heap.size 42 2 v' 1 [.string ⟨#[114, 101, 97, 100]⟩, .int .i64 7] ∧ Below w1.heap.size w1 w') := trail_any _ _ w1 hE hg1 (by decide)
  have HE := Lib.hid hE
  have HG1 := Lib.hid hg1
  have HB1 := Lib.hid hb1
  have HS1 := Lib.hid hs1
  rw [← hw1] at H1
  clear hw1 hE hg1 hb1 hs1 hg h0
  go_enter Tryd.func10, Tryd.ntmps10
  go_wp2_with fail
  refine H1.out.mono ?_
  rintro e w1' ⟨rfl, rfl⟩
  go_wp2_with fail
  refine H2.out.mono ?_
  rintro e w2 ⟨v2, rfl, hown, hb2⟩
  have hE2 := HE.out.below hb2
  obtain ⟨g, c, rfl, hgb, hgl⟩ := own_form hown (by decide)
  have hcells := hown.cells (g := g) rfl
  have c0 : w2.cell? ⟨g, 0, none⟩ = some (.string ⟨#[114, 101, 97, 100]⟩) := hcells 0 _ rfl
  have c1 : w2.cell? ⟨g, 1, none⟩ = some (.int .i64 7) := hcells 1 _ rfl
  have H3 : Hid (Calls Tryd.prog 12 #[.iface 57 (.pointer (some ⟨w.heap.size, 0, none⟩))] w2 fun e w' => e = .returned (.int .i64 4) ∧ Below w2.heap.size w2 w') := code_any _ _ w2 (hE2.more hb2.size) (HG1.out.kept hb2)
  have HB2 := Lib.hid hb2
  clear hcells hown hE2 hb2
  go_wp2_with fail
  refine H3.out.mono ?_
  rintro e w3 ⟨rfl, hb3⟩
  have d0 : w3.cell? ⟨g, 0, none⟩ = some (.string ⟨#[114, 101, 97, 100]⟩) := by rw [hb3.cell (p := ⟨g, 0, none⟩) hgl]; exact c0
  have d1 : w3.cell? ⟨g, 1, none⟩ = some (.int .i64 7) := by rw [hb3.cell (p := ⟨g, 1, none⟩) hgl]; exact c1
  have HB3 := Lib.hid hb3
  clear hb3 c0 c1
  go_wp2_with fail
  refine (code_nil _).mono ?_
  rintro e w4 ⟨rfl, hb4⟩
  have hb : Below w.heap.size w w4 := HB1.out.trans ((HB2.out.mono HB1.out.size).trans ((HB3.out.mono (Nat.le_trans HB1.out.size HB2.out.size)).trans (hb4.mono (Nat.le_trans HB1.out.size (Nat.le_trans HB2.out.size HB3.out.size)))))
  go_wp2
  go_ret
  exact ⟨rfl, hb⟩
end ER
end Go.Proofs.YtnbfejombealiaaDoor
