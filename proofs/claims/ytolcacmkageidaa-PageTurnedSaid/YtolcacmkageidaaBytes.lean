/- Bytes of a text in memory, that are read, turned and made a text again. No condition but those that each theorem names. -/
import Derived.Test.YtolcacmkageidaaCheck
import Derived.Test.YtolcacmkageidaaCrcBurst
import Derived.Deep.AppendLies
import Derived.Deep.RegionHeld3
import Derived.PlainAid
namespace Go.Proofs.Ytolcacmkageidaa
open Go.RowKit
namespace CM
open FM (str str_toList str_size)
set_option linter.unusedVariables false
set_option linter.unusedSimpArgs false

/-- The block g reads as the bytes l, and may be written. -/
def Bytes (w : World) (g : Nat) (l : List UInt8) : Prop := ∀ j, j < l.length → w.cell? ⟨g, j, none⟩ = some (.int .u8 ((l.getD j 0).toNat : Int)) ∧ w.frozen? ⟨g, j, none⟩ = false

theorem conv_to (w : World) (s : ByteArray) : ∃ c w2, (convert 9 44 (.string s)).run Try.prog w = .ok (.slice (some ⟨w.heap.size, 0, none⟩) s.size c) w2 ∧ s.size ≤ c ∧ w.heap.size < w2.heap.size ∧ Below w.heap.size w w2 ∧ Bytes w2 w.heap.size s.data.toList := by
  refine ⟨_, _, run_bytes_of_string w 9 44 5 s Try.underlying9 Try.underlying44 Try.underlying5, grownCap_ge _ _ _ _, by simp, (Below.refl _ _).drew.alloc (by simp) _, ?_⟩
  intro j hj
  rw [len_size] at hj
  have hsz : (bytesRow s (grownCap w s.size 0 5)).size ≥ s.size := by
    unfold bytesRow
    rw [Array.size_append, Array.size_map]
    exact Nat.le_add_right _ _
  constructor
  · have := World.cell?_alloc_mark w.drew (bytesRow s (grownCap w s.size 0 5)) 5 ((bytesRow s (grownCap w s.size 0 5)).size, (bytesRow s (grownCap w s.size 0 5)).size + 1) j
    rw [show w.drew.heap.size = w.heap.size from rfl] at this
    rw [this, bytesRow_at s _ j hj]
    have h2 : j < s.data.toList.length := by rw [len_size]; exact hj
    rw [List.getD_eq_getElem?_getD, List.getElem?_eq_getElem h2]
    rfl
  · have := World.frozen?_alloc_mark w.drew (bytesRow s (grownCap w s.size 0 5)) 5 (bytesRow s (grownCap w s.size 0 5)).size ((bytesRow s (grownCap w s.size 0 5)).size + 1) j
    rw [show w.drew.heap.size = w.heap.size from rfl] at this
    rw [this, Bool.and_eq_false_iff]
    left
    rw [decide_eq_false_iff_not]
    omega

theorem first_place_of (a : Int) (n : Nat) (h4 : 4 ≤ n) (h5 : n ≤ 20004) : ∃ f : Nat, (wrap64 (a.tmod (8 * (n : Int)) + 8 * (n : Int))).tmod (8 * (n : Int)) = (f : Int) ∧ f < 8 * n := by
  have hp : (0 : Int) < 8 * (n : Int) := by omega
  have h1 := Int.tmod_lt_of_pos a hp
  have h2 := Int.lt_tmod_of_pos a hp
  generalize a.tmod (8 * (n : Int)) = q at h1 h2 ⊢
  rw [IntWalk.wrap64_in _ ⟨by omega, by omega⟩, Int.tmod_eq_emod_of_nonneg (by omega)]
  have h3 := Int.emod_nonneg (q + 8 * (n : Int)) (by omega : 8 * (n : Int) ≠ 0)
  have h4 := Int.emod_lt_of_pos (q + 8 * (n : Int)) hp
  refine ⟨((q + 8 * (n : Int)) % (8 * (n : Int))).toNat, ?_, ?_⟩ <;> omega

theorem bytes_set {w : World} {g : Nat} {l : List UInt8} {p : Nat} (h : Bytes w g l) (hp : p / 8 < l.length) (hg : g < w.heap.size) :
    Bytes (w.setCell ⟨g, p / 8, none⟩ (.int .u8 ((((l[p / 8]?).getD 0) ^^^ e (p % 8)).toNat : Int))) g (flip l p) := by
  intro j hj
  rw [flip_len] at hj
  obtain ⟨h1, h2⟩ := h j hj
  obtain ⟨h3, _⟩ := h (p / 8) hp
  refine ⟨?_, by rw [World.frozen?_setCell]; exact h2⟩
  by_cases hjp : j = p / 8
  · subst hjp
    rw [World.cell?_setCell_same _ _ _ h3]
    unfold CM.flip
    rw [List.getD_eq_getElem?_getD, List.getElem?_set, if_pos rfl, if_pos hp, List.getD_eq_getElem?_getD]
    rfl
  · rw [World.cell?_setCell_other _ _ _ _ (fun x => hjp (by simpa using (congrArg Addr.off x).symm)), h1]
    unfold CM.flip
    rw [List.getD_eq_getElem?_getD, List.getD_eq_getElem?_getD, List.getElem?_set, if_neg (fun x => hjp x.symm)]
theorem conv_bytes (w : World) (g n c : Nat) (l : List UInt8) (hl : l.length = n) (h : Bytes w g l) :
    (convert 44 9 (.slice (some ⟨g, 0, none⟩) n c)).run Try.prog w = .ok (.string (str l)) w := by
  rw [← hl]
  refine run_convert_bytes_back w 44 9 5 ⟨g, 0, none⟩ c l Try.underlying44 Try.underlying5 Try.underlying9 ?_
  intro j hj
  rw [Addr.add_lit]
  have := (h j hj).1
  rw [List.getD_eq_getElem?_getD, List.getElem?_eq_getElem hj] at this
  simpa using this
theorem Bytes.kept {w w' : World} {g : Nat} {l : List UInt8} (h : Bytes w g l) (hb : Below w.heap.size w w') (hg : g < w.heap.size) : Bytes w' g l := by
  intro j hj
  obtain ⟨h1, h2⟩ := h j hj
  exact ⟨by rw [hb.cell (p := ⟨g, j, none⟩) hg]; exact h1, by rw [hb.frozen (p := ⟨g, j, none⟩) hg]; exact h2⟩


end CM
end Go.Proofs.Ytolcacmkageidaa
