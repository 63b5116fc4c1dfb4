/- The acts of layer 4's laws: how they are read, and what light answers of them. -/
import Derived.Test.YtnbfejombealiabDoorNdS
import Derived.Test.YtnbfejombealiabDoorNdEq
import Derived.Test.YtnbfejombealiabDoorOpen4
namespace Go.Proofs.YtnbfejombealiabDoor
namespace ND
open Go.RowKit MM OP
set_option linter.unusedVariables false
set_option linter.unusedSimpArgs false

def ActAt (B : Nat) (w : World) (b o : Nat) (x : ActV) (M : Nat → Mis) : Prop :=
  w.cell? ⟨b, o + 0, none⟩ = some (.int .i64 x.kind) ∧ w.cell? ⟨b, o + 1, none⟩ = some (.int .i64 x.at_) ∧ w.cell? ⟨b, o + 2, none⟩ = some (.string x.txt) ∧ w.cell? ⟨b, o + 3, none⟩ = some (.slice x.pa x.plen x.pcap) ∧
    (Lit.int .i64 x.kind).wf = true ∧ (Lit.int .i64 x.at_).wf = true ∧ x.txt.size ≤ maxLen ∧ x.plen ≤ maxLen ∧ MisRow w (fun k => k < B) x.pa x.plen M
/-- The acts that came in, as functions of their places. -/
def Acts (B : Nat) (w : World) (a : Option Addr) (len : Nat) (X : Nat → ActV) (M : Nat → Nat → Mis) : Prop :=
  len = 0 ∨ ∃ b off, a = some ⟨b, off, none⟩ ∧ b < B ∧ ∀ i, i < len → ActAt B w b (off + i * 4) (X i) (M i)
theorem row_of {w : World} {a : Option Addr} {len : Nat} (h : OP.Rows w a len 4 MisP) : ∃ M, MisRow w (fun k => k < w.heap.size) a len M := by
  rcases h with h | ⟨b, off, rfl, hb, hc⟩
  · exact ⟨fun _ => Mis.zero, .inl h⟩
  · have hx : ∀ i, ∃ m : Mis, i < len → MisC w b (off + i * 4) m := by
      intro i
      by_cases hi : i < len
      · obtain ⟨m, h0, h1, h2, h3, h4, h5, h6, h7⟩ := hc i hi
        refine ⟨m, fun _ => ⟨?_, ?_, ?_, ?_, h4, h5, h6, h7⟩⟩
        · rw [Nat.add_assoc]; exact h0
        · rw [Nat.add_assoc]; exact h1
        · rw [Nat.add_assoc]; exact h2
        · rw [Nat.add_assoc]; exact h3
      · exact ⟨Mis.zero, fun h => absurd h hi⟩
    exact ⟨fun i => Classical.choose (hx i), .inr ⟨b, off, rfl, hb, hb, fun i hi => Classical.choose_spec (hx i) hi⟩⟩
theorem acts_of {w : World} {a : Option Addr} {len : Nat} (h : OP.Rows w a len 4 (ActP w)) : ∃ X M, Acts w.heap.size w a len X M := by
  rcases h with h | ⟨b, off, rfl, hb, hc⟩
  · exact ⟨fun _ => ⟨0, 0, ByteArray.empty, none, 0, 0⟩, fun _ _ => Mis.zero, .inl h⟩
  · have hx : ∀ i, ∃ p : ActV × (Nat → Mis), i < len → ActAt w.heap.size w b (off + i * 4) p.1 p.2 := by
      intro i
      by_cases hi : i < len
      · obtain ⟨x, h0, h1, h2, h3, h4, h5, h6, h7, hr⟩ := hc i hi
        obtain ⟨M, hM⟩ := row_of hr
        refine ⟨(x, M), fun _ => ⟨?_, ?_, ?_, ?_, h4, h5, h6, h7, hM⟩⟩
        · rw [Nat.add_assoc]; exact h0
        · rw [Nat.add_assoc]; exact h1
        · rw [Nat.add_assoc]; exact h2
        · rw [Nat.add_assoc]; exact h3
      · exact ⟨(⟨0, 0, ByteArray.empty, none, 0, 0⟩, fun _ => Mis.zero), fun h => absurd h hi⟩
    exact ⟨fun i => (Classical.choose (hx i)).1, fun i => (Classical.choose (hx i)).2, .inr ⟨b, off, rfl, hb, fun i hi => Classical.choose_spec (hx i) hi⟩⟩
theorem MisRow.kept_below {B : Nat} {w w' : World} {a : Option Addr} {len : Nat} {M : Nat → Mis} (h : MisRow w (fun k => k < B) a len M) (hb : Below B w w') : MisRow w' (fun k => k < B) a len M :=
  h.kept hb.size fun k _ hk => hb.block k hk
theorem ActAt.kept {B : Nat} {w w' : World} {b o : Nat} {x : ActV} {M : Nat → Mis} (h : ActAt B w b o x M) (hb : Below B w w') (hlt : b < B) : ActAt B w' b o x M := by
  obtain ⟨h0, h1, h2, h3, h4, h5, h6, h7, hM⟩ := h
  have he : ∀ i, w'.cell? ⟨b, i, none⟩ = w.cell? ⟨b, i, none⟩ := fun i => hb.cell (p := ⟨b, i, none⟩) hlt
  exact ⟨(he _).trans h0, (he _).trans h1, (he _).trans h2, (he _).trans h3, h4, h5, h6, h7, hM.kept_below hb⟩

set_option maxRecDepth 100000 in
set_option maxHeartbeats 2000000 in
theorem light_any (x : ActV) (M : Nat → Mis) (w : World) (S : Nat → Prop) (hM : MisRow w S x.pa x.plen M) (hl : x.plen ≤ maxLen) (ht : x.txt.size ≤ maxLen) :
    Calls Tryd.prog 11 #[.agg #[.int .i64 x.kind, .int .i64 x.at_, .string x.txt, .slice x.pa x.plen x.pcap]] w fun e w' => ∃ b, e = .returned (.bool b) ∧ Below w.heap.size w w' := by
  unfold maxLen at hl ht
  by_cases h1 : 20 < x.plen
  · have j1 : decide ((20 : Int) < (x.plen : Int)) = true := by simp; omega
    clear h1 hM
    go_enter Tryd.func11, Tryd.ntmps11
    go_wp2
    go_ret
    exact ⟨_, rfl, (Below.refl _ _).alloc (Nat.le_refl _) _⟩
  · have j1 : decide ((20 : Int) < (x.plen : Int)) = false := by simp; omega
    by_cases h2 : 2000 < x.txt.size
    · have j2 : decide ((2000 : Int) < (x.txt.size : Int)) = true := by simp; omega
      clear h1 h2 hM
      go_enter Tryd.func11, Tryd.ntmps11
      go_wp2
      go_ret
      exact ⟨_, rfl, (Below.refl _ _).alloc (Nat.le_refl _) _⟩
    · have j2 : decide ((2000 : Int) < (x.txt.size : Int)) = false := by simp; omega
      have hp20 : x.plen ≤ 20 := by omega
      obtain ⟨W1, hW1⟩ : ∃ W1, W1 = w.alloc (.cells #[.int .i64 x.kind, .int .i64 x.at_, .string x.txt, .slice x.pa x.plen x.pcap] 35) := ⟨_, rfl⟩
      have hb1 : Below w.heap.size w W1 := by rw [hW1]; exact (Below.refl _ _).alloc (Nat.le_refl _) _
      have hk1 : Blk W1 w.heap.size 35 #[.int .i64 x.kind, .int .i64 x.at_, .string x.txt, .slice x.pa x.plen x.pcap] := by rw [hW1]; exact Blk.new w _ _
      have hM1 : MisRow W1 S x.pa x.plen M := hM.kept hb1.size fun k hk _ => hb1.block k hk
      have g3 : W1.cell? ⟨w.heap.size, 3, none⟩ = some (.slice x.pa x.plen x.pcap) := hk1.cell 3
      have HB := Lib.hid hb1
      have HM := Lib.hid hM1
      have HW := Lib.hid hW1
      clear h1 h2 hM hb1 hk1 hM1 hW1
      go_enter Tryd.func11, Tryd.ntmps11
      go_wp2
      rw [← HW.out]
      go_loopw [3] (fun i wr => ∃ k : Nat, k ≤ x.plen ∧ i = .int .i64 k ∧ W1 = wr) (fun i _ => x.plen - (intOf i).toNat)
      case atStart => exact ⟨0, Nat.zero_le _, rfl, rfl⟩
      case round =>
        obtain ⟨k, hk, rfl, rfl⟩ := hrel
        have k0 : (0 : Int) ≤ (k : Int) := by omega
        by_cases hlt : k < x.plen
        · have k1 : (k : Int) < (x.plen : Int) := by omega
          have hw1 : IntKind.i64.wrap ((k : Int) + 1) = (k : Int) + 1 := IntWalk.i64_in _ (by omega)
          rcases HM.out with h0 | ⟨b, off, hpa, hb, _, hc⟩
          · omega
          · obtain ⟨_, _, _, x3, hj, _⟩ := hc k hlt
            rw [hpa] at g3
            unfold maxLen at hj
            by_cases h3 : 2000 < (M k).junk.size
            · have j3 : decide ((2000 : Int) < ((M k).junk.size : Int)) = true := by simp; omega
              clear hc h3 hpa
              go_wp2
              go_ret
              first | exact ⟨_, rfl, HB.out⟩ | exact ⟨.inr rfl, HB.out⟩ | exact ⟨.inl rfl, HB.out⟩
            · have j3 : decide ((2000 : Int) < ((M k).junk.size : Int)) = false := by simp; omega
              clear hc h3 hpa
              go_wp2
              go_roundw
              case rel => exact ⟨k + 1, by omega, by go_num, trivial⟩
              case measure => simp [intOf]; omega
        · have k1 : ¬ (k : Int) < (x.plen : Int) := by omega
          go_wp2
          go_ret
          first | exact ⟨_, rfl, HB.out⟩ | exact ⟨.inr rfl, HB.out⟩ | exact ⟨.inl rfl, HB.out⟩
end ND
end Go.Proofs.YtnbfejombealiabDoor
