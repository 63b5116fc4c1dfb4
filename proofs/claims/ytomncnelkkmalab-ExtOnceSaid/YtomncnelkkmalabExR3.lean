/- What scoriaref07's Find answers, of any list of extents that may be. No condition but those that each theorem names. -/
import Derived.Test.YtomncnelkkmalabExR2
import Derived.Test.YtomncnelkkmalabExF
namespace Go.Proofs.Ytomncnelkkmalab
open Go.RowKit
namespace EX
open MM
set_option linter.unusedVariables false
set_option linter.unusedSimpArgs false

/-- What scoriaref07.Find has beside its list: the variable that it hands back. -/
structure Sy (w w' : World) : Prop where
  blk : Blk w' w.heap.size 43 #[.int .i64 0, .int .i64 0]
  bel : Below w.heap.size w w'
theorem stored2 {w : World} {g : Nat} {t : TypeId} {a0 a1 : Value} (h : Blk w g t #[a0, a1]) (x0 x1 : Value) : Blk ((w.setCell ⟨g, 0, none⟩ x0).setCell ⟨g, 1, none⟩ x1) g t #[x0, x1] := (h.set_ 0 x0).set_ 1 x1
theorem stored2_below {w : World} {g B : Nat} {w0 : World} (hb : Below B w0 w) (hg : B ≤ g) (x0 x1 : Value) : Below B w0 ((w.setCell ⟨g, 0, none⟩ x0).setCell ⟨g, 1, none⟩ x1) := (hb.setCell hg _).setCell hg _
theorem no_next {L : List Ext} {k : Nat} {e : Ext} {s : Int} (h : ∀ (i : Nat) (x : Ext), i < k → L[i]? = some x → ¬ Has x s) (he : L[k]? = some e) (hn : ¬ Has e s) : ∀ (i : Nat) (x : Ext), i < k + 1 → L[i]? = some x → ¬ Has x s := by
  intro i x hi hx
  by_cases h2 : i = k
  · subst h2
    rw [he] at hx
    injection hx with h3
    rw [← h3]; exact hn
  · exact h i x (by omega) hx

set_option maxHeartbeats 4000000 in
theorem rfind_any (L : List Ext) (len cap : Nat) (hlen : len = L.length) (hm : len ≤ 4611686018427387904) (a : Option Addr) (s : Int) (w : World) (hr : Exs w a L) (hO : ∀ e ∈ L, One e) (hs : s ≤ 9223372036854775807) :
    Calls Try.prog 43 #[.slice a len cap, .int .i64 s] w fun r w' => r = .returned (.agg #[.int .i64 (say L s).1, .int .i64 (say L s).2]) ∧ Below w.heap.size w w' := by
  obtain ⟨S1, S2, hS⟩ : ∃ S1 S2, say L s = (S1, S2) := ⟨_, _, rfl⟩
  have hS1 : (say L s).1 = S1 := by rw [hS]
  have hS2 : (say L s).2 = S2 := by rw [hS]
  rw [hS1, hS2]
  have HS := Lib.hid hS
  have HR := Lib.hid hr
  have HO := Lib.hid hO
  have HL := Lib.hid hlen
  clear hr hO hlen hS hS1 hS2
  go_enter Try.func43, Try.ntmps43
  go_wp2
  go_loopw [5] (fun i wr => ∃ k : Nat, k ≤ len ∧ i = .int .i64 k ∧ Hid (∀ (i : Nat) (x : Ext), i < k → L[i]? = some x → ¬ Has x s) ∧ Blk wr w.heap.size 43 #[.int .i64 0, .int .i64 0] ∧ Below w.heap.size w wr) (fun i _ => len - (intOf i).toNat)
  case atStart => exact ⟨0, Nat.zero_le _, rfl, Lib.hid (fun i x hi => by omega), Blk.new w _ _, below_box w _⟩
  case round =>
    obtain ⟨k, hk, rfl, hno, hblk, hbel⟩ := hrel
    have HB0 := Lib.hid hbel
    have HBK := Lib.hid hblk
    by_cases hlt : k < len
    · obtain ⟨e, he⟩ : ∃ e, L[k]? = some e := ⟨_, List.getElem?_eq_getElem (by rw [← HL.out]; exact hlt)⟩
      rcases HR.out with h0 | ⟨b, off, rfl, hb, hc⟩
      · rw [h0] at he; simp at he
      · have Q0 := Lib.hid (hc k e he)
        obtain ⟨q0, q1, q2, q3⟩ := Q0.out.kept hbel hb
        have ho := HO.out e (List.mem_of_getElem? he)
        have o1 := ho.low; have o2 := ho.high; have o3 := ho.pos
        have o4 := ho.2
        have HE := Lib.hid he
        have t1 : (k : Int) < (len : Int) := by omega
        have t2 : (0 : Int) ≤ (k : Int) := by omega
        have hfe : fin e = e.from_ + e.n := rfl
        rw [hfe] at o2
        clear hc he hbel hblk hfe ho
        by_cases h1 : e.from_ ≤ s
        · have d1 : decide (e.from_ ≤ s) = true := decide_eq_true h1
          by_cases h2 : s - e.from_ < e.n
          · have e9 : IntKind.i64.wrap (s - e.from_) = s - e.from_ := IntWalk.i64_in _ (by omega)
            have d2 : decide (s - e.from_ < e.n) = true := decide_eq_true h2
            have hsay := say_first HE.out (show Has e s from ⟨h1, by unfold fin; omega⟩) hno.out
            have HSY := Lib.hid (HS.out.symm.trans hsay)
            clear hsay
            by_cases hk2 : e.kind = 2
            · have hp : page e s = e.at_ + s - e.from_ := by unfold page; rw [if_pos hk2]
              rw [hk2, hp] at HSY
              have g1 : 0 ≤ e.at_ := by omega
              have g2 : e.at_ ≤ 2048 := by omega
              have e8 : IntKind.i64.wrap (e.at_ + s) = e.at_ + s := IntWalk.i64_in _ (by omega)
              have e7 : IntKind.i64.wrap (e.at_ + s - e.from_) = e.at_ + s - e.from_ := IntWalk.i64_in _ (by omega)
              have hkb : (e.kind == 2) = true := by simpa using hk2
              clear o4 hp hk2
              go_wp2
              have hI : Sy w wr.drew := ⟨HBK.out, HB0.out.drew⟩
              have HI := Lib.hid hI
              have hNE : Nonempty (Wd (Sy w)) := ⟨⟨_, hI⟩⟩
              have c0 := fun x : Wd (Sy w) => (x.ok.bel.cell (p := ⟨b, off + k * 4, none⟩) hb).trans Q0.out.1
              have c1 := fun x : Wd (Sy w) => (x.ok.bel.cell (p := ⟨b, off + k * 4 + 1, none⟩) hb).trans Q0.out.2.1
              clear hI q0 q1 q2 q3
              refine wp_region_inv (Sy w) (by kernel_rfl) (by kernel_rfl) HI.out ?_
              repeat (go_big_quiet_step (fail))
              refine wpQuiet_nil ?_
              intro _ hw'
              obtain ⟨⟨w9, h9⟩, hw''⟩ := hw'
              subst hw''
              have H9 := Lib.hid h9
              obtain ⟨q0, q1, q2, q3⟩ := Q0.out.kept h9.bel hb
              obtain ⟨z0, z1⟩ : _ ∧ _ := ⟨h9.blk.cell 0, h9.blk.cell 1⟩
              obtain ⟨y0, y1⟩ : _ ∧ _ := ⟨h9.blk.frozen 0, h9.blk.frozen 1⟩
              clear h9 c0 c1 HI
              go_wp2
              go_region_with (fail)
              all_goals go_wp2
              all_goals exact ret_cell rfl _ _ _ _ _ _ _ rfl rfl (stored2 H9.out.blk _ _) Try.underlying43 rfl (by kernel_rfl) ⟨by have h := HSY.out; injection h with h3 h4; rw [h3, h4], (stored2_below H9.out.bel (Nat.le_refl _) _ _).drew⟩
            · have hp : page e s = 0 := by unfold page; rw [if_neg hk2]
              rw [hp] at HSY
              have hkb : (e.kind == 2) = false := by simpa using hk2
              clear o4 hp hk2
              go_wp2
              have hI : Sy w wr.drew := ⟨HBK.out, HB0.out.drew⟩
              have HI := Lib.hid hI
              have hNE : Nonempty (Wd (Sy w)) := ⟨⟨_, hI⟩⟩
              have c0 := fun x : Wd (Sy w) => (x.ok.bel.cell (p := ⟨b, off + k * 4, none⟩) hb).trans Q0.out.1
              have c1 := fun x : Wd (Sy w) => (x.ok.bel.cell (p := ⟨b, off + k * 4 + 1, none⟩) hb).trans Q0.out.2.1
              clear hI q0 q1 q2 q3
              refine wp_region_inv (Sy w) (by kernel_rfl) (by kernel_rfl) HI.out ?_
              repeat (go_big_quiet_step (fail))
              refine wpQuiet_nil ?_
              intro _ hw'
              obtain ⟨⟨w9, h9⟩, hw''⟩ := hw'
              subst hw''
              have H9 := Lib.hid h9
              obtain ⟨q0, q1, q2, q3⟩ := Q0.out.kept h9.bel hb
              obtain ⟨z0, z1⟩ : _ ∧ _ := ⟨h9.blk.cell 0, h9.blk.cell 1⟩
              obtain ⟨y0, y1⟩ : _ ∧ _ := ⟨h9.blk.frozen 0, h9.blk.frozen 1⟩
              clear h9 c0 c1 HI
              go_wp2
              exact ret_cell rfl _ _ _ _ _ _ _ rfl rfl (stored2 H9.out.blk _ _) Try.underlying43 rfl (by kernel_rfl) ⟨by have h := HSY.out; injection h with h3 h4; rw [h3, h4], stored2_below H9.out.bel (Nat.le_refl _) _ _⟩
          · have e9 : IntKind.i64.wrap (s - e.from_) = s - e.from_ := IntWalk.i64_in _ (by omega)
            have d2 : decide (s - e.from_ < e.n) = false := decide_eq_false h2
            have hnh : ¬ Has e s := fun h => by have := h.2; unfold fin at this; omega
            have HN := Lib.hid (no_next hno.out HE.out hnh)
            clear o4 hnh
            go_wp2
            have hI : Sy w wr.drew := ⟨HBK.out, HB0.out.drew⟩
            have HI := Lib.hid hI
            have hNE : Nonempty (Wd (Sy w)) := ⟨⟨_, hI⟩⟩
            have c0 := fun x : Wd (Sy w) => (x.ok.bel.cell (p := ⟨b, off + k * 4, none⟩) hb).trans Q0.out.1
            have c1 := fun x : Wd (Sy w) => (x.ok.bel.cell (p := ⟨b, off + k * 4 + 1, none⟩) hb).trans Q0.out.2.1
            clear hI q0 q1 q2 q3
            refine wp_region_inv (Sy w) (by kernel_rfl) (by kernel_rfl) HI.out ?_
            repeat (go_big_quiet_step (fail))
            refine wpQuiet_nil ?_
            intro _ hw'
            obtain ⟨⟨w9, h9⟩, hw''⟩ := hw'
            subst hw''
            have H9 := Lib.hid h9
            obtain ⟨q0, q1, q2, q3⟩ := Q0.out.kept h9.bel hb
            obtain ⟨z0, z1⟩ : _ ∧ _ := ⟨h9.blk.cell 0, h9.blk.cell 1⟩
            obtain ⟨y0, y1⟩ : _ ∧ _ := ⟨h9.blk.frozen 0, h9.blk.frozen 1⟩
            clear h9 c0 c1 HI
            go_wp2
            go_roundw
            case rel => exact ⟨k + 1, by omega, by go_num, HN, H9.out.blk, H9.out.bel⟩
            case measure => simp [intOf]; omega
        · have d1 : decide (e.from_ ≤ s) = false := decide_eq_false h1
          have hnh : ¬ Has e s := fun h => h1 h.1
          have HN := Lib.hid (no_next hno.out HE.out hnh)
          clear o4 hnh
          go_wp2
          have hI : Sy w wr.drew := ⟨HBK.out, HB0.out.drew⟩
          have HI := Lib.hid hI
          have hNE : Nonempty (Wd (Sy w)) := ⟨⟨_, hI⟩⟩
          have c0 := fun x : Wd (Sy w) => (x.ok.bel.cell (p := ⟨b, off + k * 4, none⟩) hb).trans Q0.out.1
          have c1 := fun x : Wd (Sy w) => (x.ok.bel.cell (p := ⟨b, off + k * 4 + 1, none⟩) hb).trans Q0.out.2.1
          clear hI q0 q1 q2 q3
          refine wp_region_inv (Sy w) (by kernel_rfl) (by kernel_rfl) HI.out ?_
          repeat (go_big_quiet_step (fail))
          refine wpQuiet_nil ?_
          intro _ hw'
          obtain ⟨⟨w9, h9⟩, hw''⟩ := hw'
          subst hw''
          have H9 := Lib.hid h9
          obtain ⟨q0, q1, q2, q3⟩ := Q0.out.kept h9.bel hb
          obtain ⟨z0, z1⟩ : _ ∧ _ := ⟨h9.blk.cell 0, h9.blk.cell 1⟩
          obtain ⟨y0, y1⟩ : _ ∧ _ := ⟨h9.blk.frozen 0, h9.blk.frozen 1⟩
          clear h9 c0 c1 HI
          go_wp2
          go_roundw
          case rel => exact ⟨k + 1, by omega, by go_num, HN, H9.out.blk, H9.out.bel⟩
          case measure => simp [intOf]; omega
    · obtain rfl : k = len := by omega
      have i0 : ¬ (k : Int) < (k : Int) := by omega
      have hsay : say L s = (0, 0) := say_never (by rw [← HL.out]; exact hno.out)
      have HSY := Lib.hid (HS.out.symm.trans hsay)
      obtain ⟨z0, z1⟩ : _ ∧ _ := ⟨hblk.cell 0, hblk.cell 1⟩
      obtain ⟨y0, y1⟩ : _ ∧ _ := ⟨hblk.frozen 0, hblk.frozen 1⟩
      clear hsay hblk hbel
      go_wp2
      exact ret_cell rfl _ _ _ _ _ _ _ rfl rfl (stored2 HBK.out _ _) Try.underlying43 rfl (by kernel_rfl) ⟨by have h := HSY.out; injection h with h3 h4; rw [h3, h4], stored2_below HB0.out (Nat.le_refl _) _ _⟩
end EX
end Go.Proofs.Ytomncnelkkmalab
