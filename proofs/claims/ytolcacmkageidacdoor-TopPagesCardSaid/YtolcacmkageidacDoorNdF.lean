/- What Plan does: of a list of mishaps, wherever it stands. -/
import Derived.Test.YtolcacmkageidacDoorNdE
namespace Go.Proofs.YtolcacmkageidacDoor
namespace ND
open Go.RowKit MM
set_option linter.unusedVariables false
set_option linter.unusedSimpArgs false

/-- A list of mishaps in memory, as a function of its places. -/
def MisC (w : World) (b o : Nat) (m : Mis) : Prop :=
  w.cell? ⟨b, o + 0, none⟩ = some (.int .i64 m.at_) ∧ w.cell? ⟨b, o + 1, none⟩ = some (.int .i64 m.kind) ∧ w.cell? ⟨b, o + 2, none⟩ = some (.int .i64 m.keep) ∧ w.cell? ⟨b, o + 3, none⟩ = some (.string m.junk) ∧
    m.junk.size ≤ maxLen ∧ (Lit.int .i64 m.at_).wf = true ∧ (Lit.int .i64 m.kind).wf = true ∧ (Lit.int .i64 m.keep).wf = true
def MisRow (w : World) (bl : Nat → Prop) (a : Option Addr) (len : Nat) (M : Nat → Mis) : Prop :=
  len = 0 ∨ ∃ b off, a = some ⟨b, off, none⟩ ∧ b < w.heap.size ∧ bl b ∧ ∀ i, i < len → MisC w b (off + i * 4) (M i)
theorem MisRow.kept {w w' : World} {bl : Nat → Prop} {a : Option Addr} {len : Nat} {M : Nat → Mis} (h : MisRow w bl a len M) (hs : w.heap.size ≤ w'.heap.size) (hb : ∀ k, k < w.heap.size → bl k → w'.heap[k]? = w.heap[k]?) : MisRow w' bl a len M := by
  rcases h with h | ⟨b, off, rfl, hlt, hbl, hc⟩
  · exact .inl h
  · refine .inr ⟨b, off, rfl, Nat.lt_of_lt_of_le hlt hs, hbl, fun i hi => ?_⟩
    have he : ∀ o, w'.cell? ⟨b, o, none⟩ = w.cell? ⟨b, o, none⟩ := fun o => by simp [World.cell?, hb b hlt hbl]
    unfold MisC
    rw [he, he, he, he]
    exact hc i hi
def misL (M : Nat → Mis) (k : Nat) : List Mis := (List.range k).map M
theorem misL_succ (M : Nat → Mis) (k : Nat) : misL M (k + 1) = misL M k ++ [M k] := by
  unfold misL
  rw [List.range_succ, List.map_append]; rfl

/-- The map that is laid while the list is gone through. -/
structure Laying (w : World) (r : Ref) (d : Nd) (mb k n : Nat) (l : List Mis) (wr : World) : Prop where
  own : NandAt wr { r with pv := .map (some mb) } { d with laid := d.ops, plan := planOf l }
  map : MapAt Tryd.prog 3 wr mb n fun i => (planOf l i).map misV
  few : n ≤ k
  mod : Mod (fun i => r.has i ∨ w.heap.size ≤ i) w wr

theorem Laying.below {w wr w' : World} {r : Ref} {d : Nd} {mb k n : Nat} {l : List Mis} (h : Laying w r d mb k n l wr) (hb : Below wr.heap.size wr w') : Laying w r d mb k n l w' :=
  ⟨h.own.below hb, h.map.block (hb.block _ h.map.lt), h.few, h.mod.trans (Mod.of_below hb)⟩
theorem Laying.next {w wr : World} {r : Ref} {d : Nd} {mb k n : Nat} {l l' : List Mis} (h : Laying w r d mb k n l wr) (e : planOf l' = planOf l) : Laying w r d mb (k + 1) n l' wr :=
  ⟨by rw [e]; exact h.own, by rw [e]; exact h.map, Nat.le_succ_of_le h.few, h.mod⟩
theorem Laying.stored {w wr w' : World} {r : Ref} {d : Nd} {mb k n : Nat} {l : List Mis} (h : Laying w r d mb k n l wr) (m : Mis) (h1 : 1 ≤ m.at_) (hn : (planOf l m.at_).isSome = false) (hg : wr.grownBy w' (some mb)) (hmb : w.heap.size ≤ mb)
    (hm : MapAt Tryd.prog 3 w' mb (n + 1) (fun x => if x = m.at_ then some (misV { m with junk := cut m.junk }) else (planOf l x).map misV)) : Laying w r d mb (k + 1) (n + 1) (l ++ [m]) w' := by
  have e : (fun x => if x = m.at_ then some (misV { m with junk := cut m.junk }) else (planOf l x).map misV) = fun x => (planOf (l ++ [m]) x).map misV := by
    funext x
    rw [planOf_new l m h1 hn]
    show _ = Option.map misV (if x = m.at_ then some { m with junk := cut m.junk } else planOf l x)
    split <;> rfl
  rw [e] at hm
  exact ⟨h.own.turned rfl hg _ (.inr ⟨mb, n + 1, rfl, hm⟩), hm, Nat.succ_le_succ h.few, h.mod.grown hg (.inr hmb)⟩
theorem Laying.look {w wr w' : World} {r : Ref} {d : Nd} {mb k n L : Nat} {l : List Mis} (h : Laying w r d mb k n l wr) (hb : Below wr.heap.size wr w') {m : Mis} (hL : L < wr.heap.size) (h0 : wr.cell? ⟨L, 0, none⟩ = some (.int .i64 m.at_)) (wa : (Lit.int .i64 m.at_).wf = true) (z : Mis) (bs : Bool)
    (hz : z = (planOf l m.at_).getD Mis.zero) (hbs : bs = (planOf l m.at_).isSome) :
    Below wr.heap.size wr w' ∧ w'.cell? ⟨r.pb, 5, none⟩ = some (.map (some mb)) ∧ w'.cell? ⟨L, 0, none⟩ = some (.int .i64 m.at_) ∧
      (Instr.lookup 62 (.map (some mb)) (.int .i64 m.at_) true).run Tryd.prog w' = .ok (.tuple #[.agg #[.int .i64 z.at_, .int .i64 z.kind, .int .i64 z.keep, .string z.junk], .bool bs]) w' := by
  have h' := h.below hb
  refine ⟨hb, h'.own.cells.2.2.2.2.2.1, (hb.cell (p := ⟨L, 0, none⟩) hL).trans h0, ?_⟩
  rw [hz, hbs]
  exact h'.own.plan.look wa true

theorem plan_nil (v : Value) (w : World) : Calls Tryd.prog 10 #[.pointer none, v] w fun e w' => e = .returned (.tuple #[]) ∧ w = w' := by
  go_enter Tryd.func10, Tryd.ntmps10
  go_wp2
  simp [bodyPost, results, Tryd.results10, go_sem]

set_option maxRecDepth 100000 in
set_option maxHeartbeats 4000000 in
theorem plan_any {w : World} {r : Ref} {d : Nd} (h : NandAt w r d) (ok : d.Ok) (a : Option Addr) (len cap : Nat) (hl : len ≤ maxLen) (M : Nat → Mis) (hM : MisRow w (fun k => ¬ r.has k) a len M) :
    Calls Tryd.prog 10 #[(.pointer (some ⟨r.pb, 0, none⟩)), .slice a len cap] w fun e w' => e = .returned (.tuple #[]) ∧ ∃ r' : Ref, r'.pb = r.pb ∧ NandAt w' r' (d.planned (misL M len)) ∧ Mod r.has w w' ∧ ∀ k, r'.has k → r.has k ∨ w.heap.size ≤ k := by
  obtain ⟨_, _, _, _, c4, _, c6, _⟩ := h.cells
  have z6 := h.fz 6
  have h1 := h.setLaid d.ops
  have HM := Lib.hid hM
  have H := Lib.hid h
  have HOK := Lib.hid ok
  have h2 := h1.alloc (.map #[] 0)
  have d5 := h2.cells.2.2.2.2.2.1
  have y5 := h2.fz 5
  unfold maxLen at hl
  have H2 := Lib.hid h2
  have H1 := Lib.hid h1
  have hmm : ∀ w : World, (Instr.makeMap 62 none).run Tryd.prog w = .ok (.map (some w.heap.size)) (w.alloc (.map #[] 0)) := fun w => rfl
  have hsz : (w.setCell ⟨r.pb, 6, none⟩ (.int .i64 d.ops)).heap.size = w.heap.size := by simp [World.setCell]
  have HMOD1 : Hid (Mod (fun i => r.has i ∨ w.heap.size ≤ i) w (w.setCell ⟨r.pb, 6, none⟩ (.int .i64 d.ops))) := Lib.hid ((Mod.refl _ _).setCell (.inl (.inl rfl)) _)
  have HSZ := Lib.hid hsz
  clear hM h ok h1 h2
  go_enter Tryd.func10, Tryd.ntmps10
  go_wp2
  have hrow : Laying w r d w.heap.size 0 0 (misL M 0) (((w.setCell ⟨r.pb, 6, none⟩ (.int .i64 d.ops)).alloc (.map #[] 0)).setCell ⟨r.pb, 5, none⟩ (.map (some w.heap.size))) := by
    have hmade := MapAt.made Tryd.prog 3 (w.setCell ⟨r.pb, 6, none⟩ (.int .i64 d.ops))
    rw [HSZ.out] at hmade
    have e : (fun i => (planOf (misL M 0) i).map misV) = fun _ => none := by
      funext i
      show Option.map misV (planOf [] i) = none
      rw [planOf_nil]; rfl
    have hp : PlanAt ((w.setCell ⟨r.pb, 6, none⟩ (.int .i64 d.ops)).alloc (.map #[] 0)) (.map (some w.heap.size)) (planOf (misL M 0)) := .inr ⟨_, 0, rfl, by rw [e]; exact hmade⟩
    refine ⟨H2.out.setPlan _ _ hp, ?_, Nat.le_refl _, (HMOD1.out.alloc _).setCell (.inl (.inl rfl)) _⟩
    rw [e]
    exact hmade.block (set_far _ _ _ (Nat.ne_of_gt H.out.own.lt))
  go_loopw [23] (fun i wr => ∃ k n : Nat, k ≤ len ∧ i = .int .i64 k ∧ Laying w r d w.heap.size k n (misL M k) wr) (fun i _ => len - (intOf i).toNat)
  case atStart => exact ⟨0, 0, Nat.zero_le _, rfl, hrow⟩
  case round =>
    clear hrow d5 y5 c4 c6 z6 hsz
    obtain ⟨k, n, hk, rfl, hlay⟩ := hrel
    have LAY := Lib.hid hlay
    by_cases hlt : k < len
    · rcases HM.out with h0 | ⟨b, off, rfl, hb, hnr, hc⟩
      · omega
      · have hcw := (MisRow.kept (len := len) (M := M) (bl := fun k => ¬ r.has k) (.inr ⟨b, off, rfl, hb, hnr, hc⟩) hlay.mod.size (fun i hi hs => hlay.mod.block i hi (by rintro (e | e); exact hs e; omega)))
        rcases hcw with h0 | ⟨b', off', e, hb', _, hc'⟩
        · omega
        · cases e
          obtain ⟨m, hm⟩ : ∃ m, m = M k := ⟨_, rfl⟩
          obtain ⟨x0, x1, x2, x3, hj, wa, wk, wkeep⟩ := hc' k hlt
          rw [← hm] at x0 x1 x2 x3 hj wa wk wkeep
          have y0 : wr.cell? ⟨b, off + k * 4, none⟩ = some (.int .i64 m.at_) := x0
          have k0 : (0 : Int) ≤ (k : Int) := by omega
          have k1 : (k : Int) < (len : Int) := by omega
          have hw1 : IntKind.i64.wrap ((k : Int) + 1) = (k : Int) + 1 := IntWalk.i64_in _ (by omega)
          have HMM := Lib.hid hm
          have HX := Lib.hid x0
          have hbw : Below wr.heap.size wr (wr.alloc (.cells #[.int .i64 m.at_, .int .i64 m.kind, .int .i64 m.keep, .string m.junk] 25)) := (Below.refl _ _).alloc (Nat.le_refl _) _
          have HL5 := Lib.hid (hlay.below hbw)
          have HBW := Lib.hid hbw
          clear hlay hc hc' hm x0 hbw
          by_cases hlow : m.at_ < 1
          · have hl2 : decide (m.at_ < 1) = true := by simpa using hlow
            have HLOW := Lib.hid hlow
            clear hlow
            go_wp2
            go_roundw
            case rel =>
              refine ⟨k + 1, n, by omega, by go_num, ?_⟩
              rw [misL_succ, ← HMM.out]
              exact HL5.out.next (planOf_low _ _ HLOW.out)
            case measure => simp [intOf]; omega
          · have hl2 : decide (m.at_ < 1) = false := by simpa using hlow
            have HLOW := Lib.hid hlow
            clear hlow
            go_wp2
            obtain ⟨L, hL⟩ : ∃ L, L = wr.heap.size := ⟨_, rfl⟩
            obtain ⟨W5, hW5⟩ : ∃ W5, W5 = wr.alloc (.cells #[.int .i64 m.at_, .int .i64 m.kind, .int .i64 m.keep, .string m.junk] 25) := ⟨_, rfl⟩
            have hk5 : Blk W5 L 25 #[.int .i64 m.at_, .int .i64 m.kind, .int .i64 m.keep, .string m.junk] := by rw [hW5, hL]; exact Blk.new wr _ _
            rw [← hW5] at HL5 HBW ⊢
            rw [← hL] at HBW ⊢
            obtain ⟨z, hz⟩ : ∃ z, z = (planOf (misL M k) m.at_).getD Mis.zero := ⟨_, rfl⟩
            obtain ⟨bs, hbs⟩ : ∃ bs, bs = (planOf (misL M k) m.at_).isSome := ⟨_, rfl⟩
            have l0 : W5.cell? ⟨L, 0, none⟩ = some (.int .i64 m.at_) := hk5.cell 0
            have LK := Lib.hid (fun (w' : World) (hb : Below W5.heap.size W5 w') => HL5.out.look hb hk5.lt l0 wa z bs hz hbs)
            have K5 := Lib.hid hk5
            have HBS := Lib.hid hbs
            have HLL := Lib.hid hL
            clear hk5 hz hbs hL hW5 l0 y0 x1 x2 x3
            go_region_held3 (fun w' => Below W5.heap.size W5 w' ∧ w'.cell? ⟨r.pb, 5, none⟩ = some (.map (some w.heap.size)) ∧ w'.cell? ⟨L, 0, none⟩ = some (.int .i64 m.at_) ∧
              (Instr.lookup 62 (.map (some w.heap.size)) (.int .i64 m.at_) true).run Tryd.prog w' = .ok (.tuple #[.agg #[.int .i64 z.at_, .int .i64 z.kind, .int .i64 z.keep, .string z.junk], .bool bs]) w') (first | exact LK.out _ (Below.refl _ _).drew | exact LK.out _ ((Below.refl _ _).alloc (Nat.le_refl _) _).drew | exact LK.out _ ((Below.refl _ _).drew.alloc (Nat.le_refl _) _) | assumption) (fail)
            all_goals
              obtain ⟨W7, hW7⟩ : ∃ W7, W7 = (W5.alloc (.cells #[.int .i64 z.at_, .int .i64 z.kind, .int .i64 z.keep, .string z.junk] 25)).drew := ⟨_, rfl⟩
              have hb7 : Below L wr W7 := by rw [hW7]; exact HBW.out.trans (((Below.refl _ _).alloc (Nat.le_refl _) _).drew.mono HBW.out.size |>.mono (by rw [HLL.out]; exact Nat.le_refl _))
              have k7 : Blk W7 L 25 #[.int .i64 m.at_, .int .i64 m.kind, .int .i64 m.keep, .string m.junk] := by rw [hW7]; exact K5.out.alloc _
              rw [← hW7]
              clear hW7
              rename_i hSS
              clear hSS
              have HB7 := Lib.hid hb7
              have K7 := Lib.hid k7
              clear hb7
              cases bs with
              | true =>
                clear k7
                go_wp2
                go_roundw
                case rel =>
                  refine ⟨k + 1, n, by omega, by go_num, ?_⟩
                  rw [misL_succ, ← HMM.out]
                  have hb := HB7.out
                  rw [HLL.out] at hb
                  exact (LAY.out.below hb).next (planOf_there _ _ HBS.out.symm)
                case measure => simp [intOf]; omega
              | false =>
                have j3 : W7.cell? ⟨L, 3, none⟩ = some (.string m.junk) := k7.cell 3
                clear k7
                go_wp2_with fail
                refine (cut_any m.junk W7 hj).mono ?_
                rintro e w8 ⟨rfl, rfl⟩
                go_wp2_with fail
                refine (clone_any (cut m.junk) W7 (by have := cut_size m.junk; omega)).mono ?_
                rintro e w8 ⟨rfl, hb8⟩
                have k8 : Blk w8 L 25 #[.int .i64 m.at_, .int .i64 m.kind, .int .i64 m.keep, .string m.junk] := (hb8.block _ K7.out.lt).trans K7.out
                have i3 : w8.cell? ⟨L, 3, none⟩ = some (.string m.junk) := k8.cell 3
                have z3 : w8.frozen? ⟨L, 3, none⟩ = false := k8.frozen 3
                obtain ⟨J, hJ⟩ : ∃ J, J = cut m.junk := ⟨_, rfl⟩
                rw [← hJ]
                have k9 := k8.set_ 3 (.string J)
                have HJ := Lib.hid hJ
                have HB9 : Hid (Below L wr (w8.setCell ⟨L, 3, none⟩ (.string J))) := Lib.hid ((HB7.out.trans (hb8.mono (by have := HB7.out.size; rw [HLL.out]; exact this))).setCell (p := ⟨L, 3, none⟩) (Nat.le_refl _) _)
                have K9 := Lib.hid k9
                clear hb8 k8 k9 hJ j3
                go_wp2
                obtain ⟨W9, hW9⟩ : ∃ W9, W9 = w8.setCell ⟨L, 3, none⟩ (.string J) := ⟨_, rfl⟩
                rw [← hW9] at HB9 K9 ⊢
                clear hW9 i3 z3
                have hb9 := HB9.out
                rw [HLL.out] at hb9
                have h9 := (LAY.out.below hb9).below (Below.refl _ _).drew
                have p5 : W9.cell? ⟨r.pb, 5, none⟩ = some (.map (some w.heap.size)) := h9.own.cells.2.2.2.2.2.1
                have q0 : W9.cell? ⟨L, 0, none⟩ = some (.int .i64 m.at_) := K9.out.cell 0
                have q1 : W9.cell? ⟨L, 1, none⟩ = some (.int .i64 m.kind) := K9.out.cell 1
                have q2 : W9.cell? ⟨L, 2, none⟩ = some (.int .i64 m.keep) := K9.out.cell 2
                have q3 : W9.cell? ⟨L, 3, none⟩ = some (.string J) := K9.out.cell 3
                obtain ⟨W10, hrun, hm10, hg10⟩ := h9.map.store Tryd.underlying3 Tryd.underlying62 (by have := h9.few; unfold maxLen; omega) wa (.agg #[.int .i64 m.at_, .int .i64 m.kind, .int .i64 m.keep, .string J])
                have hfin : Laying w r d w.heap.size (k + 1) (n + 1) (misL M (k + 1)) W10 := by
                  rw [misL_succ, ← HMM.out]
                  refine h9.stored m HLOW.out HBS.out.symm hg10 (Nat.le_refl _) ?_
                  rw [← HJ.out]
                  exact hm10
                have HFIN := Lib.hid hfin
                clear hfin hm10 hg10 h9 hb9
                go_region_with (fail)
                all_goals
                  go_wp2
                  go_roundw
                  case rel => exact ⟨k + 1, n + 1, by omega, by go_num, HFIN.out⟩
                  case measure => simp [intOf]; omega
    · obtain rfl : k = len := by omega
      go_wp2
      simp [bodyPost, results, Tryd.results10, go_sem]
      exact ⟨{ r with pv := .map (some w.heap.size) }, rfl, LAY.out.own, LAY.out.mod.mono fun i hi hs => hs.resolve_right (by omega), fun i hi => by
        rcases hi with hi | hi | hi | hi
        · exact .inl (.inl hi)
        · exact .inl (.inr (.inl hi))
        · exact .inl (.inr (.inr (.inl hi)))
        · cases hi; exact .inr (Nat.le_refl _)⟩
end ND
end Go.Proofs.YtolcacmkageidacDoor
