/- 3 texts laid together: each says at its head what it proves. No condition but those that each theorem names. -/
import Derived.Test.YtdjlflinepefbabGreatQ37
import Derived.Laws.MakeOwn

/- What New and Plan do; a nil array. -/
namespace Go.Proofs.YtdjlflinepefbabGreat
namespace ND
open Go.RowKit MM
set_option linter.unusedVariables false
set_option linter.unusedSimpArgs false

theorem mayBe_any (b p : Int) (w : World) :
    Calls Tryz.prog 92 #[.agg #[.int .i64 b, .int .i64 p]] w fun e w' => e = .returned (.bool (decide (16 ≤ b ∧ b ≤ 64 ∧ 8 ≤ p ∧ p ≤ 32))) ∧ Below w.heap.size w w' := by
  by_cases h1 : 16 ≤ b <;> by_cases h2 : b ≤ 64 <;> by_cases h3 : 8 ≤ p <;> by_cases h4 : p ≤ 32
  all_goals try (exfalso; omega)
  all_goals
    go_enter Tryz.func92, Tryz.ntmps92
    go_wp2
    simp [bodyPost, results, Tryz.results92, go_sem, h1, h2, h3, h4]
    exact (Below.refl _ _).alloc (Nat.le_refl _) _

theorem info_str : (Tryz.prog.info? 9).map (fun i => (i.zero, i.size, i.bytes)) = some (some (.string ⟨#[]⟩), 1, 16) := by kernel_rfl
theorem info_state : (Tryz.prog.info? 229).map (fun i => (i.zero, i.size, i.bytes)) = some (some (.agg #[.int .i64 0, .int .i64 0, .bool false]), 3, 24) := by kernel_rfl

theorem made_str (w : World) (n : Nat) (hn : n ≤ 10000) :
    (Instr.makeSlice 166 (.int .i64 n) (.int .i64 n)).run Tryz.prog w = .ok (.slice (some ⟨w.heap.size, 0, none⟩) n n) (w.alloc (.cells (madeCells #[.string ⟨#[]⟩] n) 9)) := by
  obtain ⟨i0, hi, hz0, hz1, hz2⟩ := info_parts info_str
  have h := run_makeSlice (P := Tryz.prog) w 166 9 i0 (.string ⟨#[]⟩) Tryz.underlying166 hi hz0 .i64 .i64 n n (by omega) (by omega) (by rw [hz1]; omega) (by rw [hz2]; omega) (by omega)
  have e : (Value.string ⟨#[]⟩).cells = #[.string ⟨#[]⟩] := by simp [Value.cells]
  rw [hz1, e] at h
  simpa using h
theorem made_state (w : World) (n : Nat) (hn : n ≤ 10000) :
    (Instr.makeSlice 167 (.int .i64 n) (.int .i64 n)).run Tryz.prog w = .ok (.slice (some ⟨w.heap.size, 0, none⟩) n n) (w.alloc (.cells (madeCells #[.int .i64 0, .int .i64 0, .bool false] (n * 3)) 229)) := by
  obtain ⟨i0, hi, hz0, hz1, hz2⟩ := info_parts info_state
  have h := run_makeSlice (P := Tryz.prog) w 167 229 i0 _ Tryz.underlying167 hi hz0 .i64 .i64 n n (by omega) (by omega) (by rw [hz1]; omega) (by rw [hz2]; omega) (by omega)
  have e : (Value.agg #[.int .i64 0, .int .i64 0, .bool false]).cells = #[.int .i64 0, .int .i64 0, .bool false] := by simp [Value.cells]
  rw [hz1, e] at h
  simpa using h

theorem new_bad (b p : Int) (w : World) (hb : (Lit.int .i64 b).wf = true) (h : ¬ (16 ≤ b ∧ b ≤ 64 ∧ 8 ≤ p ∧ p ≤ 32)) :
    Calls Tryz.prog 63 #[.agg #[.int .i64 b, .int .i64 p]] w fun e w' => ∃ v, e = .returned (.tuple #[.pointer none, v]) ∧ ErrIs w' opNew b 1 v ∧ Below w.heap.size w w' := by
  have HM := Lib.hid (fun w => mayBe_any b p w)
  rw [decide_eq_false h] at HM
  have HW := Lib.hid (fun w => wrap_errV opNew b 1 w hb rfl (by decide))
  have E1 : errV 1 = .iface 51 (.int .i64 1) := rfl
  rw [E1] at HW
  clear h hb E1
  go_enter Tryz.func63, Tryz.ntmps63
  go_wp2_with fail
  obtain ⟨W1, hW1⟩ : ∃ W1, W1 = w.alloc (.cells #[.int .i64 b, .int .i64 p] 112) := ⟨_, rfl⟩
  rw [← hW1]
  have k1 : Blk W1 w.heap.size 112 #[.int .i64 b, .int .i64 p] := by rw [hW1]; exact Blk.new w _ _
  have b1 : Below w.heap.size w W1 := by rw [hW1]; exact (Below.refl _ _).alloc (Nat.le_refl _) _
  clear hW1
  refine (HM.out _).mono ?_
  rintro e w2 ⟨rfl, hb2⟩
  have g0 : w2.cell? ⟨w.heap.size, 0, none⟩ = some (.int .i64 b) := by rw [hb2.cell (p := ⟨w.heap.size, 0, none⟩) k1.lt, k1.cell]; rfl
  have HB := Lib.hid (b1.trans (hb2.mono b1.size))
  clear hb2 k1 b1
  go_wp2_with fail
  refine (HW.out _).mono ?_
  rintro e w3 ⟨v, rfl, he, hb3⟩
  have HE := Lib.hid he
  have HB3 := Lib.hid (HB.out.trans (hb3.mono HB.out.size))
  clear he hb3
  go_wp2
  go_ret2
  exact ⟨_, rfl, HE.out, HB3.out⟩

theorem made_get (z : Array Value) (n i : Nat) (hi : i < n) : (madeCells z n)[i]? = some z[i % z.size]! := by
  unfold madeCells
  rw [Array.getElem?_map, Array.getElem?_range, if_pos hi]
  rfl
theorem three (w : World) (a b c : Array Value) (ta tb tc : TypeId) :
    Blk (((w.alloc (.cells a ta)).alloc (.cells b tb)).alloc (.cells c tc)) w.heap.size ta a ∧ Blk (((w.alloc (.cells a ta)).alloc (.cells b tb)).alloc (.cells c tc)) (w.heap.size + 1) tb b ∧ Blk (((w.alloc (.cells a ta)).alloc (.cells b tb)).alloc (.cells c tc)) (w.heap.size + 1 + 1) tc c := by
  have e1 : (w.alloc (.cells a ta)).heap.size = w.heap.size + 1 := by simp
  have e2 : ((w.alloc (.cells a ta)).alloc (.cells b tb)).heap.size = w.heap.size + 1 + 1 := by simp
  refine ⟨((Blk.new w ta a).alloc _).alloc _, ?_, ?_⟩
  · have := (Blk.new (w.alloc (.cells a ta)) tb b).alloc (.cells c tc)
    rw [e1] at this; exact this
  · have := Blk.new ((w.alloc (.cells a ta)).alloc (.cells b tb)) tc c
    rw [e2] at this; exact this
theorem three_below (w : World) (a b c : Obj) : Below w.heap.size w (((w.alloc a).alloc b).alloc c).drew := by
  have h : Below w.heap.size w (((w.alloc a).alloc b).alloc c) := ((((Below.refl w.heap.size w).alloc (Nat.le_refl _) a).alloc (by simp) b).alloc (by simp; omega) c)
  exact ⟨h.os, h.tape, h.output, h.size, h.block⟩
theorem stayG {w' : World} {G : Nat} {b p : Nat} (h : Blk w' G 112 #[.int .i64 b, .int .i64 p]) :
    Blk w'.drew G 112 #[.int .i64 b, .int .i64 p] ∧ w'.drew.cell? ⟨G, 0, none⟩ = some (.int .i64 b) ∧ w'.drew.cell? ⟨G, 1, none⟩ = some (.int .i64 p) := ⟨h, h.cell 0, h.cell 1⟩
theorem fresh_at {w : World} {r : Ref} (b p : Nat) (hv : r.pv = .map none) (h1 : Blk w r.pb 170 (cellsOf r (fresh b p))) (h2 : Blk w r.gp 9 (madeCells #[.string ⟨#[]⟩] (b * p)))
    (h3 : Blk w r.gb 229 (madeCells #[.int .i64 0, .int .i64 0, .bool false] (b * 3))) : NandAt w r (fresh b p) := by
  refine ⟨h1, ⟨_, h2, size_madeCells _ _, fun i hi => ?_⟩, ⟨_, h3, size_madeCells _ _, fun i hi => ?_⟩, .inl ⟨hv, rfl⟩⟩
  · have hi : i < b * p := hi
    rw [made_get _ _ _ hi]
    show some (#[Value.string ⟨#[]⟩])[i % 1]! = _
    rw [Nat.mod_one]; rfl
  · have hi : i < b := hi
    rw [made_get _ _ _ (by omega), made_get _ _ _ (by omega), made_get _ _ _ (by omega)]
    show some (#[Value.int .i64 0, Value.int .i64 0, Value.bool false])[(i * 3) % 3]! = _ ∧ some (#[Value.int .i64 0, Value.int .i64 0, Value.bool false])[(i * 3 + 1) % 3]! = _ ∧ some (#[Value.int .i64 0, Value.int .i64 0, Value.bool false])[(i * 3 + 2) % 3]! = _
    rw [show (i * 3) % 3 = 0 by omega, show (i * 3 + 1) % 3 = 1 by omega, show (i * 3 + 2) % 3 = 2 by omega]
    exact ⟨rfl, rfl, rfl⟩

set_option maxRecDepth 100000 in
set_option maxHeartbeats 2000000 in
theorem new_ok (b p : Nat) (w : World) (h : 16 ≤ b ∧ b ≤ 64 ∧ 8 ≤ p ∧ p ≤ 32) :
    Calls Tryz.prog 63 #[.agg #[.int .i64 b, .int .i64 p]] w fun e w' => ∃ r : Ref, e = .returned (.tuple #[.pointer (some ⟨r.pb, 0, none⟩), .nilIface]) ∧ NandAt w' r (fresh b p) ∧ Below w.heap.size w w' ∧ ∀ k, r.has k → w.heap.size ≤ k := by
  have HM := Lib.hid (fun w => mayBe_any b p w)
  rw [decide_eq_true (by omega)] at HM
  have hbp : b * p ≤ 2048 := Nat.mul_le_mul h.2.1 h.2.2.2
  have hmul : IntKind.i64.wrap ((b : Int) * (p : Int)) = ((b * p : Nat) : Int) := by rw [← Int.natCast_mul]; exact IntWalk.i64_in _ (by omega)
  have hm1 := fun w => made_str w (b * p) (by omega)
  have hm2 := fun w => made_state w b (by omega)
  obtain ⟨n, hn⟩ : ∃ n, n = b * p := ⟨_, rfl⟩
  rw [← hn] at hm1 hmul
  have HN := Lib.hid hn
  clear h hbp hn
  go_enter Tryz.func63, Tryz.ntmps63
  go_wp2_with fail
  obtain ⟨W1, hW1⟩ : ∃ W1, W1 = w.alloc (.cells #[.int .i64 b, .int .i64 p] 112) := ⟨_, rfl⟩
  rw [← hW1]
  have k1 : Blk W1 w.heap.size 112 #[.int .i64 b, .int .i64 p] := by rw [hW1]; exact Blk.new w _ _
  have b1 : Below w.heap.size w W1 := by rw [hW1]; exact (Below.refl _ _).alloc (Nat.le_refl _) _
  clear hW1
  refine (HM.out _).mono ?_
  rintro e w2 ⟨rfl, hb2⟩
  have k2 : Blk w2 w.heap.size 112 #[.int .i64 b, .int .i64 p] := (hb2.block _ k1.lt).trans k1
  have HB := Lib.hid (b1.trans (hb2.mono b1.size))
  have hG : w.heap.size < w2.heap.size := k2.lt
  obtain ⟨G, hGG⟩ : ∃ G, G = w.heap.size := ⟨_, rfl⟩
  rw [← hGG] at k2 hG ⊢
  have HGG := Lib.hid hGG
  have g0 : w2.cell? ⟨G, 0, none⟩ = some (.int .i64 b) := by rw [k2.cell]; rfl
  have g1 : w2.cell? ⟨G, 1, none⟩ = some (.int .i64 p) := by rw [k2.cell]; rfl
  have K2 := Lib.hid k2
  clear hb2 k1 b1 k2 hGG
  go_wp2
  go_region_held3 (fun w' => Blk w' G 112 #[.int .i64 b, .int .i64 p] ∧ w'.cell? ⟨G, 0, none⟩ = some (.int .i64 b) ∧ w'.cell? ⟨G, 1, none⟩ = some (.int .i64 p)) (first | exact stayG K2.out | exact stayG (K2.out.alloc _) | exact stayG ((K2.out.alloc _).alloc _) | exact stayG (((K2.out.alloc _).alloc _).alloc _)) (fail)
  all_goals go_wp2
  all_goals go_ret2
  all_goals obtain rfl : n = b * p := HN.out
  · refine ⟨⟨w2.heap.size + 1 + 1, w2.heap.size, w2.heap.size + 1, .map none⟩, by simp [fresh, cellsOf], ?_, ?_, ?_⟩
    · obtain ⟨t1, t2, t3⟩ := three w2 (madeCells #[.string ⟨#[]⟩] (b * p)) (madeCells #[.int .i64 0, .int .i64 0, .bool false] (b * 3)) (cellsOf ⟨w2.heap.size + 1 + 1, w2.heap.size, w2.heap.size + 1, .map none⟩ (fresh b p)) 9 229 170
      exact fresh_at b p rfl t3 t1 t2
    · exact HB.out.trans ((three_below w2 _ _ _).mono HB.out.size)
    · intro k hk
      have := HB.out.size
      rcases hk with rfl | rfl | rfl | hk
      · show _ ≤ w2.heap.size + 1 + 1; omega
      · exact this
      · show _ ≤ w2.heap.size + 1; omega
      · cases hk
  · refine ⟨⟨w2.heap.size + 1 + 1, w2.heap.size + 1, w2.heap.size, .map none⟩, by simp [fresh, cellsOf], ?_, ?_, ?_⟩
    · obtain ⟨t1, t2, t3⟩ := three w2 (madeCells #[.int .i64 0, .int .i64 0, .bool false] (b * 3)) (madeCells #[.string ⟨#[]⟩] (b * p)) (cellsOf ⟨w2.heap.size + 1 + 1, w2.heap.size + 1, w2.heap.size, .map none⟩ (fresh b p)) 229 9 170
      exact fresh_at b p rfl t3 t2 t1
    · exact HB.out.trans ((three_below w2 _ _ _).mono HB.out.size)
    · intro k hk
      have := HB.out.size
      rcases hk with rfl | rfl | rfl | hk
      · show _ ≤ w2.heap.size + 1 + 1; omega
      · show _ ≤ w2.heap.size + 1; omega
      · exact this
      · cases hk
end ND
end Go.Proofs.YtdjlflinepefbabGreat

/- What Plan does: of a list of mishaps, wherever it stands. -/
namespace Go.Proofs.YtdjlflinepefbabGreat
namespace ND
open Go.RowKit MM
set_option linter.unusedVariables false
set_option linter.unusedSimpArgs false

/-- A list of mishaps in memory, as a function of its places. -/
def MisC (w : World) (b o : Nat) (m : Mis) : Prop :=
  w.cell? ⟨b, o + 0, none⟩ = some (.int .i64 m.at_) ∧ w.cell? ⟨b, o + 1, none⟩ = some (.int .i64 m.kind) ∧ w.cell? ⟨b, o + 2, none⟩ = some (.int .i64 m.keep) ∧ w.cell? ⟨b, o + 3, none⟩ = some (.string m.junk) ∧
    m.junk.size ≤ maxLen ∧ (Lit.int .i64 m.at_).wf = true ∧ (Lit.int .i64 m.kind).wf = true ∧ (Lit.int .i64 m.keep).wf = true
def MisRow (w : World) (bl : Nat → Prop) (a : Option Addr) (len : Nat) (M : Nat → Mis) : Prop :=
  len = 0 ∨ ∃ b off, a = some ⟨b, off, none⟩ ∧ b < w.heap.size ∧ bl b ∧ ∀ i, i < len → MisC w b (off + i * 4) (M i)
theorem MisRow.kept {w w' : World} {bl : Nat → Prop} {a : Option Addr} {len : Nat} {M : Nat → Mis} (h : MisRow w bl a len M) (hs : w.heap.size ≤ w'.heap.size) (hb : ∀ k, k < w.heap.size → bl k → w'.heap[k]? = w.heap[k]?) : MisRow w' bl a len M := by
  rcases h with h | ⟨b, off, rfl, hlt, hbl, hc⟩
  · exact .inl h
  · refine .inr ⟨b, off, rfl, Nat.lt_of_lt_of_le hlt hs, hbl, fun i hi => ?_⟩
    have he : ∀ o, w'.cell? ⟨b, o, none⟩ = w.cell? ⟨b, o, none⟩ := fun o => by simp [World.cell?, hb b hlt hbl]
    unfold MisC
    rw [he, he, he, he]
    exact hc i hi
def misL (M : Nat → Mis) (k : Nat) : List Mis := (List.range k).map M
theorem misL_succ (M : Nat → Mis) (k : Nat) : misL M (k + 1) = misL M k ++ [M k] := by
  unfold misL
  rw [List.range_succ, List.map_append]; rfl

/-- The map that is laid while the list is gone through. -/
structure Laying (w : World) (r : Ref) (d : Nd) (mb k n : Nat) (l : List Mis) (wr : World) : Prop where
  own : NandAt wr { r with pv := .map (some mb) } { d with laid := d.ops, plan := planOf l }
  map : MapAt Tryz.prog 3 wr mb n fun i => (planOf l i).map misV
  few : n ≤ k
  mod : Mod (fun i => r.has i ∨ w.heap.size ≤ i) w wr

theorem Laying.below {w wr w' : World} {r : Ref} {d : Nd} {mb k n : Nat} {l : List Mis} (h : Laying w r d mb k n l wr) (hb : Below wr.heap.size wr w') : Laying w r d mb k n l w' :=
  ⟨h.own.below hb, h.map.block (hb.block _ h.map.lt), h.few, h.mod.trans (Mod.of_below hb)⟩
theorem Laying.next {w wr : World} {r : Ref} {d : Nd} {mb k n : Nat} {l l' : List Mis} (h : Laying w r d mb k n l wr) (e : planOf l' = planOf l) : Laying w r d mb (k + 1) n l' wr :=
  ⟨by rw [e]; exact h.own, by rw [e]; exact h.map, Nat.le_succ_of_le h.few, h.mod⟩
theorem Laying.stored {w wr w' : World} {r : Ref} {d : Nd} {mb k n : Nat} {l : List Mis} (h : Laying w r d mb k n l wr) (m : Mis) (h1 : 1 ≤ m.at_) (hn : (planOf l m.at_).isSome = false) (hg : wr.grownBy w' (some mb)) (hmb : w.heap.size ≤ mb)
    (hm : MapAt Tryz.prog 3 w' mb (n + 1) (fun x => if x = m.at_ then some (misV { m with junk := cut m.junk }) else (planOf l x).map misV)) : Laying w r d mb (k + 1) (n + 1) (l ++ [m]) w' := by
  have e : (fun x => if x = m.at_ then some (misV { m with junk := cut m.junk }) else (planOf l x).map misV) = fun x => (planOf (l ++ [m]) x).map misV := by
    funext x
    rw [planOf_new l m h1 hn]
    show _ = Option.map misV (if x = m.at_ then some { m with junk := cut m.junk } else planOf l x)
    split <;> rfl
  rw [e] at hm
  exact ⟨h.own.turned rfl hg _ (.inr ⟨mb, n + 1, rfl, hm⟩), hm, Nat.succ_le_succ h.few, h.mod.grown hg (.inr hmb)⟩
theorem Laying.look {w wr w' : World} {r : Ref} {d : Nd} {mb k n L : Nat} {l : List Mis} (h : Laying w r d mb k n l wr) (hb : Below wr.heap.size wr w') {m : Mis} (hL : L < wr.heap.size) (h0 : wr.cell? ⟨L, 0, none⟩ = some (.int .i64 m.at_)) (wa : (Lit.int .i64 m.at_).wf = true) (z : Mis) (bs : Bool)
    (hz : z = (planOf l m.at_).getD Mis.zero) (hbs : bs = (planOf l m.at_).isSome) :
    Below wr.heap.size wr w' ∧ w'.cell? ⟨r.pb, 5, none⟩ = some (.map (some mb)) ∧ w'.cell? ⟨L, 0, none⟩ = some (.int .i64 m.at_) ∧
      (Instr.lookup 168 (.map (some mb)) (.int .i64 m.at_) true).run Tryz.prog w' = .ok (.tuple #[.agg #[.int .i64 z.at_, .int .i64 z.kind, .int .i64 z.keep, .string z.junk], .bool bs]) w' := by
  have h' := h.below hb
  refine ⟨hb, h'.own.cells.2.2.2.2.2.1, (hb.cell (p := ⟨L, 0, none⟩) hL).trans h0, ?_⟩
  rw [hz, hbs]
  exact h'.own.plan.look wa true

end ND
end Go.Proofs.YtdjlflinepefbabGreat

/- An array at work: each call of a law, as a step from state to state. -/
namespace Go.Proofs.YtdjlflinepefbabGreat
namespace ND
open Go.RowKit MM
set_option linter.unusedVariables false
set_option linter.unusedSimpArgs false

theorem Errs.refl (w : World) : Errs w w := fun _ _ _ _ h => h
theorem Errs.trans {a b c : World} (h : Errs a b) (k : Errs b c) : Errs a c := fun _ _ _ t x => k _ _ _ t (h _ _ _ t x)
theorem Errs.below {w w' : World} (h : Below w.heap.size w w') : Errs w w' := fun b T cs t x => (h.block b x.lt).trans x
theorem NandAt.noOther {w : World} {r : Ref} {d : Nd} (h : NandAt w r d) {b : Nat} {T : TypeId} {cs : Array Value} (hT : Other T = true) (hb : Blk w b T cs) : ¬ r.has b := by
  simp only [Other, Bool.and_eq_true, bne_iff_ne, ne_eq] at hT
  rintro (rfl | rfl | rfl | hv)
  · exact ne_of_blk h.own hb (Ne.symm hT.1.1) rfl
  · obtain ⟨ps, h1, _⟩ := h.pages; exact ne_of_blk h1 hb (Ne.symm hT.1.2) rfl
  · obtain ⟨ps, h1, _⟩ := h.blocks; exact ne_of_blk h1 hb (Ne.symm hT.2) rfl
  · exact h.plan.ne hb hv
theorem Errs.mod {w w' : World} {r : Ref} {d : Nd} (h : NandAt w r d) (hm : Mod r.has w w') : Errs w w' := fun b T cs t x => (hm.block b x.lt (h.noOther t x)).trans x
/-- A cell that a law writes of its own. -/
theorem Errs.own {w : World} {b : Nat} (i : Nat) (u : Value) : ∀ b' T cs, b' ≠ b → Blk w b' T cs → Blk (w.setCell ⟨b, i, none⟩ u) b' T cs := fun b' T cs hne x => (set_far w ⟨b, i, none⟩ u hne).trans x

/-- An array that a law made, in the midst of the law's work. -/
structure In (w0 w : World) (r : Ref) (d : Nd) : Prop where
  at_ : NandAt w r d
  ok : d.Ok
  low : ∀ k, r.has k → w0.heap.size ≤ k
  bel : Below w0.heap.size w0 w
/-- .. wherever its parts lie: its own block is g. -/
def St (w0 w : World) (g : Nat) (d : Nd) : Prop := ∃ r : Ref, r.pb = g ∧ In w0 w r d

section
variable {w0 w w' : World} {r : Ref} {d : Nd} {g : Nat}
theorem In.below (h : In w0 w r d) (hb : Below w.heap.size w w') : In w0 w' r d := ⟨h.at_.below hb, h.ok, h.low, h.bel.trans (hb.mono h.bel.size)⟩
theorem In.mod {r' : Ref} {d' : Nd} (h : In w0 w r d) (ha : NandAt w' r' d') (ok : d'.Ok) (hm : Mod r.has w w') (hl : ∀ k, r'.has k → r.has k ∨ w.heap.size ≤ k) : In w0 w' r' d' :=
  ⟨ha, ok, fun k hk => (hl k hk).elim (h.low k) fun e => Nat.le_trans h.bel.size e, h.bel.trans (hm.below h.bel.size h.low)⟩
theorem St.below (h : St w0 w g d) (hb : Below w.heap.size w w') : St w0 w' g d := by
  obtain ⟨r, hr, h⟩ := h
  exact ⟨r, hr, h.below hb⟩
theorem St.own (h : St w0 w g d) {b : Nat} {T : TypeId} {cs : Array Value} (hT : Other T = true) (hb : Blk w b T cs) (hlow : w0.heap.size ≤ b) (i : Nat) (u : Value) : St w0 (w.setCell ⟨b, i, none⟩ u) g d := by
  obtain ⟨r, hr, h⟩ := h
  refine ⟨r, hr, h.at_.kept fun k hk => set_far w _ u fun (e : k = b) => h.at_.noOther hT hb (by rw [← e]; exact hk), h.ok, h.low, h.bel.setCell hlow u⟩
theorem St.bel (h : St w0 w g d) : Below w0.heap.size w0 w := by
  obtain ⟨r, hr, h⟩ := h
  exact h.bel
theorem St.ok (h : St w0 w g d) : d.Ok := by
  obtain ⟨r, hr, h⟩ := h
  exact h.ok

theorem st_new (b p : Nat) (hb : 16 ≤ b ∧ b ≤ 64 ∧ 8 ≤ p ∧ p ≤ 32) (w0 : World) (hw : Below w0.heap.size w0 w) :
    Calls Tryz.prog 63 #[.agg #[.int .i64 b, .int .i64 p]] w fun e w' => ∃ g : Nat, e = .returned (.tuple #[.pointer (some ⟨g, 0, none⟩), .nilIface]) ∧ St w0 w' g (fresh b p) ∧ Errs w w' := by
  refine (new_ok b p w hb).mono ?_
  rintro e w' ⟨r, rfl, h1, h2, h3⟩
  exact ⟨_, rfl, ⟨r, rfl, h1, fresh_ok hb.1 hb.2.1 hb.2.2.1 hb.2.2.2, fun k hk => Nat.le_trans hw.size (h3 k hk), hw.trans (h2.mono hw.size)⟩, Errs.below h2⟩
theorem st_program (h : St w0 w g d) (hops : d.ops ≤ 4611686018427387904) (p : Int) (hp : (Lit.int .i64 p).wf = true) (s : ByteArray) :
    Calls Tryz.prog 66 #[(.pointer (some ⟨g, 0, none⟩)), .int .i64 p, .string s] w fun e w' => ∃ v, e = .returned v ∧ ErrIs w' opProgram p (d.program p s).2 v ∧ St w0 w' g (d.program p s).1 ∧ Errs w w' := by
  obtain ⟨r, rfl, h⟩ := h
  refine (program_any h.at_ h.ok hops p hp s).mono ?_
  rintro e w' ⟨v, rfl, h1, h2, h3⟩
  exact ⟨v, rfl, h1, ⟨r, rfl, h.mod h2 (h.ok.program p s) h3 fun k hk => .inl hk⟩, Errs.mod h.at_ h3⟩
theorem st_read (h : St w0 w g d) (p : Int) (hp : (Lit.int .i64 p).wf = true) :
    Calls Tryz.prog 67 #[(.pointer (some ⟨g, 0, none⟩)), .int .i64 p] w fun e w' => ∃ v, e = .returned (.tuple #[.string (d.read p).1, v]) ∧ ErrIs w' opRead p (d.read p).2 v ∧ St w0 w' g d ∧ Errs w w' := by
  obtain ⟨r, rfl, h⟩ := h
  refine (readX_any h.at_ h.ok p hp).mono ?_
  rintro e w' ⟨v, rfl, h1, h2⟩
  exact ⟨v, rfl, h1, ⟨r, rfl, h.below h2⟩, Errs.below h2⟩
/-- The cells of some mishaps, one behind the other. -/
def misCells : List Mis → List Value
  | [] => []
  | m :: l => .int .i64 m.at_ :: .int .i64 m.kind :: .int .i64 m.keep :: .string m.junk :: misCells l
def Mis.Wf (m : Mis) : Prop := (Lit.int .i64 m.at_).wf = true ∧ (Lit.int .i64 m.kind).wf = true ∧ (Lit.int .i64 m.keep).wf = true ∧ m.junk.size ≤ maxLen
theorem misCells_get : ∀ (l : List Mis) (i : Nat) (m : Mis), l[i]? = some m → (misCells l)[i * 4 + 0]? = some (.int .i64 m.at_) ∧ (misCells l)[i * 4 + 1]? = some (.int .i64 m.kind) ∧ (misCells l)[i * 4 + 2]? = some (.int .i64 m.keep) ∧ (misCells l)[i * 4 + 3]? = some (.string m.junk)
  | [], i, m, h => by simp at h
  | x :: l, 0, m, h => by
    simp at h
    subst h
    exact ⟨rfl, rfl, rfl, rfl⟩
  | x :: l, i + 1, m, h => by
    have := misCells_get l i m (by simpa using h)
    rw [show (i + 1) * 4 + 0 = i * 4 + 0 + 4 by omega, show (i + 1) * 4 + 1 = i * 4 + 1 + 4 by omega, show (i + 1) * 4 + 2 = i * 4 + 2 + 4 by omega, show (i + 1) * 4 + 3 = i * 4 + 3 + 4 by omega]
    exact this
end
/-- A nil array. -/
theorem program_nil (p : Int) (hp : (Lit.int .i64 p).wf = true) (s : ByteArray) (w : World) :
    Calls Tryz.prog 66 #[.pointer none, .int .i64 p, .string s] w fun e w' => ∃ v, e = .returned v ∧ ErrIs w' opProgram p 1 v ∧ Below w.heap.size w w' := by
  have HW := Lib.hid (fun w => wrap_errV opProgram p 1 w hp rfl (by decide))
  have E1 : errV 1 = .iface 51 (.int .i64 1) := rfl
  rw [E1] at HW
  have HR := Lib.hid (fun w => ready_nil w)
  have HM : Hid (Calls Tryz.prog 138 #[.pointer none, .int .i64 p, .string s] w fun e w' => e = .returned (.iface 51 (.int .i64 1)) ∧ w = w') := by
    show Calls _ _ _ _ _
    clear HW hp E1
    go_enter Tryz.func138, Tryz.ntmps138
    go_wp2_with fail
    refine (HR.out _).mono ?_
    rintro e w1 ⟨rfl, rfl⟩
    go_wp2
    go_ret
    exact ⟨rfl, rfl⟩
  have HP : Hid (Calls Tryz.prog 97 #[.pointer none, .int .i64 p, .string s] w fun e w' => e = .returned (.iface 51 (.int .i64 1)) ∧ w = w') := by
    show Calls _ _ _ _ _
    clear HW hp E1
    go_enter Tryz.func97, Tryz.ntmps97
    go_wp2_with fail
    refine HM.out.mono ?_
    rintro e w1 ⟨rfl, rfl⟩
    go_wp2
    go_ret
    exact ⟨rfl, rfl⟩
  clear HM HR hp E1
  go_enter Tryz.func66, Tryz.ntmps66
  go_wp2_with fail
  refine HP.out.mono ?_
  rintro e w1 ⟨rfl, rfl⟩
  go_wp2_with fail
  refine (HW.out _).mono ?_
  rintro e w2 ⟨v, rfl, he, hb⟩
  have HE := Lib.hid he
  have HB := Lib.hid hb
  clear he hb
  go_wp2
  go_ret
  exact ⟨_, rfl, HE.out, HB.out⟩
theorem read_nil (p : Int) (hp : (Lit.int .i64 p).wf = true) (w : World) :
    Calls Tryz.prog 67 #[.pointer none, .int .i64 p] w fun e w' => ∃ v, e = .returned (.tuple #[.string ⟨#[]⟩, v]) ∧ ErrIs w' opRead p 1 v ∧ Below w.heap.size w w' := by
  have HW := Lib.hid (fun w => wrap_errV opRead p 1 w hp rfl (by decide))
  have E1 : errV 1 = .iface 51 (.int .i64 1) := rfl
  rw [E1] at HW
  have HR := Lib.hid (fun w => ready_nil w)
  have HP : Hid (Calls Tryz.prog 98 #[.pointer none, .int .i64 p] w fun e w' => e = .returned (.tuple #[.string ⟨#[]⟩, .iface 51 (.int .i64 1)]) ∧ w = w') := by
    show Calls _ _ _ _ _
    clear HW hp E1
    go_enter Tryz.func98, Tryz.ntmps98
    go_wp2_with fail
    refine (HR.out _).mono ?_
    rintro e w1 ⟨rfl, rfl⟩
    go_wp2
    go_ret2
    exact ⟨rfl, rfl⟩
  clear HR hp E1
  go_enter Tryz.func67, Tryz.ntmps67
  go_wp2_with fail
  refine HP.out.mono ?_
  rintro e w1 ⟨rfl, rfl⟩
  go_wp2_with fail
  refine (HW.out _).mono ?_
  rintro e w2 ⟨v, rfl, he, hb⟩
  have HE := Lib.hid he
  have HB := Lib.hid hb
  clear he hb
  go_wp2
  go_ret2
  exact ⟨_, rfl, HE.out, HB.out⟩
end ND
end Go.Proofs.YtdjlflinepefbabGreat
