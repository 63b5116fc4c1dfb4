/- 3 texts laid together: each says at its head what it proves. No condition but those that each theorem names. -/
import Derived.Test.YtdjlflinepefbabGreatQ35
import Derived.Shelf.Strconv.Clone
import Derived.Test.YtdjlflinepefbabGreatProg
import Derived.WalkKit
import Derived.Lib.Hide

/- errors.is and errors.Is where the target is a number (an api.Errno): whatever tree the error is, they answer whether the number is inside. -/
namespace Go.Proofs.YtdjlflinepefbabGreat
namespace ER
open Go.RowKit Go.Extern.Stop Go.Stop Go.Extern
set_option linter.unusedVariables false
set_option linter.unusedSimpArgs false

/-- '==' at two interface values of one integer type: as the numbers are. -/
theorem run_equalIn_nums {P : Program} (w : World) (d : Nat) {ti tn : TypeId} {ms : Array (String × TypeId)} {i : TypeInfo} {k : IntKind} (a b : Int)
    (hi : P.underlying ti = some (.interface ms)) (hn : P.underlying tn = some (.int k)) (hinfo : P.info? tn = some i) (hcomp : i.comparable = true) :
    (Op.equalIn (d + 2) ti (.iface tn (.int k a)) (.iface tn (.int k b))).run P w = .ok (a == b) w := by
  simp [Op.equalIn, run_underlying hi, run_underlying hn, typeInfo, hinfo, hcomp]
theorem run_eql_nums {P : Program} (w : World) {ti tn : TypeId} {ms : Array (String × TypeId)} {i : TypeInfo} {k : IntKind} (a b : Int)
    (hi : P.underlying ti = some (.interface ms)) (hn : P.underlying tn = some (.int k)) (hinfo : P.info? tn = some i) (hcomp : i.comparable = true) :
    (binOp .eql ti (.iface tn (.int k a)) (.iface tn (.int k b))).run P w = .ok (.bool (a == b)) w := by
  simp only [binOp]
  simp [Op.equal, Op.maxDepth, run_equalIn_nums w 9998 a b hi hn hinfo hcomp]
theorem compE : (Tryz.prog.info? 51).map (·.comparable) = some true := by kernel_rfl
theorem eqlNums (a b : Int) (w : World) : (binOp .eql 33 (.iface 51 (.int .i64 a)) (.iface 51 (.int .i64 b))).run Tryz.prog w = .ok (.bool (a == b)) w := by
  obtain ⟨i, hi, hcmp⟩ := Option.map_eq_some_iff.1 compE
  exact run_eql_nums w a b Tryz.underlying33 Tryz.underlying51 hi hcmp
theorem eqlF (x y : Value) (w : World) : (binOp .eql 33 (.iface 136 x) (.iface 51 y)).run Tryz.prog w = .ok (.bool false) w :=
  run_eql_iface_types 136 51 x y Tryz.underlying33 (by decide) w
theorem noIsN (v : Value) (xT : TypeId) (w : World) : (Instr.typeAssert (.iface 51 v) xT 296 true).run Tryz.prog w = .ok (.tuple #[.nilIface, .bool false]) w := run_typeAssert_lacksB Tryz.underlying296 (by kernel_rfl) (by kernel_rfl) v xT w
theorem noIsF (v : Value) (xT : TypeId) (w : World) : (Instr.typeAssert (.iface 136 v) xT 296 true).run Tryz.prog w = .ok (.tuple #[.nilIface, .bool false]) w := run_typeAssert_lacksB Tryz.underlying296 (by kernel_rfl) (by kernel_rfl) v xT w

theorem ret_bool {a b : Bool} (h : a = b) : Ending.returned (.bool a) = Ending.returned (.bool b) := by rw [h]

set_option maxRecDepth 100000 in
set_option maxHeartbeats 4000000 in
theorem is_num (n : Nat) : ∀ (E : Er) (v : Value) (x : Int) (w : World) (B : Nat), E.dep ≤ n → IsErr w B E v →
    Calls Tryz.prog 196 #[v, .iface 51 (.int .i64 x), .bool true] w fun e w' => e = .returned (.bool (E.has x)) ∧ w = w' := by
  induction n using Nat.strongRecOn with
  | _ n ih =>
  intro E v x w B hdep hE
  have HIH := Lib.hid ih
  clear ih
  have HDEP := Lib.hid hdep
  clear hdep
  go_enter Tryz.func196, Tryz.ntmps196
  go_wp2
  go_loopg [0] E.dep (fun g v' wr => ∃ E' : Er, g = E'.dep ∧ E'.dep ≤ n ∧ IsErr wr B E' v' ∧ Hid (E'.has x = E.has x) ∧ w = wr)
  case atStart => exact ⟨E, rfl, HDEP.out, hE, rfl, rfl⟩
  case round =>
    obtain ⟨E', rfl, hd', hE', HC, rfl⟩ := hrel
    cases E' with
    | num c =>
      obtain ⟨rfl, hwf⟩ := hE'
      have g1 := eqlNums
      have g3 := noIsN
      have g4 := noUnN
      have g5 := noUnsN
      have hc : E.has x = (c == x) := HC.out.symm
      by_cases hcx : c = x
      · have hb : (c == x) = true := by simp [hcx]
        have HF : Hid (E.has x = true) := hc.trans hb
        clear hc hcx
        go_wp2
        go_ret
        exact ⟨ret_bool HF.out.symm, rfl⟩
      · have hb : (c == x) = false := by simp [hcx]
        have HF : Hid (E.has x = false) := hc.trans hb
        clear hc hcx
        go_wp2
        go_ret
        exact ⟨ret_bool HF.out.symm, rfl⟩
    | str =>
      exact hE'.elim
    | fault op m e =>
      obtain ⟨b, y, rfl, hbB, hcells, hm, hop, he⟩ := hE'
      obtain ⟨tx, vx, rfl⟩ := he.iface
      have g1 := eqlF
      have g3 := noIsF
      have g4 := hasUnF
      have g5 := methodUnF
      have c2 : w.cell? ⟨b, 2, none⟩ = some (.iface tx vx) := by rw [cell_of_row _ _ _ _ _ _ hcells]; rfl
      have HE := Lib.hid he
      clear he hcells
      go_wp2
      go_roundg e.dep
      case measure => exact Nat.lt_succ_self _
      case rel => exact ⟨e, rfl, Nat.le_of_succ_le hd', HE.out, HC, rfl⟩
    | join k f =>
      exact hE'.elim

set_option maxRecDepth 100000 in
/-- errors.Is of an error and a number. -/
theorem Is_num (E : Er) (v : Value) (x : Int) (w : World) (B : Nat) (hE : IsErr w B E v) :
    Calls Tryz.prog 181 #[v, .iface 51 (.int .i64 x)] w fun e w' => e = .returned (.bool (E.has x)) ∧ w = w' := by
  obtain ⟨tx, vx, rfl⟩ := hE.iface
  have IH := Lib.hid (is_num E.dep E (.iface tx vx) x w B (Nat.le_refl _) hE)
  clear hE
  have e1 := entTypeOf
  have e2 := entComparable
  have g1 := typeOfN
  have g2 := comparableN
  have m1 := rtComparable
  obtain ⟨b, hb⟩ : ∃ b, b = E.has x := ⟨_, rfl⟩
  rw [← hb] at IH ⊢
  clear hb
  go_enter Tryz.func181, Tryz.ntmps181
  go_wp2_with (first | (go_at_call 196; refine IH.out.mono ?_; rintro e w' ⟨rfl, rfl⟩) | go_in)
  go_ret
  exact ⟨rfl, rfl⟩
set_option maxRecDepth 100000 in
/-- errors.Is of no error and a number. -/
theorem Is_nil (x : Int) (w : World) :
    Calls Tryz.prog 181 #[.nilIface, .iface 51 (.int .i64 x)] w fun e w' => e = .returned (.bool false) ∧ w = w' := by
  have hn := fun w => run_eql_iface_nil_left (P := Tryz.prog) w 51 (.int .i64 x) Tryz.underlying33
  go_enter Tryz.func181, Tryz.ntmps181
  go_wp2
  go_ret
  exact ⟨rfl, rfl⟩
end ER
end Go.Proofs.YtdjlflinepefbabGreat

/- What the array's small methods do that change it: an operation counted, a block's pages filled, what a mishap leaves. -/
namespace Go.Proofs.YtdjlflinepefbabGreat
namespace ND
open Go.RowKit MM
set_option linter.unusedVariables false
set_option linter.unusedSimpArgs false

theorem NandAt.alloc {w : World} {r : Ref} {d : Nd} (h : NandAt w r d) (o : Obj) : NandAt (w.alloc o) r d := h.below ((Below.refl _ _).alloc (Nat.le_refl _) o)

theorem set4 {W : World} {g : Nat} {t : TypeId} {a b c e : Value} (h : Blk W g t #[a, b, c, e]) (x y z u : Value) :
    Blk ((((W.setCell ⟨g, 0, none⟩ x).setCell ⟨g, 1, none⟩ y).setCell ⟨g, 2, none⟩ z).setCell ⟨g, 3, none⟩ u) g t #[x, y, z, u] := (((h.set_ 0 x).set_ 1 y).set_ 2 z).set_ 3 u
theorem count_end {w W5 : World} {r : Ref} {d : Nd} (h5 : NandAt W5 r d) (m5 : Mod r.has w W5) (k5 : Blk W5 w.heap.size 224 #[.int .i64 0, .int .i64 0, .int .i64 0, .string ⟨#[]⟩]) (hl : r.pb < w.heap.size) (hn : ¬ r.has w.heap.size) (mm : Mis) (W6 : World)
    (hW : W6 = (((W5.setCell ⟨w.heap.size, 0, none⟩ (.int .i64 mm.at_)).setCell ⟨w.heap.size, 1, none⟩ (.int .i64 mm.kind)).setCell ⟨w.heap.size, 2, none⟩ (.int .i64 mm.keep)).setCell ⟨w.heap.size, 3, none⟩ (.string mm.junk)) :
    NandAt W6 r d ∧ Mod r.has w W6 ∧ W6.cell? ⟨w.heap.size, 0, none⟩ = some (.int .i64 mm.at_) ∧ W6.cell? ⟨w.heap.size, 1, none⟩ = some (.int .i64 mm.kind) ∧ W6.cell? ⟨w.heap.size, 2, none⟩ = some (.int .i64 mm.keep) ∧ W6.cell? ⟨w.heap.size, 3, none⟩ = some (.string mm.junk) := by
  have k6 := set4 k5 (.int .i64 mm.at_) (.int .i64 mm.kind) (.int .i64 mm.keep) (.string mm.junk)
  rw [← hW] at k6
  have hb : Below w.heap.size W5 W6 := by rw [hW]; exact ((((Below.refl w.heap.size W5).setCell (p := ⟨w.heap.size, 0, none⟩) (Nat.le_refl w.heap.size) _).setCell (p := ⟨w.heap.size, 1, none⟩) (Nat.le_refl w.heap.size) _).setCell (p := ⟨w.heap.size, 2, none⟩) (Nat.le_refl w.heap.size) _).setCell (p := ⟨w.heap.size, 3, none⟩) (Nat.le_refl w.heap.size) _
  refine ⟨h5.kept fun k hk => ?_, ?_, ?_⟩
  · by_cases hkk : k = w.heap.size
    · exact absurd (hkk ▸ hk) hn
    · rw [hW, set_far _ _ _ hkk, set_far _ _ _ hkk, set_far _ _ _ hkk, set_far _ _ _ hkk]
  · exact ⟨hb.os.trans m5.os, hb.tape.trans m5.tape, hb.output.trans m5.output, Nat.le_trans m5.size hb.size, fun k hk hs => (hb.block k hk).trans (m5.block k hk hs)⟩
  · rw [k6.cell, k6.cell, k6.cell, k6.cell]
    exact ⟨rfl, rfl, rfl, rfl⟩

set_option maxHeartbeats 1000000 in
set_option maxRecDepth 100000 in
theorem count_any {w : World} {r : Ref} {d : Nd} (h : NandAt w r d) (ok : d.Ok) (hops : d.ops ≤ 4611686018427387904) (fail : Int) :
    Calls Tryz.prog 139 #[(.pointer (some ⟨r.pb, 0, none⟩)), .int .i64 fail] w fun e w' => e = .returned (.tuple #[misV d.mis, errV (brings d.mis fail)]) ∧ NandAt w' r d.counted ∧ Mod r.has w w' := by
  have hlaid := ok.laid
  have h1 := h.alloc (.cells #[.int .i64 0, .int .i64 0, .int .i64 0, .string ⟨#[]⟩] 224)
  have c4 := h1.cells.2.2.2.2.1
  have z4 := h1.fz 4
  have r0 : IntKind.i64.wrap ((d.ops : Int) + 1) = (d.ops : Int) + 1 := IntWalk.i64_in _ (by omega)
  have H := Lib.hid h
  have H1 := Lib.hid h1
  obtain ⟨mm, hmm⟩ : ∃ mm, mm = d.mis := ⟨_, rfl⟩
  rw [← hmm]
  unfold misV
  clear h h1
  go_enter Tryz.func139, Tryz.ntmps139
  go_wp2
  obtain ⟨W2, hW2⟩ : ∃ W2, W2 = (w.alloc (.cells #[.int .i64 0, .int .i64 0, .int .i64 0, .string ⟨#[]⟩] 224)).setCell ⟨r.pb, 4, none⟩ (.int .i64 ((d.ops : Int) + 1)) := ⟨_, rfl⟩
  rw [← hW2]
  have hm2 : Mod r.has w W2 := by rw [hW2]; exact ((Mod.refl _ _).alloc _).setCell (.inl rfl) _
  have h2 : NandAt W2 r { d with ops := d.ops + 1 } := by rw [hW2]; exact H1.out.setOps (d.ops + 1)
  have hk2 : Blk W2 w.heap.size 224 #[.int .i64 0, .int .i64 0, .int .i64 0, .string ⟨#[]⟩] := by
    rw [hW2]; exact (Blk.new w _ _).far (Nat.ne_of_gt H.out.own.lt) _
  have d4 := h2.cells.2.2.2.2.1
  have d6 := h2.cells.2.2.2.2.2.2.1
  have hdue : (Lit.int .i64 d.due).wf = true := WalkArith.wf_i64 (by unfold Nd.due; omega)
  have HM2 := Lib.hid hm2
  have H2 := Lib.hid h2
  have HK2 := Lib.hid hk2
  have HD := Lib.hid hdue
  clear hW2 hm2 h2 hk2 hdue c4 z4 r0 H1
  go_quiet (fail)
  obtain ⟨W3, hW3⟩ : ∃ W3, W3 = W2.drewN nq := ⟨_, rfl⟩
  rw [← hW3]
  have hm3 : Mod r.has w W3 := by rw [hW3]; exact HM2.out.trans (Mod.of_below (drewN_below (Below.refl _ _) _))
  have h3 : NandAt W3 r { d with ops := d.ops + 1 } := by rw [hW3]; exact H2.out.kept fun k hk => rfl
  have hk3 : Blk W3 w.heap.size 224 #[.int .i64 0, .int .i64 0, .int .i64 0, .string ⟨#[]⟩] := by rw [hW3]; exact HK2.out
  obtain ⟨D, hD⟩ : ∃ D, D = d.due := ⟨_, rfl⟩
  rw [show (d.ops : Int) + 1 - (d.laid : Int) = D from hD.symm ▸ rfl]
  have e5 := h3.cells.2.2.2.2.2.1
  have hlook : (Instr.lookup 168 r.pv (.int .i64 D) false).run Tryz.prog W3 = .ok (.agg #[.int .i64 mm.at_, .int .i64 mm.kind, .int .i64 mm.keep, .string mm.junk]) W3 := by
    rw [hD, hmm]; exact h3.plan.look HD.out false
  have h4 := h3.alloc (.cells #[.int .i64 mm.at_, .int .i64 mm.kind, .int .i64 mm.keep, .string mm.junk] 224)
  have f5 := h4.cells.2.2.2.2.2.1
  obtain ⟨W5, hrun, hp5, hor⟩ := h4.plan.drop (a := D) (by rw [hD]; exact HD.out) 0
  have hb5 : Blk W5 W3.heap.size 224 #[.int .i64 mm.at_, .int .i64 mm.kind, .int .i64 mm.keep, .string mm.junk] ∧ Blk W5 w.heap.size 224 #[.int .i64 0, .int .i64 0, .int .i64 0, .string ⟨#[]⟩] ∧ NandAt W5 r d.counted ∧ Mod r.has w W5 := by
    have b1 := Blk.new W3 224 #[.int .i64 mm.at_, .int .i64 mm.kind, .int .i64 mm.keep, .string mm.junk]
    have b2 := hk3.alloc (.cells #[.int .i64 mm.at_, .int .i64 mm.kind, .int .i64 mm.keep, .string mm.junk] 224)
    have m3 := hm3.alloc (.cells #[.int .i64 mm.at_, .int .i64 mm.kind, .int .i64 mm.keep, .string mm.junk] 224)
    have e : d.counted = { ({ d with ops := d.ops + 1 } : Nd) with plan := fun k => if k = D then none else d.plan k } := by rw [hD]; rfl
    rcases hor with rfl | ⟨b, hv, hg⟩
    · exact ⟨b1, b2, by rw [e]; exact ⟨h4.own, h4.pages, h4.blocks, hp5⟩, m3⟩
    · have n1 : some W3.heap.size ≠ some b := fun e => by injection e with e; exact Nat.lt_irrefl _ (e ▸ h3.lt (.inr (.inr (.inr hv))))
      have n2 : some w.heap.size ≠ some b := fun e => by injection e with e; exact Nat.lt_irrefl _ (e ▸ H.out.lt (.inr (.inr (.inr hv))))
      exact ⟨b1.grown hg n1, b2.grown hg n2, by rw [e]; exact h4.turned hv hg _ hp5, m3.grown hg (.inr (.inr (.inr hv)))⟩
  obtain ⟨b5, k5, h5, m5⟩ := hb5
  have g0 : W5.cell? ⟨W3.heap.size, 0, none⟩ = some (.int .i64 mm.at_) := by rw [b5.cell]; rfl
  have g1 : W5.cell? ⟨W3.heap.size, 1, none⟩ = some (.int .i64 mm.kind) := by rw [b5.cell]; rfl
  have g2 : W5.cell? ⟨W3.heap.size, 2, none⟩ = some (.int .i64 mm.keep) := by rw [b5.cell]; rfl
  have g3 : W5.cell? ⟨W3.heap.size, 3, none⟩ = some (.string mm.junk) := by rw [b5.cell]; rfl
  have q0 : W5.cell? ⟨w.heap.size, 0, none⟩ = some (.int .i64 0) := by rw [k5.cell]; rfl
  have q1 : W5.cell? ⟨w.heap.size, 1, none⟩ = some (.int .i64 0) := by rw [k5.cell]; rfl
  have q2 : W5.cell? ⟨w.heap.size, 2, none⟩ = some (.int .i64 0) := by rw [k5.cell]; rfl
  have q3 : W5.cell? ⟨w.heap.size, 3, none⟩ = some (.string ⟨#[]⟩) := by rw [k5.cell]; rfl
  have z0 := k5.frozen 0
  have z1 := k5.frozen 1
  have z2 := k5.frozen 2
  have z3 := k5.frozen 3
  have H5 := Lib.hid h5
  have M5 := Lib.hid m5
  have K5 := Lib.hid k5
  clear h5 m5 k5 b5
  have HOR := Lib.hid hor
  have HP5 := Lib.hid hp5
  have H4 := Lib.hid h4
  have H3 := Lib.hid h3
  have HM3 := Lib.hid hm3
  have HK3 := Lib.hid hk3
  have HDD := Lib.hid hD
  have HMM := Lib.hid hmm
  clear hW3 d4 d6 H2 HK2 HM2 hor hp5 h4 h3 hm3 hk3 hD hmm HD ok
  by_cases k1 : mm.kind = 1
  · have j1 : (mm.kind == 1) = true := by simp [k1]
    have hbr : brings mm fail = 9 := if_pos k1
    have K1 := Lib.hid k1
    clear k1
    go_wp2
    obtain ⟨W6, hW6⟩ : ∃ W6, W6 = (((W5.setCell ⟨w.heap.size, 0, none⟩ (.int .i64 mm.at_)).setCell ⟨w.heap.size, 1, none⟩ (.int .i64 mm.kind)).setCell ⟨w.heap.size, 2, none⟩ (.int .i64 mm.keep)).setCell ⟨w.heap.size, 3, none⟩ (.string mm.junk) := ⟨_, rfl⟩
    rw [← hW6]
    obtain ⟨h6, m6, p0, p1, p2, p3⟩ := count_end H5.out M5.out K5.out H.out.own.lt (fun hk => Nat.lt_irrefl _ (H.out.lt hk)) mm W6 hW6
    clear hW6
    simp [bodyPost, results, Tryz.results139, go_sem, p0, p1, p2, p3]
    exact ⟨rfl, h6, m6⟩
  · by_cases k2 : mm.kind = fail
    · have j1 : (mm.kind == 1) = false := by simp [k1]
      have j2 : (mm.kind == fail) = true := by simp [k2]
      have hbr : brings mm fail = 41 := by unfold brings; rw [if_neg k1, if_pos k2]
      have K1 := Lib.hid k1
      have K2 := Lib.hid k2
      clear k1 k2
      go_wp2
      obtain ⟨W6, hW6⟩ : ∃ W6, W6 = (((W5.setCell ⟨w.heap.size, 0, none⟩ (.int .i64 mm.at_)).setCell ⟨w.heap.size, 1, none⟩ (.int .i64 mm.kind)).setCell ⟨w.heap.size, 2, none⟩ (.int .i64 mm.keep)).setCell ⟨w.heap.size, 3, none⟩ (.string mm.junk) := ⟨_, rfl⟩
      rw [← hW6]
      obtain ⟨h6, m6, p0, p1, p2, p3⟩ := count_end H5.out M5.out K5.out H.out.own.lt (fun hk => Nat.lt_irrefl _ (H.out.lt hk)) mm W6 hW6
      clear hW6
      simp [bodyPost, results, Tryz.results139, go_sem, p0, p1, p2, p3]
      exact ⟨rfl, h6, m6⟩
    · have j1 : (mm.kind == 1) = false := by simp [k1]
      have j2 : (mm.kind == fail) = false := by simp [k2]
      have hbr : brings mm fail = 0 := by unfold brings; rw [if_neg k1, if_neg k2]
      have K1 := Lib.hid k1
      have K2 := Lib.hid k2
      clear k1 k2
      go_wp2
      obtain ⟨W6, hW6⟩ : ∃ W6, W6 = (((W5.setCell ⟨w.heap.size, 0, none⟩ (.int .i64 mm.at_)).setCell ⟨w.heap.size, 1, none⟩ (.int .i64 mm.kind)).setCell ⟨w.heap.size, 2, none⟩ (.int .i64 mm.keep)).setCell ⟨w.heap.size, 3, none⟩ (.string mm.junk) := ⟨_, rfl⟩
      rw [← hW6]
      obtain ⟨h6, m6, p0, p1, p2, p3⟩ := count_end H5.out M5.out K5.out H.out.own.lt (fun hk => Nat.lt_irrefl _ (H.out.lt hk)) mm W6 hW6
      clear hW6
      simp [bodyPost, results, Tryz.results139, go_sem, p0, p1, p2, p3]
      exact ⟨rfl, h6, m6⟩
end ND
end Go.Proofs.YtdjlflinepefbabGreat

/- What strings.Clone answers: the same bytes. Condition: no text is longer than 2^48 bytes. -/
namespace Go.Proofs.YtdjlflinepefbabGreat
namespace ND
open Go.RowKit
set_option linter.unusedVariables false
set_option linter.unusedSimpArgs false

def cren : Go.Shelf.Ren := ⟨fun | 316 => 180 | n => n, fun | 0 => 0 | 3 => 3 | 4 => 4 | 5 => 5 | 9 => 9 | 37 => 215 | 127 => 266 | n => n, fun n => n⟩
theorem clays : Go.Proofs.LaysM.n316 Tryz.prog cren := {
  mixed := by kernel_rfl
  f316 := Tryz.func180.trans (congrArg some (by kernel_rfl))
  t0 := Tryz.underlying0
  a0 := Tryz.isAgg0
  z0 := Tryz.sizeOf0
  v0 := Tryz.zeroValue0
  i0 := by kernel_rfl
  t3 := Tryz.underlying3
  a3 := Tryz.isAgg3
  z3 := Tryz.sizeOf3
  v3 := Tryz.zeroValue3
  i3 := by kernel_rfl
  t4 := Tryz.underlying4
  a4 := Tryz.isAgg4
  z4 := Tryz.sizeOf4
  v4 := Tryz.zeroValue4
  i4 := by kernel_rfl
  t5 := Tryz.underlying5
  a5 := Tryz.isAgg5
  z5 := Tryz.sizeOf5
  v5 := Tryz.zeroValue5
  i5 := by kernel_rfl
  t9 := Tryz.underlying9
  a9 := Tryz.isAgg9
  z9 := Tryz.sizeOf9
  v9 := Tryz.zeroValue9
  i9 := by kernel_rfl
  t37 := Tryz.underlying215
  a37 := Tryz.isAgg215
  z37 := Tryz.sizeOf215
  v37 := Tryz.zeroValue215
  i37 := by kernel_rfl
  t127 := Tryz.underlying266
  a127 := Tryz.isAgg266
  z127 := Tryz.sizeOf266
  v127 := Tryz.zeroValue266
  i127 := by kernel_rfl }
theorem clone_any (s : ByteArray) (w : World) (hs : s.size ≤ 281474976710656) : Calls Tryz.prog 142 #[.string s] w fun e w' => e = .returned (.string s) ∧ Below w.heap.size w w' := by
  have HC : Hid (Calls Tryz.prog 180 #[.string s] w fun e w' => e = .returned (.string s) ∧ Below w.heap.size w w') := Any.stringslite_Clone clays s w hs
  go_enter Tryz.func142, Tryz.ntmps142
  go_wp2_with fail
  refine HC.out.mono ?_
  rintro e w1 ⟨rfl, hb⟩
  have HB := Lib.hid hb
  clear hb
  go_wp2
  go_ret
  exact ⟨rfl, HB.out⟩
end ND
end Go.Proofs.YtdjlflinepefbabGreat
