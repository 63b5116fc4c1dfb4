/- errors.is and errors.Is where the target is a number (an api.Errno): whatever tree the error is, they answer whether the number is inside. -/
import Derived.Test.YtolcacmkageidacDoorErBase
namespace Go.Proofs.YtolcacmkageidacDoor
namespace ER
open Go.RowKit Go.Extern.Stop Go.Stop Go.Extern
set_option linter.unusedVariables false
set_option linter.unusedSimpArgs false

/-- '==' at two interface values of one integer type: as the numbers are. -/
theorem run_equalIn_nums {P : Program} (w : World) (d : Nat) {ti tn : TypeId} {ms : Array (String × TypeId)} {i : TypeInfo} {k : IntKind} (a b : Int)
    (hi : P.underlying ti = some (.interface ms)) (hn : P.underlying tn = some (.int k)) (hinfo : P.info? tn = some i) (hcomp : i.comparable = true) :
    (Op.equalIn (d + 2) ti (.iface tn (.int k a)) (.iface tn (.int k b))).run P w = .ok (a == b) w := by
  simp [Op.equalIn, run_underlying hi, run_underlying hn, typeInfo, hinfo, hcomp]
theorem run_eql_nums {P : Program} (w : World) {ti tn : TypeId} {ms : Array (String × TypeId)} {i : TypeInfo} {k : IntKind} (a b : Int)
    (hi : P.underlying ti = some (.interface ms)) (hn : P.underlying tn = some (.int k)) (hinfo : P.info? tn = some i) (hcomp : i.comparable = true) :
    (binOp .eql ti (.iface tn (.int k a)) (.iface tn (.int k b))).run P w = .ok (.bool (a == b)) w := by
  simp only [binOp]
  simp [Op.equal, Op.maxDepth, run_equalIn_nums w 9998 a b hi hn hinfo hcomp]
theorem compE : (Tryd.prog.info? 26).map (·.comparable) = some true := by kernel_rfl
theorem eqlNums (a b : Int) (w : World) : (binOp .eql 32 (.iface 26 (.int .i64 a)) (.iface 26 (.int .i64 b))).run Tryd.prog w = .ok (.bool (a == b)) w := by
  obtain ⟨i, hi, hcmp⟩ := Option.map_eq_some_iff.1 compE
  exact run_eql_nums w a b Tryd.underlying32 Tryd.underlying26 hi hcmp
theorem eqlF (x y : Value) (w : World) : (binOp .eql 32 (.iface 87 x) (.iface 26 y)).run Tryd.prog w = .ok (.bool false) w :=
  run_eql_iface_types 87 26 x y Tryd.underlying32 (by decide) w
theorem noIsN (v : Value) (xT : TypeId) (w : World) : (Instr.typeAssert (.iface 26 v) xT 144 true).run Tryd.prog w = .ok (.tuple #[.nilIface, .bool false]) w := run_typeAssert_lacksB Tryd.underlying144 (by kernel_rfl) (by kernel_rfl) v xT w
theorem noIsF (v : Value) (xT : TypeId) (w : World) : (Instr.typeAssert (.iface 87 v) xT 144 true).run Tryd.prog w = .ok (.tuple #[.nilIface, .bool false]) w := run_typeAssert_lacksB Tryd.underlying144 (by kernel_rfl) (by kernel_rfl) v xT w

theorem ret_bool {a b : Bool} (h : a = b) : Ending.returned (.bool a) = Ending.returned (.bool b) := by rw [h]

set_option maxRecDepth 100000 in
set_option maxHeartbeats 4000000 in
theorem is_num (n : Nat) : ∀ (E : Er) (v : Value) (x : Int) (w : World) (B : Nat), E.dep ≤ n → IsErr w B E v →
    Calls Tryd.prog 69 #[v, .iface 26 (.int .i64 x), .bool true] w fun e w' => e = .returned (.bool (E.has x)) ∧ w = w' := by
  induction n using Nat.strongRecOn with
  | _ n ih =>
  intro E v x w B hdep hE
  have HIH := Lib.hid ih
  clear ih
  have HDEP := Lib.hid hdep
  clear hdep
  go_enter Tryd.func69, Tryd.ntmps69
  go_wp2
  go_loopg [0] E.dep (fun g v' wr => ∃ E' : Er, g = E'.dep ∧ E'.dep ≤ n ∧ IsErr wr B E' v' ∧ Hid (E'.has x = E.has x) ∧ w = wr)
  case atStart => exact ⟨E, rfl, HDEP.out, hE, rfl, rfl⟩
  case round =>
    obtain ⟨E', rfl, hd', hE', HC, rfl⟩ := hrel
    cases E' with
    | num c =>
      obtain ⟨rfl, hwf⟩ := hE'
      have g1 := eqlNums
      have g3 := noIsN
      have g4 := noUnN
      have g5 := noUnsN
      have hc : E.has x = (c == x) := HC.out.symm
      by_cases hcx : c = x
      · have hb : (c == x) = true := by simp [hcx]
        have HF : Hid (E.has x = true) := hc.trans hb
        clear hc hcx
        go_wp2
        go_ret
        exact ⟨ret_bool HF.out.symm, rfl⟩
      · have hb : (c == x) = false := by simp [hcx]
        have HF : Hid (E.has x = false) := hc.trans hb
        clear hc hcx
        go_wp2
        go_ret
        exact ⟨ret_bool HF.out.symm, rfl⟩
    | str =>
      exact hE'.elim
    | fault op m e =>
      obtain ⟨b, y, rfl, hbB, hcells, hm, hop, he⟩ := hE'
      obtain ⟨tx, vx, rfl⟩ := he.iface
      have g1 := eqlF
      have g3 := noIsF
      have g4 := hasUnF
      have g5 := methodUnF
      have c2 : w.cell? ⟨b, 2, none⟩ = some (.iface tx vx) := by rw [cell_of_row _ _ _ _ _ _ hcells]; rfl
      have HE := Lib.hid he
      clear he hcells
      go_wp2
      go_roundg e.dep
      case measure => exact Nat.lt_succ_self _
      case rel => exact ⟨e, rfl, Nat.le_of_succ_le hd', HE.out, HC, rfl⟩
    | join k f =>
      exact hE'.elim

set_option maxRecDepth 100000 in
/-- errors.Is of an error and a number. -/
theorem Is_num (E : Er) (v : Value) (x : Int) (w : World) (B : Nat) (hE : IsErr w B E v) :
    Calls Tryd.prog 58 #[v, .iface 26 (.int .i64 x)] w fun e w' => e = .returned (.bool (E.has x)) ∧ w = w' := by
  obtain ⟨tx, vx, rfl⟩ := hE.iface
  have IH := Lib.hid (is_num E.dep E (.iface tx vx) x w B (Nat.le_refl _) hE)
  clear hE
  have e1 := entTypeOf
  have e2 := entComparable
  have g1 := typeOfN
  have g2 := comparableN
  have m1 := rtComparable
  obtain ⟨b, hb⟩ : ∃ b, b = E.has x := ⟨_, rfl⟩
  rw [← hb] at IH ⊢
  clear hb
  go_enter Tryd.func58, Tryd.ntmps58
  go_wp2_with (first | (go_at_call 69; refine IH.out.mono ?_; rintro e w' ⟨rfl, rfl⟩) | go_in)
  go_ret
  exact ⟨rfl, rfl⟩
set_option maxRecDepth 100000 in
/-- errors.Is of no error and a number. -/
theorem Is_nil (x : Int) (w : World) :
    Calls Tryd.prog 58 #[.nilIface, .iface 26 (.int .i64 x)] w fun e w' => e = .returned (.bool false) ∧ w = w' := by
  have hn := fun w => run_eql_iface_nil_left (P := Tryd.prog) w 26 (.int .i64 x) Tryd.underlying32
  go_enter Tryd.func58, Tryd.ntmps58
  go_wp2
  go_ret
  exact ⟨rfl, rfl⟩
end ER
end Go.Proofs.YtolcacmkageidacDoor
