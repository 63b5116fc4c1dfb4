/- errors.as and errors.As at the target of fault.Code, a pointer to an api.Errno: whatever tree the error is, the first number inside is found, or none. -/
import Derived.Test.YtolcacmkageidacDoorErBase
namespace Go.Proofs.YtolcacmkageidacDoor
namespace ER
open Go.RowKit Go.Extern.Stop Go.Stop Go.Extern
set_option linter.unusedVariables false
set_option linter.unusedSimpArgs false

/-! ### What the entries answer at this target -/
theorem n_valueOf (t : Addr) (w : World) : (ReflectliteValue.unpack (.iface 67 (.pointer (some t)))).run Tryd.prog w
    = .ok (.agg #[.pointer (some ⟨1, 67, none⟩), .pointer (some ⟨w.heap.size, 0, none⟩), .int .u64 150]) (w.alloc (.cells #[.pointer (some t)] 67)) := by kernel_rfl
theorem n_type (a : Addr) (w : World) : (ReflectliteValue.methodAny (ReflectliteValue.valueError "reflectlite.Value.Type" 0) (fun t _ _ _ => ReflectliteType.toType t) #[.agg #[.pointer (some ⟨1, 67, none⟩), .pointer (some a), .int .u64 150]]).run Tryd.prog w
    = .ok (.iface 124 (.agg #[.pointer (some ⟨1, 67, none⟩)])) w := by kernel_rfl
theorem n_kindP (w : World) : ((ReflectliteType.abiMethod fun t => (fun a : Nat => Value.int IntKind.u8 (a : Int)) <$> Rtype.kind t) #[.pointer (some ⟨1, 67, none⟩)]).run Tryd.prog w = .ok (.int .u8 22) w := by kernel_rfl
theorem n_kindE (w : World) : ((ReflectliteType.abiMethod fun t => (fun a : Nat => Value.int IntKind.u8 (a : Int)) <$> Rtype.kind t) #[.pointer (some ⟨1, 26, none⟩)]).run Tryd.prog w = .ok (.int .u8 2) w := by kernel_rfl
theorem n_parts (a : Addr) (w : World) : (ReflectliteValue.parts (.agg #[.pointer (some ⟨1, 67, none⟩), .pointer (some a), .int .u64 150])).run Tryd.prog w = .ok (some (67, a, 150)) w := by kernel_rfl
theorem n_isNil (a p : Addr) (W : World) (ha : W.cell? a = some (.pointer (some p))) :
    (ReflectliteValue.method (ReflectliteValue.valueError "reflectlite.Value.IsNil" 0) ReflectliteValue.isNil #[.agg #[.pointer (some ⟨1, 67, none⟩), .pointer (some a), .int .u64 150]]).run Tryd.prog W = .ok (.bool false) W := by
  rw [rlm]
  simp only [Sem.run_bind, n_parts, Result.andThen]
  simp [ReflectliteValue.isNil, loadVar, isAgg, underlying, Tryd.underlying67, ha, Result.andThen]
theorem n_elemT (w : World) : (ReflectliteType.method ReflectliteType.elem #[.agg #[.pointer (some ⟨1, 67, none⟩)]]).run Tryd.prog w = .ok (.iface 124 (.agg #[.pointer (some ⟨1, 26, none⟩)])) w := by kernel_rfl
theorem n_implements (w : World) : (ReflectliteType.relation "Implements" ReflectliteType.implements_ #[.agg #[.pointer (some ⟨1, 26, none⟩)], .iface 124 (.agg #[.pointer (some ⟨1, 32, none⟩)])]).run Tryd.prog w = .ok (.bool true) w := by kernel_rfl
theorem n_assignN (w : World) : (ReflectliteType.relation "AssignableTo" ReflectliteType.assignableTo #[.agg #[.pointer (some ⟨1, 26, none⟩)], .iface 124 (.agg #[.pointer (some ⟨1, 26, none⟩)])]).run Tryd.prog w = .ok (.bool true) w := by kernel_rfl
theorem n_assignF (w : World) : (ReflectliteType.relation "AssignableTo" ReflectliteType.assignableTo #[.agg #[.pointer (some ⟨1, 87, none⟩)], .iface 124 (.agg #[.pointer (some ⟨1, 26, none⟩)])]).run Tryd.prog w = .ok (.bool false) w := by kernel_rfl
theorem n_unpack (c : Int) (w : World) : (ReflectliteValue.unpack (.iface 26 (.int .i64 c))).run Tryd.prog w
    = .ok (.agg #[.pointer (some ⟨1, 26, none⟩), .pointer (some ⟨w.heap.size, 0, none⟩), .int .u64 130]) (w.alloc (.cells #[.int .i64 c] 26)) := by kernel_rfl
theorem n_elemOf (w : World) : (Rtype.elem? 67).run Tryd.prog w = .ok (some 26) w := by kernel_rfl
theorem n_mk (p : Addr) (w : World) : (ReflectliteValue.mk 26 p ReflectliteValue.flagAddr).run Tryd.prog w = .ok (.agg #[.pointer (some ⟨1, 26, none⟩), .pointer (some p), .int .u64 386]) w := by kernel_rfl
theorem n_elemV (a p : Addr) (W : World) (ha : W.cell? a = some (.pointer (some p))) :
    (ReflectliteValue.method (ReflectliteValue.valueError "reflectlite.Value.Elem" 0) ReflectliteValue.elem #[.agg #[.pointer (some ⟨1, 67, none⟩), .pointer (some a), .int .u64 150]]).run Tryd.prog W
      = .ok (.agg #[.pointer (some ⟨1, 26, none⟩), .pointer (some p), .int .u64 386]) W := by
  rw [rlm]
  simp only [Sem.run_bind, n_parts, Result.andThen]
  simp [ReflectliteValue.elem, loadVar, isAgg, underlying, Tryd.underlying67, ha, Result.andThen, n_elemOf, n_mk]
theorem n_partsA (a : Addr) (w : World) : (ReflectliteValue.parts (.agg #[.pointer (some ⟨1, 26, none⟩), .pointer (some a), .int .u64 386])).run Tryd.prog w = .ok (some (26, a, 386)) w := by kernel_rfl
theorem n_partsE (a : Addr) (w : World) : (ReflectliteValue.parts (.agg #[.pointer (some ⟨1, 26, none⟩), .pointer (some a), .int .u64 130])).run Tryd.prog w = .ok (some (26, a, 130)) w := by kernel_rfl
theorem n_direct (w : World) : (Rtype.directlyAssignable 26 26).run Tryd.prog w = .ok true w := by kernel_rfl
theorem n_set (ta b : Addr) (c : Int) (old : Value) (W : World) (hb : W.cell? b = some (.int .i64 c)) (ht : W.cell? ta = some old) (hf : W.frozen? ta = false) :
    (ReflectliteValue.set #[.agg #[.pointer (some ⟨1, 26, none⟩), .pointer (some ta), .int .u64 386], .agg #[.pointer (some ⟨1, 26, none⟩), .pointer (some b), .int .u64 130]]).run Tryd.prog W
      = .ok (.tuple #[]) (W.setCell ta (.int .i64 c)) := by
  rw [rls]
  simp only [Sem.run_bind, n_partsA, n_partsE, Result.andThen]
  simp [ReflectliteValue.flagAddr, loadVar, isAgg, underlying, Tryd.underlying26, hb, Result.andThen, n_direct, storeVar, Value.cells, storeCells, Addr.add]
  rw [run_store Tryd.prog W ta _ _ (by rfl)]
  simp [ht, hf]

/-- How errors.as ends: nothing found, or the target's variable holds what was found. -/
def AsEnd (t : Addr) (w : World) (o : Option Value) (e : Ending) (w' : World) : Prop :=
  (o = none → e = .returned (.bool false) ∧ Below w.heap.size w w') ∧
  (∀ x, o = some x → e = .returned (.bool true) ∧ ∃ w1, Below w.heap.size w w1 ∧ w' = w1.setCell t x)

set_option maxRecDepth 100000 in
set_option maxHeartbeats 4000000 in
theorem as_num (n : Nat) : ∀ (E : Er) (v : Value) (t va : Addr) (old : Value) (w : World) (B : Nat), E.dep ≤ n → IsErr w B E v → B ≤ t.block → w.cell? va = some (.pointer (some t)) → w.cell? t = some old → w.frozen? t = false →
    Calls Tryd.prog 51 #[v, .iface 67 (.pointer (some t)), .agg #[.pointer (some ⟨1, 67, none⟩), .pointer (some va), .int .u64 150], .iface 124 (.agg #[.pointer (some ⟨1, 26, none⟩)])] w (AsEnd t w (E.code.map (Value.int .i64))) := by
  induction n using Nat.strongRecOn with
  | _ n ih =>
  intro E v t va old w B hdep hE hBt hva ht hf
  have HIH := Lib.hid ih
  clear ih
  have htl : t.block < w.heap.size := World.block_lt_of_cell? w t ht
  have hval : va.block < w.heap.size := World.block_lt_of_cell? w va hva
  have HDEP := Lib.hid hdep
  clear hdep
  have hbox : ∀ j, ((w.alloc (.cells #[.pointer (some ⟨1, 67, none⟩), .pointer (some va), .int .u64 150] 101)).cell? ⟨w.heap.size, j, none⟩) = (#[.pointer (some ⟨1, 67, none⟩), .pointer (some va), .int .u64 150] : Array Value)[j]? := fun j => cell_of_row _ _ _ _ _ _ (heap_alloc_new w _)
  have HBOX := Lib.hid hbox
  clear hbox
  have e1 := entTypeOf
  have e2 := entAssignableTo
  have e3 := entElem
  have e4 := entValueOf
  have e5 := entSet
  have m1 := rtAssignableTo
  go_enter Tryd.func51, Tryd.ntmps51
  go_wp2
  go_loopg [0] E.dep (fun g v' wr => ∃ E' : Er, g = E'.dep ∧ E'.dep ≤ n ∧ IsErr wr B E' v' ∧ Hid (E'.code = E.code) ∧ Below (w.heap.size + 1) (w.alloc (.cells #[.pointer (some ⟨1, 67, none⟩), .pointer (some va), .int .u64 150] 101)) wr)
  case atStart => exact ⟨E, rfl, HDEP.out, hE.below ((Below.refl _ _).alloc (by omega) _), rfl, Below.refl _ _⟩
  case round =>
    obtain ⟨E', rfl, hd', hE', HC, hb⟩ := hrel
    have b0 := hb.cell (p := ⟨w.heap.size, 0, none⟩) (Nat.lt_succ_self _)
    have b1 := hb.cell (p := ⟨w.heap.size, 1, none⟩) (Nat.lt_succ_self _)
    have b2 := hb.cell (p := ⟨w.heap.size, 2, none⟩) (Nat.lt_succ_self _)
    rw [HBOX.out] at b0 b1 b2
    have b0' : wr.cell? ⟨w.heap.size, 0, none⟩ = some (.pointer (some ⟨1, 67, none⟩)) := b0
    have b1' : wr.cell? ⟨w.heap.size, 1, none⟩ = some (.pointer (some va)) := b1
    have b2' : wr.cell? ⟨w.heap.size, 2, none⟩ = some (.int .u64 150) := b2
    clear b0 b1 b2
    have hsz : w.heap.size + 1 ≤ wr.heap.size := by have := hb.size; simpa using this
    have hva' : wr.cell? va = some (.pointer (some t)) := by rw [hb.cell (by omega), World.cell?_alloc_lt _ _ _ hval]; exact hva
    have ht' : wr.cell? t = some old := by rw [hb.cell (by omega), World.cell?_alloc_lt _ _ _ htl]; exact ht
    have hf' : wr.frozen? t = false := by rw [hb.frozen (by omega), World.frozen?_alloc_old _ _ _ (by omega)]; exact hf
    have hbel : Below w.heap.size w wr := ((Below.refl _ _).alloc (Nat.le_refl _) _).trans (hb.mono (Nat.le_succ _))
    have HBEL := Lib.hid hbel
    have HB := Lib.hid hb
    clear hbel hva ht hf hE hb
    have htl' : t.block < wr.heap.size := by omega
    cases E' with
    | num c =>
      obtain ⟨rfl, hwf⟩ := hE'
      have g1 := typeOfN
      have g2 := n_assignN
      have g3 := n_elemV va t wr hva'
      have g4 := n_unpack
      have g5 := n_set t ⟨wr.heap.size, 0, none⟩ c old (wr.alloc (.cells #[.int .i64 c] 26)) (by simp) (by rw [World.cell?_alloc_lt _ _ _ htl']; exact ht') (by rw [World.frozen?_alloc_old _ _ _ (Nat.ne_of_lt htl')]; exact hf')
      clear ht' hf' hva'
      go_wp2
      go_ret
      have hc : E.code = some c := HC.out.symm
      refine ⟨fun h => (by rw [hc] at h; cases h), fun x h => ?_⟩
      rw [hc] at h
      cases h
      exact ⟨rfl, _, HBEL.out.alloc (by omega) _, rfl⟩
    | str =>
      exact hE'.elim
    | fault op m e =>
      obtain ⟨b, x, rfl, hbB, hcells, hm, hop, he⟩ := hE'
      obtain ⟨tx, vx, rfl⟩ := he.iface
      have g1 := typeOfF
      have g2 := n_assignF
      have g3 := noAsF
      have g4 := hasUnF
      have g5 := methodUnF
      have c2 : wr.cell? ⟨b, 2, none⟩ = some (.iface tx vx) := by rw [cell_of_row _ _ _ _ _ _ hcells]; rfl
      have HE := Lib.hid he
      clear he hcells
      go_wp2
      go_roundg e.dep
      case measure => exact Nat.lt_succ_self _
      case rel => exact ⟨e, rfl, Nat.le_of_succ_le hd', HE.out, HC, HB.out⟩
    | join k f =>
      exact hE'.elim

set_option maxRecDepth 100000 in
set_option maxHeartbeats 4000000 in
theorem As_num (E : Er) (v : Value) (t : Addr) (old : Value) (w : World) (B : Nat) (hE : IsErr w B E v) (hBt : B ≤ t.block) (hg : w.cell? ⟨0, 0, none⟩ = some (.iface 124 (.agg #[.pointer (some ⟨1, 32, none⟩)]))) (ht : w.cell? t = some old) (hf : w.frozen? t = false) :
    Calls Tryd.prog 27 #[v, .iface 67 (.pointer (some t))] w (AsEnd t w (E.code.map (Value.int .i64))) := by
  obtain ⟨tx, vx, rfl⟩ := hE.iface
  have htl : t.block < w.heap.size := World.block_lt_of_cell? w t ht
  have hgl : 0 < w.heap.size := World.block_lt_of_cell? w _ hg
  obtain ⟨w1, hw1⟩ : ∃ w1, w1 = w.alloc (.cells #[.pointer (some t)] 67) := ⟨_, rfl⟩
  obtain ⟨w2, hw2⟩ : ∃ w2, w2 = w1.alloc (.cells #[.pointer (some ⟨1, 67, none⟩), .pointer (some ⟨w.heap.size, 0, none⟩), .int .u64 150] 101) := ⟨_, rfl⟩
  have hb1 : Below w.heap.size w w1 := by rw [hw1]; exact (Below.refl _ _).alloc (Nat.le_refl _) _
  have hs1 : w1.heap.size = w.heap.size + 1 := by rw [hw1]; simp
  have hs2 : w2.heap.size = w.heap.size + 2 := by rw [hw2]; simp [hs1]
  have hb2' : Below w1.heap.size w1 w2 := by rw [hw2]; exact (Below.refl _ _).alloc (Nat.le_refl _) _
  have hb2 : Below w.heap.size w w2 := hb1.trans (hb2'.mono (by omega))
  have hc1 : w2.cell? ⟨w.heap.size, 0, none⟩ = some (.pointer (some t)) := by
    rw [hb2'.cell (by show w.heap.size < _; omega), hw1]; simp
  have IH := Lib.hid (as_num E.dep E (.iface tx vx) t ⟨w.heap.size, 0, none⟩ old w2 B (Nat.le_refl _) (hE.below (hb2.mono (by omega))) hBt hc1 (by rw [hb2.cell htl]; exact ht) (by rw [hb2.frozen htl]; exact hf))
  have hg2 : w2.cell? ⟨0, 0, none⟩ = some (.iface 124 (.agg #[.pointer (some ⟨1, 32, none⟩)])) := by rw [hb2.cell hgl]; exact hg
  have hn := n_isNil ⟨w.heap.size, 0, none⟩ t w2 hc1
  have HB2 := Lib.hid hb2
  have HS2 := Lib.hid hs2
  clear hE hBt hg ht hf hb1 hs1 hs2 hb2' hb2 hc1 htl hgl
  subst hw1
  subst hw2
  have e1 := entValueOf
  have e2 := entType
  have e3 := entIsNil
  have e4 := entKind
  have e5 := entElemT
  have e6 := entImplements
  have m1 := rtKind
  have m2 := rtElem
  have m3 := rtImplements
  have g1 := n_valueOf
  have g2 := n_type
  have g3 := n_kindP
  have g4 := n_kindE
  have g5 := n_elemT
  have g6 := n_implements
  cases hc : E.code with
  | none =>
    rw [hc] at IH
    clear hc
    go_enter Tryd.func27, Tryd.ntmps27
    go_wp2_with (first | (go_at_call 51; refine IH.out.mono ?_; rintro e w' hend; obtain ⟨rfl, hb⟩ := hend.1 rfl; clear hend) | go_in)
    go_ret
    exact ⟨fun _ => ⟨rfl, HB2.out.trans (hb.mono (by simp; omega))⟩, fun x h => by cases h⟩
  | some c =>
    rw [hc] at IH
    clear hc
    go_enter Tryd.func27, Tryd.ntmps27
    go_wp2_with (first | (go_at_call 51; refine IH.out.mono ?_; rintro e w' hend; obtain ⟨rfl, w3, hb, rfl⟩ := hend.2 _ rfl; clear hend) | go_in)
    go_ret
    refine ⟨fun h => (by cases h), fun x h => ?_⟩
    cases h
    exact ⟨rfl, w3, HB2.out.trans (hb.mono (by simp; omega)), rfl⟩

/-- errors.As of no error. -/
theorem As_nil (t : Value) (w : World) :
    Calls Tryd.prog 27 #[.nilIface, t] w fun e w' => e = .returned (.bool false) ∧ w = w' := by
  go_enter Tryd.func27, Tryd.ntmps27
  go_wp2
  go_ret
  exact ⟨rfl, rfl⟩
end ER
end Go.Proofs.YtolcacmkageidacDoor
