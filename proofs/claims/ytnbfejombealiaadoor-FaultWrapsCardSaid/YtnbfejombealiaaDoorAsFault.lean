/- errors.as and errors.As at the target of fault.Trail, a pointer to a *fault.Fault: whatever tree the error is, the first step inside is found, or none. -/
import Derived.Test.YtnbfejombealiaaDoorAsNum
namespace Go.Proofs.YtnbfejombealiaaDoor
namespace ER
open Go.RowKit Go.Extern.Stop Go.Stop Go.Extern
set_option linter.unusedVariables false
set_option linter.unusedSimpArgs false

/-! ### What the entries answer at this target -/
theorem f_valueOf (t : Addr) (w : World) : (ReflectliteValue.unpack (.iface 58 (.pointer (some t)))).run Tryd.prog w
    = .ok (.agg #[.pointer (some ⟨1, 58, none⟩), .pointer (some ⟨w.heap.size, 0, none⟩), .int .u64 150]) (w.alloc (.cells #[.pointer (some t)] 58)) := by kernel_rfl
theorem f_type (a : Addr) (w : World) : (ReflectliteValue.methodAny (ReflectliteValue.valueError "reflectlite.Value.Type" 0) (fun t _ _ _ => ReflectliteType.toType t) #[.agg #[.pointer (some ⟨1, 58, none⟩), .pointer (some a), .int .u64 150]]).run Tryd.prog w
    = .ok (.iface 84 (.agg #[.pointer (some ⟨1, 58, none⟩)])) w := by kernel_rfl
theorem f_kindP (w : World) : ((ReflectliteType.abiMethod fun t => (fun a : Nat => Value.int IntKind.u8 (a : Int)) <$> Rtype.kind t) #[.pointer (some ⟨1, 58, none⟩)]).run Tryd.prog w = .ok (.int .u8 22) w := by kernel_rfl
theorem f_kindE (w : World) : ((ReflectliteType.abiMethod fun t => (fun a : Nat => Value.int IntKind.u8 (a : Int)) <$> Rtype.kind t) #[.pointer (some ⟨1, 57, none⟩)]).run Tryd.prog w = .ok (.int .u8 22) w := by kernel_rfl
theorem f_parts (a : Addr) (w : World) : (ReflectliteValue.parts (.agg #[.pointer (some ⟨1, 58, none⟩), .pointer (some a), .int .u64 150])).run Tryd.prog w = .ok (some (58, a, 150)) w := by kernel_rfl
theorem f_isNil (a p : Addr) (W : World) (ha : W.cell? a = some (.pointer (some p))) :
    (ReflectliteValue.method (ReflectliteValue.valueError "reflectlite.Value.IsNil" 0) ReflectliteValue.isNil #[.agg #[.pointer (some ⟨1, 58, none⟩), .pointer (some a), .int .u64 150]]).run Tryd.prog W = .ok (.bool false) W := by
  rw [rlm]
  simp only [Sem.run_bind, f_parts, Result.andThen]
  simp [ReflectliteValue.isNil, loadVar, isAgg, underlying, Tryd.underlying58, ha, Result.andThen]
theorem f_elemT (w : World) : (ReflectliteType.method ReflectliteType.elem #[.agg #[.pointer (some ⟨1, 58, none⟩)]]).run Tryd.prog w = .ok (.iface 84 (.agg #[.pointer (some ⟨1, 57, none⟩)])) w := by kernel_rfl
theorem f_implements (w : World) : (ReflectliteType.relation "Implements" ReflectliteType.implements_ #[.agg #[.pointer (some ⟨1, 57, none⟩)], .iface 84 (.agg #[.pointer (some ⟨1, 26, none⟩)])]).run Tryd.prog w = .ok (.bool true) w := by kernel_rfl
theorem f_assignN (w : World) : (ReflectliteType.relation "AssignableTo" ReflectliteType.assignableTo #[.agg #[.pointer (some ⟨1, 30, none⟩)], .iface 84 (.agg #[.pointer (some ⟨1, 57, none⟩)])]).run Tryd.prog w = .ok (.bool false) w := by kernel_rfl
theorem f_assignF (w : World) : (ReflectliteType.relation "AssignableTo" ReflectliteType.assignableTo #[.agg #[.pointer (some ⟨1, 57, none⟩)], .iface 84 (.agg #[.pointer (some ⟨1, 57, none⟩)])]).run Tryd.prog w = .ok (.bool true) w := by kernel_rfl
theorem f_assignS (w : World) : (ReflectliteType.relation "AssignableTo" ReflectliteType.assignableTo #[.agg #[.pointer (some ⟨1, 63, none⟩)], .iface 84 (.agg #[.pointer (some ⟨1, 57, none⟩)])]).run Tryd.prog w = .ok (.bool false) w := by kernel_rfl
theorem f_assignJ (w : World) : (ReflectliteType.relation "AssignableTo" ReflectliteType.assignableTo #[.agg #[.pointer (some ⟨1, 80, none⟩)], .iface 84 (.agg #[.pointer (some ⟨1, 57, none⟩)])]).run Tryd.prog w = .ok (.bool false) w := by kernel_rfl
theorem f_unpack (c : Addr) (w : World) : (ReflectliteValue.unpack (.iface 57 (.pointer (some c)))).run Tryd.prog w
    = .ok (.agg #[.pointer (some ⟨1, 57, none⟩), .pointer (some ⟨w.heap.size, 0, none⟩), .int .u64 150]) (w.alloc (.cells #[.pointer (some c)] 57)) := by kernel_rfl
theorem f_elemOf (w : World) : (Rtype.elem? 58).run Tryd.prog w = .ok (some 57) w := by kernel_rfl
theorem f_mk (p : Addr) (w : World) : (ReflectliteValue.mk 57 p ReflectliteValue.flagAddr).run Tryd.prog w = .ok (.agg #[.pointer (some ⟨1, 57, none⟩), .pointer (some p), .int .u64 406]) w := by kernel_rfl
theorem f_elemV (a p : Addr) (W : World) (ha : W.cell? a = some (.pointer (some p))) :
    (ReflectliteValue.method (ReflectliteValue.valueError "reflectlite.Value.Elem" 0) ReflectliteValue.elem #[.agg #[.pointer (some ⟨1, 58, none⟩), .pointer (some a), .int .u64 150]]).run Tryd.prog W
      = .ok (.agg #[.pointer (some ⟨1, 57, none⟩), .pointer (some p), .int .u64 406]) W := by
  rw [rlm]
  simp only [Sem.run_bind, f_parts, Result.andThen]
  simp [ReflectliteValue.elem, loadVar, isAgg, underlying, Tryd.underlying58, ha, Result.andThen, f_elemOf, f_mk]
theorem f_partsA (a : Addr) (w : World) : (ReflectliteValue.parts (.agg #[.pointer (some ⟨1, 57, none⟩), .pointer (some a), .int .u64 406])).run Tryd.prog w = .ok (some (57, a, 406)) w := by kernel_rfl
theorem f_partsE (a : Addr) (w : World) : (ReflectliteValue.parts (.agg #[.pointer (some ⟨1, 57, none⟩), .pointer (some a), .int .u64 150])).run Tryd.prog w = .ok (some (57, a, 150)) w := by kernel_rfl
theorem f_direct (w : World) : (Rtype.directlyAssignable 57 57).run Tryd.prog w = .ok true w := by kernel_rfl
theorem f_set (ta b c : Addr) (old : Value) (W : World) (hb : W.cell? b = some (.pointer (some c))) (ht : W.cell? ta = some old) (hf : W.frozen? ta = false) :
    (ReflectliteValue.set #[.agg #[.pointer (some ⟨1, 57, none⟩), .pointer (some ta), .int .u64 406], .agg #[.pointer (some ⟨1, 57, none⟩), .pointer (some b), .int .u64 150]]).run Tryd.prog W
      = .ok (.tuple #[]) (W.setCell ta (.pointer (some c))) := by
  rw [rls]
  simp only [Sem.run_bind, f_partsA, f_partsE, Result.andThen]
  simp [ReflectliteValue.flagAddr, loadVar, isAgg, underlying, Tryd.underlying57, hb, Result.andThen, f_direct, storeVar, Value.cells, storeCells, Addr.add]
  rw [run_store Tryd.prog W ta _ _ (by rfl)]
  simp [ht, hf]

/-- How errors.as ends: no step found, or the target's variable points to the first one. -/
def AsEndF (E : Er) (B : Nat) (t : Addr) (w : World) (e : Ending) (w' : World) : Prop :=
  (E.first = none → e = .returned (.bool false) ∧ Below w.heap.size w w') ∧
  (∀ op m E1, E.first = some (op, m, E1) → ∃ b x, b < B ∧ w.heap[b]? = some (.cells #[.string op, .int .i64 m, x] 60 (0, 0)) ∧ (Lit.int .i64 m).wf = true ∧ op.size ≤ maxLen ∧ IsErr w B E1 x ∧
    e = .returned (.bool true) ∧ ∃ w1, Below w.heap.size w w1 ∧ w' = w1.setCell t (.pointer (some ⟨b, 0, none⟩)))
theorem AsEndF.no_ {E : Er} {B : Nat} {t : Addr} {w : World} {e : Ending} {w' : World} (h : AsEndF E B t w e w') (hE : E.first = none) : e = .returned (.bool false) ∧ Below w.heap.size w w' := h.1 hE
theorem AsEndF.yes_ {E E1 : Er} {B : Nat} {t : Addr} {w : World} {e : Ending} {w' : World} {op : ByteArray} {m : Int} (h : AsEndF E B t w e w') (hE : E.first = some (op, m, E1)) :
    ∃ b x, b < B ∧ w.heap[b]? = some (.cells #[.string op, .int .i64 m, x] 60 (0, 0)) ∧ (Lit.int .i64 m).wf = true ∧ op.size ≤ maxLen ∧ IsErr w B E1 x ∧
    e = .returned (.bool true) ∧ ∃ w1, Below w.heap.size w w1 ∧ w' = w1.setCell t (.pointer (some ⟨b, 0, none⟩)) := h.2 _ _ _ hE
theorem asEndF_no {E : Er} {B : Nat} {t : Addr} {w w' : World} (hE : E.first = none) (hb : Below w.heap.size w w') : AsEndF E B t w (.returned (.bool false)) w' :=
  ⟨fun _ => ⟨rfl, hb⟩, fun op m E1 h => by rw [hE] at h; cases h⟩
theorem asEndF_yes {E E1 : Er} {B : Nat} {t : Addr} {w wr w1 : World} {op : ByteArray} {m : Int} {b : Nat} {x : Value} (hE : E.first = some (op, m, E1)) (hB : B ≤ w.heap.size) (hwr : Below w.heap.size w wr) (hbB : b < B)
    (hcells : wr.heap[b]? = some (.cells #[.string op, .int .i64 m, x] 60 (0, 0))) (hm : (Lit.int .i64 m).wf = true) (hop : op.size ≤ maxLen) (he : IsErr wr B E1 x) (hb : Below w.heap.size w w1) :
    AsEndF E B t w (.returned (.bool true)) (w1.setCell t (.pointer (some ⟨b, 0, none⟩))) := by
  refine ⟨fun h => (by rw [hE] at h; cases h), fun op' m' E1' h => ?_⟩
  rw [hE] at h
  cases h
  exact ⟨b, x, hbB, (hwr.block b (by omega)).symm.trans hcells, hm, hop, he.keep (fun k hk => (hwr.block k (by omega)).symm), rfl, w1, hb, rfl⟩

set_option maxRecDepth 100000 in
set_option maxHeartbeats 4000000 in
theorem as_fault (n : Nat) : ∀ (E : Er) (v : Value) (t va : Addr) (old : Value) (w : World) (B : Nat), E.dep ≤ n → IsErr w B E v → B ≤ t.block → w.cell? va = some (.pointer (some t)) → w.cell? t = some old → w.frozen? t = false →
    Calls Tryd.prog 31 #[v, .iface 58 (.pointer (some t)), .agg #[.pointer (some ⟨1, 58, none⟩), .pointer (some va), .int .u64 150], .iface 84 (.agg #[.pointer (some ⟨1, 57, none⟩)])] w (AsEndF E B t w) := by
  induction n using Nat.strongRecOn with
  | _ n ih =>
  intro E v t va old w B hdep hE hBt hva ht hf
  have HIH := Lib.hid ih
  clear ih
  have htl : t.block < w.heap.size := World.block_lt_of_cell? w t ht
  have hval : va.block < w.heap.size := World.block_lt_of_cell? w va hva
  have HDEP := Lib.hid hdep
  clear hdep
  have hbox : ∀ j, ((w.alloc (.cells #[.pointer (some ⟨1, 58, none⟩), .pointer (some va), .int .u64 150] 69)).cell? ⟨w.heap.size, j, none⟩) = (#[.pointer (some ⟨1, 58, none⟩), .pointer (some va), .int .u64 150] : Array Value)[j]? := fun j => cell_of_row _ _ _ _ _ _ (heap_alloc_new w _)
  have HBOX := Lib.hid hbox
  clear hbox
  have e1 := entTypeOf
  have e2 := entAssignableTo
  have e3 := entElem
  have e4 := entValueOf
  have e5 := entSet
  have m1 := rtAssignableTo
  go_enter Tryd.func31, Tryd.ntmps31
  go_wp2
  go_loopg [0] E.dep (fun g v' wr => ∃ E' : Er, g = E'.dep ∧ E'.dep ≤ n ∧ IsErr wr B E' v' ∧ Hid (E'.first = E.first) ∧ Below (w.heap.size + 1) (w.alloc (.cells #[.pointer (some ⟨1, 58, none⟩), .pointer (some va), .int .u64 150] 69)) wr)
  case atStart => exact ⟨E, rfl, HDEP.out, hE.below ((Below.refl _ _).alloc (by omega) _), rfl, Below.refl _ _⟩
  case round =>
    obtain ⟨E', rfl, hd', hE', HC, hb⟩ := hrel
    have b0 := hb.cell (p := ⟨w.heap.size, 0, none⟩) (Nat.lt_succ_self _)
    have b1 := hb.cell (p := ⟨w.heap.size, 1, none⟩) (Nat.lt_succ_self _)
    have b2 := hb.cell (p := ⟨w.heap.size, 2, none⟩) (Nat.lt_succ_self _)
    rw [HBOX.out] at b0 b1 b2
    have b0' : wr.cell? ⟨w.heap.size, 0, none⟩ = some (.pointer (some ⟨1, 58, none⟩)) := b0
    have b1' : wr.cell? ⟨w.heap.size, 1, none⟩ = some (.pointer (some va)) := b1
    have b2' : wr.cell? ⟨w.heap.size, 2, none⟩ = some (.int .u64 150) := b2
    clear b0 b1 b2
    have hsz : w.heap.size + 1 ≤ wr.heap.size := by have := hb.size; simpa using this
    have hva' : wr.cell? va = some (.pointer (some t)) := by rw [hb.cell (by omega), World.cell?_alloc_lt _ _ _ hval]; exact hva
    have ht' : wr.cell? t = some old := by rw [hb.cell (by omega), World.cell?_alloc_lt _ _ _ htl]; exact ht
    have hf' : wr.frozen? t = false := by rw [hb.frozen (by omega), World.frozen?_alloc_old _ _ _ (by omega)]; exact hf
    have hbel : Below w.heap.size w wr := ((Below.refl _ _).alloc (Nat.le_refl _) _).trans (hb.mono (Nat.le_succ _))
    have HBEL := Lib.hid hbel
    have HB := Lib.hid hb
    clear hbel hva ht hf hE hb
    have htl' : t.block < wr.heap.size := by omega
    cases E' with
    | num c =>
      obtain ⟨rfl, hwf⟩ := hE'
      have g1 := typeOfN
      have g2 := f_assignN
      have g3 := noAsN
      have g4 := noUnN
      have g5 := noUnsN
      go_wp2
      go_ret
      exact asEndF_no HC.out.symm HBEL.out
    | str =>
      obtain ⟨b, rfl, hbB⟩ := hE'
      have g1 := typeOfS
      have g2 := f_assignS
      have g3 := noAsS
      have g4 := noUnS
      have g5 := noUnsS
      go_wp2
      go_ret
      exact asEndF_no HC.out.symm HBEL.out
    | fault op m e =>
      obtain ⟨b, x, rfl, hbB, hcells, hm, hop, he⟩ := hE'
      have g1 := typeOfF
      have g2 := f_assignF
      have g3 := f_elemV va t wr hva'
      have g4 := f_unpack
      have g5 := f_set t ⟨wr.heap.size, 0, none⟩ ⟨b, 0, none⟩ old (wr.alloc (.cells #[.pointer (some ⟨b, 0, none⟩)] 57)) (by simp) (by rw [World.cell?_alloc_lt _ _ _ htl']; exact ht') (by rw [World.frozen?_alloc_old _ _ _ (Nat.ne_of_lt htl')]; exact hf')
      have HE := Lib.hid he
      have HCE := Lib.hid hcells
      have HM := Lib.hid hm
      clear ht' hf' hva' he hcells hm
      go_wp2
      go_ret
      exact asEndF_yes HC.out.symm (by omega) HBEL.out hbB HCE.out HM.out hop HE.out (HBEL.out.alloc (by omega) _)
    | join k f =>
      obtain ⟨b, g, c, rfl, hbB, hcells, hgB, hk, hkids⟩ := hE'
      have g1 := typeOfJ
      have g2 := f_assignJ
      have g3 := noAsJ
      have g4 := noUnJ
      have g5 := hasUnsJ
      have g6 := methodUnsJ
      have c0 : wr.cell? ⟨b, 0, none⟩ = some (.slice (some ⟨g, 0, none⟩) k c) := by rw [cell_of_row _ _ _ _ _ _ hcells]; rfl
      have HK := Lib.hid hkids
      have HU := Lib.hid (join_unwrap b g k c wr c0)
      clear hkids hcells c0
      go_wp2_with fail
      refine HU.out.mono ?_
      rintro e0 w0 ⟨rfl, rfl⟩
      go_wp2
      obtain ⟨wo, rfl⟩ : ∃ wo : World, wo = wr := ⟨_, rfl⟩
      go_loopw [50] (fun i wx => ∃ j : Nat, j ≤ k ∧ i = .int .i64 j ∧ Below wo.heap.size wo wx ∧ Hid (∀ q, q < j → (f q).first = none)) (fun i _ => k - (intOf i).toNat)
      case atStart => exact ⟨0, Nat.zero_le _, rfl, Below.refl _ _, fun q h => absurd h (Nat.not_lt_zero _)⟩
      case round =>
        obtain ⟨j, hj, rfl, hbx, hnone⟩ := hrel
        obtain ⟨wx, rfl⟩ : ∃ wx : World, wx = wr := ⟨_, rfl⟩
        have hbelx := HBEL.out.trans (hbx.mono (by omega))
        have HBELX := Lib.hid hbelx
        clear hbelx
        by_cases hlt : j < k
        · obtain ⟨x, hx, hex⟩ := HK.out j hlt
          obtain ⟨tx, vx, rfl⟩ := hex.iface
          have hx' : wx.cell? ⟨g, j, none⟩ = some (.iface tx vx) := by rw [hbx.cell (by show g < _; omega)]; exact hx
          have x0 : wx.cell? ⟨w.heap.size, 0, none⟩ = some (.pointer (some ⟨1, 58, none⟩)) := by rw [hbx.cell (by show w.heap.size < _; omega)]; exact b0'
          have x1 : wx.cell? ⟨w.heap.size, 1, none⟩ = some (.pointer (some va)) := by rw [hbx.cell (by show w.heap.size < _; omega)]; exact b1'
          have x2 : wx.cell? ⟨w.heap.size, 2, none⟩ = some (.int .u64 150) := by rw [hbx.cell (by show w.heap.size < _; omega)]; exact b2'
          have IH := Lib.hid (HIH.out (f j).dep (Nat.lt_of_lt_of_le (dep_kid hlt) hd') (f j) (.iface tx vx) t va old wx B (Nat.le_refl _) (hex.below (hbx.mono (by omega))) hBt (by rw [hbx.cell (by omega)]; exact hva') (by rw [hbx.cell (by omega)]; exact ht') (by rw [hbx.frozen (by omega)]; exact hf'))
          clear hex hx b0' b1' b2' hva' ht' hf'
          have hsx := hbx.size
          have HBX := Lib.hid hbx
          clear hbx
          go_wp2_with fail
          refine IH.out.mono ?_
          rintro e w1 hend
          cases hc : (f j).first with
          | none =>
            obtain ⟨rfl, hb1⟩ := hend.no_ hc
            have HN : Hid (∀ q, q < j + 1 → (f q).first = none) := fun q hq => by
              by_cases h : q = j
              · rw [h]; exact hc
              · exact hnone.out q (by omega)
            have HB1 := Lib.hid hb1
            clear hend hc hb1
            go_wp2
            go_roundw
            case rel => exact ⟨j + 1, by omega, by go_num, HBX.out.trans (HB1.out.mono hsx), HN⟩
            case measure => simp [intOf]; omega
          | some z =>
            obtain ⟨op, m, E1⟩ := z
            obtain ⟨b', x', hbB', hcells', hm', hop', he', rfl, w2, hb2, rfl⟩ := hend.yes_ hc
            have hcE : E.first = some (op, m, E1) := by rw [← HC.out]; exact findSome_at (fun i => (f i).first) hlt hnone.out hc
            have hfin := asEndF_yes (t := t) hcE (by omega) HBELX.out hbB' hcells' hm' hop' he' (HBELX.out.trans (hb2.mono (by omega)))
            have HF := Lib.hid hfin
            clear hend hc hcE hb2 hcells' hm' he' hfin
            go_wp2
            go_ret
            exact HF.out
        · obtain rfl : j = k := by omega
          have hcE : E.first = none := by rw [← HC.out]; exact findSome_none (fun i => (f i).first) _ hnone.out
          have hfin := asEndF_no (B := B) (t := t) hcE HBELX.out
          have HF := Lib.hid hfin
          clear hcE hbx hfin
          go_wp2
          go_ret
          exact HF.out

set_option maxRecDepth 100000 in
set_option maxHeartbeats 4000000 in
theorem As_fault (E : Er) (v : Value) (t : Addr) (old : Value) (w : World) (B : Nat) (hE : IsErr w B E v) (hBt : B ≤ t.block) (hg : w.cell? ⟨0, 0, none⟩ = some (.iface 84 (.agg #[.pointer (some ⟨1, 26, none⟩)]))) (ht : w.cell? t = some old) (hf : w.frozen? t = false) :
    Calls Tryd.prog 22 #[v, .iface 58 (.pointer (some t))] w (AsEndF E B t w) := by
  obtain ⟨tx, vx, rfl⟩ := hE.iface
  have htl : t.block < w.heap.size := World.block_lt_of_cell? w t ht
  have hgl : 0 < w.heap.size := World.block_lt_of_cell? w _ hg
  obtain ⟨w1, hw1⟩ : ∃ w1, w1 = w.alloc (.cells #[.pointer (some t)] 58) := ⟨_, rfl⟩
  obtain ⟨w2, hw2⟩ : ∃ w2, w2 = w1.alloc (.cells #[.pointer (some ⟨1, 58, none⟩), .pointer (some ⟨w.heap.size, 0, none⟩), .int .u64 150] 69) := ⟨_, rfl⟩
  have hb1 : Below w.heap.size w w1 := by rw [hw1]; exact (Below.refl _ _).alloc (Nat.le_refl _) _
  have hs1 : w1.heap.size = w.heap.size + 1 := by rw [hw1]; simp
  have hs2 : w2.heap.size = w.heap.size + 2 := by rw [hw2]; simp [hs1]
  have hb2' : Below w1.heap.size w1 w2 := by rw [hw2]; exact (Below.refl _ _).alloc (Nat.le_refl _) _
  have hb2 : Below w.heap.size w w2 := hb1.trans (hb2'.mono (by omega))
  have hc1 : w2.cell? ⟨w.heap.size, 0, none⟩ = some (.pointer (some t)) := by
    rw [hb2'.cell (by show w.heap.size < _; omega), hw1]; simp
  have IH := Lib.hid (as_fault E.dep E (.iface tx vx) t ⟨w.heap.size, 0, none⟩ old w2 B (Nat.le_refl _) (hE.below (hb2.mono (by omega))) hBt hc1 (by rw [hb2.cell htl]; exact ht) (by rw [hb2.frozen htl]; exact hf))
  have hg2 : w2.cell? ⟨0, 0, none⟩ = some (.iface 84 (.agg #[.pointer (some ⟨1, 26, none⟩)])) := by rw [hb2.cell hgl]; exact hg
  have hn := f_isNil ⟨w.heap.size, 0, none⟩ t w2 hc1
  have HB2 := Lib.hid hb2
  have HS2 := Lib.hid hs2
  have HBl := Lib.hid (Nat.le_of_lt (Nat.lt_of_le_of_lt hBt htl))
  clear hE hBt hg ht hf hb1 hs1 hs2 hb2' hb2 hc1 htl hgl
  subst hw1
  subst hw2
  have e1 := entValueOf
  have e2 := entType
  have e3 := entIsNil
  have e4 := entKind
  have e5 := entElemT
  have e6 := entImplements
  have m1 := rtKind
  have m2 := rtElem
  have m3 := rtImplements
  have g1 := f_valueOf
  have g2 := f_type
  have g3 := f_kindP
  have g4 := f_kindE
  have g5 := f_elemT
  have g6 := f_implements
  cases hc : E.first with
  | none =>
    have HC := Lib.hid hc
    clear hc
    go_enter Tryd.func22, Tryd.ntmps22
    go_wp2_with (first | (go_at_call 31; refine IH.out.mono ?_; rintro e w' hend; obtain ⟨rfl, hb⟩ := hend.no_ HC.out; clear hend) | go_in)
    go_ret
    exact asEndF_no HC.out (HB2.out.trans (hb.mono (by simp; omega)))
  | some z =>
    obtain ⟨op, m, E1⟩ := z
    have HC := Lib.hid hc
    clear hc
    go_enter Tryd.func22, Tryd.ntmps22
    go_wp2_with (first | (go_at_call 31; refine IH.out.mono ?_; rintro e w' hend; obtain ⟨b', x', hbB', hcells', hm', hop', he', rfl, w3, hb, rfl⟩ := hend.yes_ HC.out; clear hend; have HF := Lib.hid (asEndF_yes (t := t) HC.out HBl.out HB2.out hbB' hcells' hm' hop' he' (HB2.out.trans (hb.mono (by simp; omega)))); clear hcells' hm' he') | go_in)
    go_ret
    exact HF.out
end ER
end Go.Proofs.YtnbfejombealiaaDoor
