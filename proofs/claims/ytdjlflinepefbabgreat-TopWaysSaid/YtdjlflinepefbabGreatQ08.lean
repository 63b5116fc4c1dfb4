/- 2 texts laid together: each says at its head what it proves. No condition but those that each theorem names. -/
import Derived.Test.YtdjlflinepefbabGreatQ05
import Derived.Test.YtdjlflinepefbabGreatQ07
import Derived.Deep.AppendLies
import Derived.Laws.AppendOwn
import Derived.Stop.Asserts

/- What a node's list and under answer, and isFresh. No condition but those that each theorem names. -/
namespace Go.Proofs.YtdjlflinepefbabGreat
open Go.RowKit
namespace TR
open MM EX LF
set_option linter.unusedVariables false
set_option linter.unusedSimpArgs false

theorem bkept {w w1 w2 : World} (h1 : Below w.heap.size w w1) (h2 : Below w1.heap.size w1 w2) : Below w.heap.size w w2 := h1.trans (h2.mono h1.size)
theorem info_kid' : (Tryz.prog.info? 191).map (fun i => (i.zero, i.size, i.bytes)) = some (some (.agg #[.int .i64 0, .int .i64 0]), 2, 16) := by kernel_rfl
/-- What a node's page says of its kids. -/
def kl (h : Nat) (ks : List (Tr h)) : List Kid := ks.map fun k => ⟨first h k, pg h k⟩
theorem kl_len (h : Nat) (ks : List (Tr h)) : (kl h ks).length = ks.length := by simp [kl]
theorem kl_snoc {h : Nat} {ks : List (Tr h)} {i : Nat} {k : Tr h} (hk : ks[i]? = some k) : kl h (ks.take (i + 1)) = kl h (ks.take i) ++ [⟨first h k, pg h k⟩] := by
  rw [List.take_add_one, hk]; simp [kl]
theorem kl_key {h : Nat} {ks : List (Tr h)} (s : Int) : ∀ n, n ≤ ks.length → LF.und (kl h ks) s n = und (keys h ks) s n := by
  intro n
  induction n with
  | zero => intro _; rfl
  | succ n ih =>
    intro hn
    have hk : ks[n]? = some ks[n] := List.getElem?_eq_getElem (by omega)
    have e1 : ((kl h ks).getD n default).key = first h ks[n] := by
      unfold kl; rw [List.getD_eq_getElem?_getD, List.getElem?_map, hk]; rfl
    show (if ((kl h ks).getD n default).key ≤ s then n else LF.und (kl h ks) s n) = (if (keys h ks).getD n 0 ≤ s then n else und (keys h ks) s n)
    rw [e1, key_at hk, ih (by omega)]
def ListEnd (h : Nat) (ks : List (Tr h)) (w : World) (r : Ending) (w' : World) : Prop := ∃ A n c, r = .returned (.slice A n c) ∧ n = ks.length ∧ Kds w' A (kl h ks) ∧ Below w.heap.size w w'

set_option maxHeartbeats 4000000 in
theorem list0 (t : Tr (0 + 1)) (hn : Weak (0 + 1) t) (w : World) (hr : Rep (0 + 1) w t) : Calls Tryz.prog 128 #[.pointer (some ⟨blk (0 + 1) t, 0, none⟩)] w (ListEnd 0 (nd t).xs w) := by
  obtain ⟨i0, hi, hz0, hz1, hz2⟩ := info_parts info_kid'
  obtain ⟨B, hB⟩ : ∃ B, B = blk (0 + 1) t := ⟨_, rfl⟩
  obtain ⟨ks, hks⟩ : ∃ ks, ks = (nd t).xs := ⟨_, rfl⟩
  obtain ⟨A, c, hc, hb, hv, hrs⟩ := hr
  have hkw := hn.kid
  have h8 := hn.size_pos
  rw [show size (0 + 1) t = (nd t).xs.length from rfl] at h8
  rw [← hks] at hc hb hv hrs hkw h8
  rw [show (nd t).blk = B from hB.symm] at hb
  rw [← hB, ← hks]
  clear hB hks hn
  obtain ⟨n, hnn⟩ : ∃ n, n = ks.length := ⟨_, rfl⟩
  have hn8 : n ≤ 8 := by rw [hnn]; exact h8.2
  rw [← hnn] at hb hc
  have HL := Lib.hid hnn
  have HB := Lib.hid hb
  have HV := Lib.hid (Nds.mk hv hrs)
  have HW := Lib.hid hkw
  obtain ⟨c0, c1⟩ := cells2t hb
  clear hb hv hrs hkw h8 hnn hc
  go_enter Tryz.func128, Tryz.ntmps128
  go_wp2
  go_loopw [3, 11] (fun v i wr => ∃ (k : Nat) (A : Option Addr) (cc : Nat), k ≤ n ∧ i = .int .i64 k ∧ v = .slice A k cc ∧ Hid (wr.ownsRow w.heap.size 191 2 (.slice A k cc) k (kdCells (kl 0 (ks.take k)))) ∧ Below w.heap.size w wr) (fun _ i _ => n - (intOf i).toNat)
  case atStart => exact ⟨0, none, 0, Nat.zero_le _, rfl, rfl, Lib.hid (World.ownsRow_nil _ _ _ _), Below.refl _ _⟩
  case round =>
    obtain ⟨k, A2, cc, hk, rfl, rfl, HOW, hbel⟩ := hrel
    have HBL := Lib.hid hbel
    have hsz := hbel.size
    by_cases hlt : k < n
    · obtain ⟨e, he⟩ : ∃ e, ks[k]? = some e := ⟨_, List.getElem?_eq_getElem (by rw [← HL.out]; exact hlt)⟩
      have hem := List.mem_of_getElem? he
      obtain ⟨b, off, rfl, hbl, hcell⟩ := (HV.out.below hbel).get he
      have hre := (HV.out.reps e hem).below hbel
      have HF : Hid (Calls Tryz.prog 225 #[.pointer (some ⟨blk 0 e, 0, none⟩)] wr fun r w' => r = .returned (.int .i64 (first 0 e)) ∧ wr = w') := Lib.hid (first_any 0 e (HW.out e hem) wr hre)
      have HP := Lib.hid (page_any (blk 0 e) (pg 0 e) wr (pg_cell hre))
      have HS := Lib.hid (kl_snoc he)
      unfold vl at hcell
      have t1 : (k : Int) < (n : Int) := by omega
      have t2 : (0 : Int) ≤ (k : Int) := by omega
      obtain ⟨f, hf⟩ : ∃ f, f = first 0 e := ⟨_, rfl⟩
      obtain ⟨p, hp⟩ : ∃ p, p = pg 0 e := ⟨_, rfl⟩
      rw [← hf] at HF HS
      rw [← hp] at HP HS
      clear hre hbel he hem hf hp
      go_wp2_with fail
      refine HF.out.mono ?_
      rintro r w2 ⟨rfl, rfl⟩
      go_wp2_with fail
      refine HP.out.mono ?_
      rintro r w3 ⟨rfl, rfl⟩
      go_wp2_with (at_builtin; refine wpList_append_own _ rfl _ _ 187 rfl w.heap.size 191 i0 (.agg #[.int .i64 0, .int .i64 0]) 2 16 Tryz.underlying187 hi hz0 hz1 hz2 rfl (by decide) _ _ _ rfl (HOW.out.alloc _) ⟨wr.heap.size, 0, none⟩ 1 1 [.int .i64 f, .int .i64 p] rfl rfl ?c1 ?c2 ?c3 ?c4 ?c5 ?_)
      case c1 => exact new_cells _ _ _
      case c2 => intro u hu; simp at hu; rcases hu with rfl | rfl <;> rfl
      case c3 => unfold maxLen; omega
      case c4 => omega
      case c5 => simp; omega
      intro v8 w8 own8 hgrow _
      have own9 : w8.ownsRow w.heap.size 191 2 v8 (k + 1) (kdCells (kl 0 (ks.take (k + 1)))) := by
        rw [HS.out, ← kdCells_snoc]; exact own8
      have hl8 : Below w.heap.size w w8 := (HBL.out.alloc hsz _).grown hgrow (by simp; omega) (fun j hj => (HOW.out.lt j hj).1)
      obtain ⟨A8, c8, rfl⟩ := own_slice own9
      have O8 := Lib.hid own9
      have L8 := Lib.hid hl8
      clear own8 own9 hl8 hgrow
      go_wp2
      go_roundw
      case rel => exact ⟨k + 1, A8, c8, by omega, by go_num, rfl, O8, L8.out⟩
      case measure => simp [intOf]; omega
    · obtain rfl : k = n := by omega
      have t1 : ¬ (k : Int) < (k : Int) := by omega
      clear hbel
      go_wp2
      go_ret
      have h1 := HOW.out
      rw [List.take_of_length_le (by rw [← HL.out]; exact Nat.le_refl _)] at h1
      have h2 : wr.ownsRow w.heap.size 191 2 (.slice A2 k cc) (kl 0 ks).length (kdCells (kl 0 ks)) := by rw [kl_len, ← HL.out]; exact h1
      obtain ⟨A', c', e1, e2⟩ := own_kds h2
      exact ⟨A2, k, cc, rfl, HL.out, by rw [(Value.slice.inj e1).1]; exact e2, HBL.out⟩

set_option maxHeartbeats 4000000 in
theorem list1 (h : Nat) (t : Tr ((h + 1) + 1)) (hn : Weak ((h + 1) + 1) t) (w : World) (hr : Rep ((h + 1) + 1) w t) : Calls Tryz.prog 128 #[.pointer (some ⟨blk ((h + 1) + 1) t, 0, none⟩)] w (ListEnd (h + 1) (nd t).xs w) := by
  obtain ⟨i0, hi, hz0, hz1, hz2⟩ := info_parts info_kid'
  obtain ⟨B, hB⟩ : ∃ B, B = blk ((h + 1) + 1) t := ⟨_, rfl⟩
  obtain ⟨ks, hks⟩ : ∃ ks, ks = (nd t).xs := ⟨_, rfl⟩
  obtain ⟨A, c, hc, hb, hv, hrs⟩ := hr
  have hkw := hn.kid
  have h8 := hn.size_pos
  rw [show size ((h + 1) + 1) t = (nd t).xs.length from rfl] at h8
  rw [← hks] at hc hb hv hrs hkw h8
  rw [show (nd t).blk = B from hB.symm] at hb
  rw [← hB, ← hks]
  clear hB hks hn
  obtain ⟨n, hnn⟩ : ∃ n, n = ks.length := ⟨_, rfl⟩
  have hn8 : n ≤ 8 := by rw [hnn]; exact h8.2
  rw [← hnn] at hb hc
  have HL := Lib.hid hnn
  have HB := Lib.hid hb
  have HV := Lib.hid (Nds.mk hv hrs)
  have HW := Lib.hid hkw
  obtain ⟨c0, c1⟩ := cells2t hb
  clear hb hv hrs hkw h8 hnn hc
  go_enter Tryz.func128, Tryz.ntmps128
  go_wp2
  go_loopw [3, 11] (fun v i wr => ∃ (k : Nat) (A : Option Addr) (cc : Nat), k ≤ n ∧ i = .int .i64 k ∧ v = .slice A k cc ∧ Hid (wr.ownsRow w.heap.size 191 2 (.slice A k cc) k (kdCells (kl (h + 1) (ks.take k)))) ∧ Below w.heap.size w wr) (fun _ i _ => n - (intOf i).toNat)
  case atStart => exact ⟨0, none, 0, Nat.zero_le _, rfl, rfl, Lib.hid (World.ownsRow_nil _ _ _ _), Below.refl _ _⟩
  case round =>
    obtain ⟨k, A2, cc, hk, rfl, rfl, HOW, hbel⟩ := hrel
    have HBL := Lib.hid hbel
    have hsz := hbel.size
    by_cases hlt : k < n
    · obtain ⟨e, he⟩ : ∃ e, ks[k]? = some e := ⟨_, List.getElem?_eq_getElem (by rw [← HL.out]; exact hlt)⟩
      have hem := List.mem_of_getElem? he
      obtain ⟨b, off, rfl, hbl, hcell⟩ := (HV.out.below hbel).get he
      have hre := (HV.out.reps e hem).below hbel
      have HF : Hid (Calls Tryz.prog 234 #[.pointer (some ⟨blk (h + 1) e, 0, none⟩)] wr fun r w' => r = .returned (.int .i64 (first (h + 1) e)) ∧ wr = w') := Lib.hid (first_any (h + 1) e (HW.out e hem) wr hre)
      have HP := Lib.hid (page_any (blk (h + 1) e) (pg (h + 1) e) wr (pg_cell hre))
      have HS := Lib.hid (kl_snoc he)
      unfold vl at hcell
      have t1 : (k : Int) < (n : Int) := by omega
      have t2 : (0 : Int) ≤ (k : Int) := by omega
      obtain ⟨f, hf⟩ : ∃ f, f = first (h + 1) e := ⟨_, rfl⟩
      obtain ⟨p, hp⟩ : ∃ p, p = pg (h + 1) e := ⟨_, rfl⟩
      rw [← hf] at HF HS
      rw [← hp] at HP HS
      clear hre hbel he hem hf hp
      go_wp2_with fail
      refine HF.out.mono ?_
      rintro r w2 ⟨rfl, rfl⟩
      go_wp2_with fail
      refine HP.out.mono ?_
      rintro r w3 ⟨rfl, rfl⟩
      go_wp2_with (at_builtin; refine wpList_append_own _ rfl _ _ 187 rfl w.heap.size 191 i0 (.agg #[.int .i64 0, .int .i64 0]) 2 16 Tryz.underlying187 hi hz0 hz1 hz2 rfl (by decide) _ _ _ rfl (HOW.out.alloc _) ⟨wr.heap.size, 0, none⟩ 1 1 [.int .i64 f, .int .i64 p] rfl rfl ?c1 ?c2 ?c3 ?c4 ?c5 ?_)
      case c1 => exact new_cells _ _ _
      case c2 => intro u hu; simp at hu; rcases hu with rfl | rfl <;> rfl
      case c3 => unfold maxLen; omega
      case c4 => omega
      case c5 => simp; omega
      intro v8 w8 own8 hgrow _
      have own9 : w8.ownsRow w.heap.size 191 2 v8 (k + 1) (kdCells (kl (h + 1) (ks.take (k + 1)))) := by
        rw [HS.out, ← kdCells_snoc]; exact own8
      have hl8 : Below w.heap.size w w8 := (HBL.out.alloc hsz _).grown hgrow (by simp; omega) (fun j hj => (HOW.out.lt j hj).1)
      obtain ⟨A8, c8, rfl⟩ := own_slice own9
      have O8 := Lib.hid own9
      have L8 := Lib.hid hl8
      clear own8 own9 hl8 hgrow
      go_wp2
      go_roundw
      case rel => exact ⟨k + 1, A8, c8, by omega, by go_num, rfl, O8, L8.out⟩
      case measure => simp [intOf]; omega
    · obtain rfl : k = n := by omega
      have t1 : ¬ (k : Int) < (k : Int) := by omega
      clear hbel
      go_wp2
      go_ret
      have h1 := HOW.out
      rw [List.take_of_length_le (by rw [← HL.out]; exact Nat.le_refl _)] at h1
      have h2 : wr.ownsRow w.heap.size 191 2 (.slice A2 k cc) (kl (h + 1) ks).length (kdCells (kl (h + 1) ks)) := by rw [kl_len, ← HL.out]; exact h1
      obtain ⟨A', c', e1, e2⟩ := own_kds h2
      exact ⟨A2, k, cc, rfl, HL.out, by rw [(Value.slice.inj e1).1]; exact e2, HBL.out⟩

theorem list_any : ∀ (h : Nat) (t : Tr (h + 1)), Weak (h + 1) t → ∀ w, Rep (h + 1) w t → Calls Tryz.prog 128 #[.pointer (some ⟨blk (h + 1) t, 0, none⟩)] w (ListEnd h (nd t).xs w)
  | 0, t, hn, w, hr => list0 t hn w hr
  | h + 1, t, hn, w, hr => list1 h t hn w hr
theorem iunder_any (h : Nat) (t : Tr (h + 1)) (hn : Weak (h + 1) t) (s : Int) (w : World) (hr : Rep (h + 1) w t) : Calls Tryz.prog 91 #[.pointer (some ⟨blk (h + 1) t, 0, none⟩), .int .i64 s] w fun r w' => r = .returned (.int .i64 (und (keys h (nd t).xs) s (nd t).xs.length : Nat)) ∧ Below w.heap.size w w' := by
  have HLI := Lib.hid (list_any h t hn w hr)
  have h8 := hn.size_pos
  rw [show size (h + 1) t = (nd t).xs.length from rfl] at h8
  obtain ⟨ks, hks⟩ : ∃ ks, ks = (nd t).xs := ⟨_, rfl⟩
  rw [← hks] at HLI h8
  rw [← hks]
  obtain ⟨B, hB⟩ : ∃ B, B = blk (h + 1) t := ⟨_, rfl⟩
  rw [← hB] at HLI
  rw [← hB]
  have HU : Hid (∀ n c A w1, n = ks.length → Kds w1 A (kl h ks) → Calls Tryz.prog 127 #[.slice A n c, .int .i64 s] w1 fun e W' => e = .returned (.int .i64 (und (keys h ks) s ks.length : Nat)) ∧ Below w1.heap.size w1 W') := Lib.hid fun n c A w1 hnn hk => by
    have := under_any (kl h ks) n c (by rw [kl_len]; exact hnn) (by omega) A s w1 hk
    rw [hnn, kl_key s ks.length (Nat.le_refl _)] at this
    rw [hnn]; exact this
  obtain ⟨u, hu⟩ : ∃ u : Int, u = (und (keys h ks) s ks.length : Nat) := ⟨_, rfl⟩
  rw [← hu] at HU ⊢
  clear hu hks hB h8 hr hn
  go_enter Tryz.func91, Tryz.ntmps91
  go_wp2_with fail
  refine HLI.out.mono ?_
  rintro r w1 ⟨A, n, c, rfl, hnn, hk, hb1⟩
  have HU1 := Lib.hid (HU.out n c A w1 hnn hk)
  have HB1 := Lib.hid hb1
  clear hnn hk hb1
  go_wp2_with fail
  refine HU1.out.mono ?_
  rintro r w2 ⟨rfl, hb2⟩
  have HB2 := Lib.hid (bkept HB1.out hb2)
  clear hb2
  go_wp2
  go_ret
  exact ⟨rfl, HB2.out⟩
end TR
end Go.Proofs.YtdjlflinepefbabGreat

/- What a type assertion on a node answers. No program but its types. -/
namespace Go.Proofs.YtdjlflinepefbabGreat
open Go.RowKit Go.Stop
namespace TR
open MM EX LF
set_option linter.unusedVariables false
set_option linter.unusedSimpArgs false

section
variable {P : Program} {T e : TypeId}
theorem run_as_self (hu : P.underlying T = some (.pointer e)) (v : Value) (xT : TypeId) (w : World) : (Instr.typeAssert (.iface T v) xT T true).run P w = .ok (.tuple #[v, .bool true]) w := by
  simp [Instr.typeAssert, run_underlying hu]
theorem run_as_force (hu : P.underlying T = some (.pointer e)) (v : Value) (xT : TypeId) (w : World) : (Instr.typeAssert (.iface T v) xT T false).run P w = .ok v w := by
  simp [Instr.typeAssert, run_underlying hu]
theorem run_as_other (hu : P.underlying T = some (.pointer e)) (hz : (P.info? T).map (·.zero) = some (some (.pointer none))) {t : TypeId} (hne : t ≠ T) (v : Value) (xT : TypeId) (w : World) : (Instr.typeAssert (.iface t v) xT T true).run P w = .ok (.tuple #[.pointer none, .bool false]) w := by
  obtain ⟨i, hi, hz'⟩ := Option.map_eq_some_iff.1 hz
  simp [Instr.typeAssert, run_underlying hu, hne, zeroValue, typeInfo, hi, hz']
theorem run_as_nil (hu : P.underlying T = some (.pointer e)) (hz : (P.info? T).map (·.zero) = some (some (.pointer none))) (xT : TypeId) (w : World) : (Instr.typeAssert .nilIface xT T true).run P w = .ok (.tuple #[.pointer none, .bool false]) w := by
  obtain ⟨i, hi, hz'⟩ := Option.map_eq_some_iff.1 hz
  simp [Instr.typeAssert, run_underlying hu, zeroValue, typeInfo, hi, hz']
end
theorem as_bb (v : Value) (xT : TypeId) (w : World) : (Instr.typeAssert (.iface 156 v) xT 156 true).run Tryz.prog w = .ok (.tuple #[v, .bool true]) w := run_as_self Tryz.underlying156 v xT w
theorem as_ii (v : Value) (xT : TypeId) (w : World) : (Instr.typeAssert (.iface 161 v) xT 161 true).run Tryz.prog w = .ok (.tuple #[v, .bool true]) w := run_as_self Tryz.underlying161 v xT w
theorem as_ib (v : Value) (xT : TypeId) (w : World) : (Instr.typeAssert (.iface 161 v) xT 156 true).run Tryz.prog w = .ok (.tuple #[.pointer none, .bool false]) w := run_as_other Tryz.underlying156 (by kernel_rfl) (by decide) v xT w
theorem as_bi (v : Value) (xT : TypeId) (w : World) : (Instr.typeAssert (.iface 156 v) xT 161 true).run Tryz.prog w = .ok (.tuple #[.pointer none, .bool false]) w := run_as_other Tryz.underlying161 (by kernel_rfl) (by decide) v xT w
theorem as_nb (xT : TypeId) (w : World) : (Instr.typeAssert .nilIface xT 156 true).run Tryz.prog w = .ok (.tuple #[.pointer none, .bool false]) w := run_as_nil Tryz.underlying156 (by kernel_rfl) xT w
theorem as_ni (xT : TypeId) (w : World) : (Instr.typeAssert .nilIface xT 161 true).run Tryz.prog w = .ok (.tuple #[.pointer none, .bool false]) w := run_as_nil Tryz.underlying161 (by kernel_rfl) xT w
theorem as_force (v : Value) (xT : TypeId) (w : World) : (Instr.typeAssert (.iface 156 v) xT 156 false).run Tryz.prog w = .ok v w := run_as_force Tryz.underlying156 v xT w
end TR
end Go.Proofs.YtdjlflinepefbabGreat
