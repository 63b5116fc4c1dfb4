/- An array at work: each call of a law, as a step from state to state. -/
import Derived.Test.YtolcacmkageidacDoorNdF
namespace Go.Proofs.YtolcacmkageidacDoor
namespace ND
open Go.RowKit MM
set_option linter.unusedVariables false
set_option linter.unusedSimpArgs false

theorem Errs.refl (w : World) : Errs w w := fun _ _ _ _ h => h
theorem Errs.trans {a b c : World} (h : Errs a b) (k : Errs b c) : Errs a c := fun _ _ _ t x => k _ _ _ t (h _ _ _ t x)
theorem Errs.below {w w' : World} (h : Below w.heap.size w w') : Errs w w' := fun b T cs t x => (h.block b x.lt).trans x
theorem NandAt.noOther {w : World} {r : Ref} {d : Nd} (h : NandAt w r d) {b : Nat} {T : TypeId} {cs : Array Value} (hT : Other T = true) (hb : Blk w b T cs) : ¬ r.has b := by
  simp only [Other, Bool.and_eq_true, bne_iff_ne, ne_eq] at hT
  rintro (rfl | rfl | rfl | hv)
  · exact ne_of_blk h.own hb (Ne.symm hT.1.1) rfl
  · obtain ⟨ps, h1, _⟩ := h.pages; exact ne_of_blk h1 hb (Ne.symm hT.1.2) rfl
  · obtain ⟨ps, h1, _⟩ := h.blocks; exact ne_of_blk h1 hb (Ne.symm hT.2) rfl
  · exact h.plan.ne hb hv
theorem Errs.mod {w w' : World} {r : Ref} {d : Nd} (h : NandAt w r d) (hm : Mod r.has w w') : Errs w w' := fun b T cs t x => (hm.block b x.lt (h.noOther t x)).trans x
/-- A cell that a law writes of its own. -/
theorem Errs.own {w : World} {b : Nat} (i : Nat) (u : Value) : ∀ b' T cs, b' ≠ b → Blk w b' T cs → Blk (w.setCell ⟨b, i, none⟩ u) b' T cs := fun b' T cs hne x => (set_far w ⟨b, i, none⟩ u hne).trans x

/-- An array that a law made, in the midst of the law's work. -/
structure In (w0 w : World) (r : Ref) (d : Nd) : Prop where
  at_ : NandAt w r d
  ok : d.Ok
  low : ∀ k, r.has k → w0.heap.size ≤ k
  bel : Below w0.heap.size w0 w
/-- .. wherever its parts lie: its own block is g. -/
def St (w0 w : World) (g : Nat) (d : Nd) : Prop := ∃ r : Ref, r.pb = g ∧ In w0 w r d

section
variable {w0 w w' : World} {r : Ref} {d : Nd} {g : Nat}
theorem In.below (h : In w0 w r d) (hb : Below w.heap.size w w') : In w0 w' r d := ⟨h.at_.below hb, h.ok, h.low, h.bel.trans (hb.mono h.bel.size)⟩
theorem In.mod {r' : Ref} {d' : Nd} (h : In w0 w r d) (ha : NandAt w' r' d') (ok : d'.Ok) (hm : Mod r.has w w') (hl : ∀ k, r'.has k → r.has k ∨ w.heap.size ≤ k) : In w0 w' r' d' :=
  ⟨ha, ok, fun k hk => (hl k hk).elim (h.low k) fun e => Nat.le_trans h.bel.size e, h.bel.trans (hm.below h.bel.size h.low)⟩
theorem St.below (h : St w0 w g d) (hb : Below w.heap.size w w') : St w0 w' g d := by
  obtain ⟨r, hr, h⟩ := h
  exact ⟨r, hr, h.below hb⟩
theorem St.own (h : St w0 w g d) {b : Nat} {T : TypeId} {cs : Array Value} (hT : Other T = true) (hb : Blk w b T cs) (hlow : w0.heap.size ≤ b) (i : Nat) (u : Value) : St w0 (w.setCell ⟨b, i, none⟩ u) g d := by
  obtain ⟨r, hr, h⟩ := h
  refine ⟨r, hr, h.at_.kept fun k hk => set_far w _ u fun (e : k = b) => h.at_.noOther hT hb (by rw [← e]; exact hk), h.ok, h.low, h.bel.setCell hlow u⟩
theorem St.bel (h : St w0 w g d) : Below w0.heap.size w0 w := by
  obtain ⟨r, hr, h⟩ := h
  exact h.bel
theorem St.ok (h : St w0 w g d) : d.Ok := by
  obtain ⟨r, hr, h⟩ := h
  exact h.ok
theorem St.et (h : St w0 w g d) (hg : ER.ErrorType w0) : ER.ErrorType w := hg.kept h.bel

theorem st_new (b p : Nat) (hb : 16 ≤ b ∧ b ≤ 64 ∧ 8 ≤ p ∧ p ≤ 32) (w0 : World) (hw : Below w0.heap.size w0 w) :
    Calls Tryd.prog 7 #[.agg #[.int .i64 b, .int .i64 p]] w fun e w' => ∃ g : Nat, e = .returned (.tuple #[.pointer (some ⟨g, 0, none⟩), .nilIface]) ∧ St w0 w' g (fresh b p) ∧ Errs w w' := by
  refine (new_ok b p w hb).mono ?_
  rintro e w' ⟨r, rfl, h1, h2, h3⟩
  exact ⟨_, rfl, ⟨r, rfl, h1, fresh_ok hb.1 hb.2.1 hb.2.2.1 hb.2.2.2, fun k hk => Nat.le_trans hw.size (h3 k hk), hw.trans (h2.mono hw.size)⟩, Errs.below h2⟩
theorem st_program (h : St w0 w g d) (hops : d.ops ≤ 4611686018427387904) (p : Int) (hp : (Lit.int .i64 p).wf = true) (s : ByteArray) :
    Calls Tryd.prog 9 #[(.pointer (some ⟨g, 0, none⟩)), .int .i64 p, .string s] w fun e w' => ∃ v, e = .returned v ∧ ErrIs w' opProgram p (d.program p s).2 v ∧ St w0 w' g (d.program p s).1 ∧ Errs w w' := by
  obtain ⟨r, rfl, h⟩ := h
  refine (program_any h.at_ h.ok hops p hp s).mono ?_
  rintro e w' ⟨v, rfl, h1, h2, h3⟩
  exact ⟨v, rfl, h1, ⟨r, rfl, h.mod h2 (h.ok.program p s) h3 fun k hk => .inl hk⟩, Errs.mod h.at_ h3⟩
theorem st_erase (h : St w0 w g d) (hops : d.ops ≤ 4611686018427387904) (p : Int) (hp : (Lit.int .i64 p).wf = true) :
    Calls Tryd.prog 15 #[(.pointer (some ⟨g, 0, none⟩)), .int .i64 p] w fun e w' => ∃ v, e = .returned v ∧ ErrIs w' opErase p (d.erase p).2 v ∧ St w0 w' g (d.erase p).1 ∧ Errs w w' := by
  obtain ⟨r, rfl, h⟩ := h
  refine (erase_any h.at_ h.ok hops p hp).mono ?_
  rintro e w' ⟨v, rfl, h1, h2, h3⟩
  exact ⟨v, rfl, h1, ⟨r, rfl, h.mod h2 (h.ok.erase p) h3 fun k hk => .inl hk⟩, Errs.mod h.at_ h3⟩
theorem st_read (h : St w0 w g d) (p : Int) (hp : (Lit.int .i64 p).wf = true) :
    Calls Tryd.prog 13 #[(.pointer (some ⟨g, 0, none⟩)), .int .i64 p] w fun e w' => ∃ v, e = .returned (.tuple #[.string (d.read p).1, v]) ∧ ErrIs w' opRead p (d.read p).2 v ∧ St w0 w' g d ∧ Errs w w' := by
  obtain ⟨r, rfl, h⟩ := h
  refine (readX_any h.at_ h.ok p hp).mono ?_
  rintro e w' ⟨v, rfl, h1, h2⟩
  exact ⟨v, rfl, h1, ⟨r, rfl, h.below h2⟩, Errs.below h2⟩
/-- .. of a list that came in from outside. -/
theorem st_plan_in (h : St w0 w g d) (a : Option Addr) (len cap : Nat) (hl : len ≤ maxLen) (M : Nat → Mis) (hM : MisRow w (fun k => k < w0.heap.size) a len M) :
    Calls Tryd.prog 10 #[(.pointer (some ⟨g, 0, none⟩)), .slice a len cap] w fun e w' => e = .returned (.tuple #[]) ∧ St w0 w' g (d.planned (misL M len)) ∧ Errs w w' := by
  obtain ⟨r, rfl, h⟩ := h
  have hM' : MisRow w (fun k => ¬ r.has k) a len M := by
    rcases hM with hM | ⟨b, off, rfl, hb, hs, hc⟩
    · exact .inl hM
    · exact .inr ⟨b, off, rfl, hb, fun hk => absurd (h.low b hk) (by have : b < w0.heap.size := hs; omega), hc⟩
  refine (plan_any h.at_ h.ok a len cap hl M hM').mono ?_
  rintro e w' ⟨rfl, r', h1, h2, h3, h4⟩
  exact ⟨rfl, ⟨r', h1, h.mod h2 (h.ok.planned _) h3 h4⟩, Errs.mod h.at_ h3⟩
/-- The cells of some mishaps, one behind the other. -/
def misCells : List Mis → List Value
  | [] => []
  | m :: l => .int .i64 m.at_ :: .int .i64 m.kind :: .int .i64 m.keep :: .string m.junk :: misCells l
def Mis.Wf (m : Mis) : Prop := (Lit.int .i64 m.at_).wf = true ∧ (Lit.int .i64 m.kind).wf = true ∧ (Lit.int .i64 m.keep).wf = true ∧ m.junk.size ≤ maxLen
theorem misCells_get : ∀ (l : List Mis) (i : Nat) (m : Mis), l[i]? = some m → (misCells l)[i * 4 + 0]? = some (.int .i64 m.at_) ∧ (misCells l)[i * 4 + 1]? = some (.int .i64 m.kind) ∧ (misCells l)[i * 4 + 2]? = some (.int .i64 m.keep) ∧ (misCells l)[i * 4 + 3]? = some (.string m.junk)
  | [], i, m, h => by simp at h
  | x :: l, 0, m, h => by
    simp at h
    subst h
    exact ⟨rfl, rfl, rfl, rfl⟩
  | x :: l, i + 1, m, h => by
    have := misCells_get l i m (by simpa using h)
    rw [show (i + 1) * 4 + 0 = i * 4 + 0 + 4 by omega, show (i + 1) * 4 + 1 = i * 4 + 1 + 4 by omega, show (i + 1) * 4 + 2 = i * 4 + 2 + 4 by omega, show (i + 1) * 4 + 3 = i * 4 + 3 + 4 by omega]
    exact this
/-- .. of a list that was made just now. -/
theorem st_plan_new (h : St w0 w g d) (l : List Mis) (cs : Array Value) (hcs : cs = (misCells l).toArray) (n cap : Nat) (hn : n = l.length) (hl : l.length ≤ maxLen) (hw : ∀ m ∈ l, m.Wf) (q : Nat) (hq : w.heap.size = q) :
    Calls Tryd.prog 10 #[(.pointer (some ⟨g, 0, none⟩)), .slice (some ⟨q, 0, none⟩) n cap] (w.alloc (.cells cs 25)) fun e w' => e = .returned (.tuple #[]) ∧ St w0 w' g (d.planned l) ∧ Errs w w' := by
  subst hn hq
  obtain ⟨r, rfl, h⟩ := h
  have hbel : Below w.heap.size w (w.alloc (.cells cs 25)) := (Below.refl _ _).alloc (Nat.le_refl _) _
  have hb := Blk.new w 25 cs
  have hM : MisRow (w.alloc (.cells cs 25)) (fun k => ¬ r.has k) (some ⟨w.heap.size, 0, none⟩) l.length (fun i => l.getD i Mis.zero) := by
    refine .inr ⟨_, 0, rfl, hb.lt, fun hk => Nat.lt_irrefl _ (h.at_.lt hk), fun i hi => ?_⟩
    have hget : l[i]? = some l[i] := List.getElem?_eq_getElem hi
    have hgd : l.getD i Mis.zero = l[i] := by simp [List.getD, hget]
    obtain ⟨c0, c1, c2, c3⟩ := misCells_get l i _ hget
    obtain ⟨w1, w2, w3, w4⟩ := hw l[i] (List.getElem_mem hi)
    show MisC _ _ _ (l.getD i Mis.zero)
    rw [hgd]
    unfold MisC
    rw [hb.cell, hb.cell, hb.cell, hb.cell, hcs]
    simp only [List.getElem?_toArray, Nat.zero_add]
    exact ⟨c0, c1, c2, c3, w4, w1, w2, w3⟩
  have hlist : misL (fun i => l.getD i Mis.zero) l.length = l := by
    unfold misL
    apply List.ext_getElem?
    intro i
    rw [List.getElem?_map]
    by_cases hi : i < l.length
    · rw [List.getElem?_range hi, List.getElem?_eq_getElem hi]
      simp [List.getD, List.getElem?_eq_getElem hi]
    · rw [List.getElem?_eq_none (by simp; omega), List.getElem?_eq_none (by omega)]; rfl
  have h' := h.below hbel
  refine (plan_any h'.at_ h'.ok _ l.length cap hl _ hM).mono ?_
  rintro e w' ⟨rfl, r', h1, h2, h3, h4⟩
  rw [hlist] at h2
  exact ⟨rfl, ⟨r', h1, h'.mod h2 (h'.ok.planned _) h3 h4⟩, (Errs.below hbel).trans (Errs.mod h'.at_ h3)⟩
theorem st_up (h : St w0 w g d) :
    Calls Tryd.prog 12 #[(.pointer (some ⟨g, 0, none⟩))] w fun e w' => e = .returned (.tuple #[]) ∧ St w0 w' g d.up ∧ Errs w w' := by
  obtain ⟨r, rfl, h⟩ := h
  refine (up_any h.at_).mono ?_
  rintro e w' ⟨rfl, h2, h3⟩
  refine ⟨rfl, ⟨{ r with pv := .map none }, rfl, h.mod h2 h.ok.up h3 fun k hk => ?_⟩, Errs.mod h.at_ h3⟩
  rcases hk with hk | hk | hk | hk
  · exact .inl (.inl hk)
  · exact .inl (.inr (.inl hk))
  · exact .inl (.inr (.inr (.inl hk)))
  · cases hk
theorem st_bad (h : St w0 w g d) (p : Int) : Calls Tryd.prog 16 #[(.pointer (some ⟨g, 0, none⟩)), .int .i64 p] w fun e w' => e = .returned (.bool (d.badAt p)) ∧ w = w' := by
  obtain ⟨r, rfl, h⟩ := h
  exact bad_any h.at_ h.ok p
theorem st_code (h : St w0 w g d) (hg : ER.ErrorType w0) {op : ByteArray} {p c : Int} {v : Value} (he : ErrIs w op p c v) :
    Calls Tryd.prog 11 #[v] w fun e w' => e = .returned (.int .i64 c) ∧ St w0 w' g d ∧ Errs w w' := by
  refine (code_err he (h.et hg)).mono ?_
  rintro e w' ⟨rfl, hb⟩
  exact ⟨rfl, h.below hb, Errs.below hb⟩
end
/-- A nil array. -/
theorem program_nil (p : Int) (hp : (Lit.int .i64 p).wf = true) (s : ByteArray) (w : World) :
    Calls Tryd.prog 9 #[.pointer none, .int .i64 p, .string s] w fun e w' => ∃ v, e = .returned v ∧ ErrIs w' opProgram p 1 v ∧ Below w.heap.size w w' := by
  have HW := Lib.hid (fun w => wrap_errV opProgram p 1 w hp rfl (by decide))
  have E1 : errV 1 = .iface 26 (.int .i64 1) := rfl
  rw [E1] at HW
  have HR := Lib.hid (fun w => ready_nil w)
  have HM : Hid (Calls Tryd.prog 42 #[.pointer none, .int .i64 p, .string s] w fun e w' => e = .returned (.iface 26 (.int .i64 1)) ∧ w = w') := by
    show Calls _ _ _ _ _
    clear HW hp E1
    go_enter Tryd.func42, Tryd.ntmps42
    go_wp2_with fail
    refine (HR.out _).mono ?_
    rintro e w1 ⟨rfl, rfl⟩
    go_wp2
    go_ret
    exact ⟨rfl, rfl⟩
  have HP : Hid (Calls Tryd.prog 23 #[.pointer none, .int .i64 p, .string s] w fun e w' => e = .returned (.iface 26 (.int .i64 1)) ∧ w = w') := by
    show Calls _ _ _ _ _
    clear HW hp E1
    go_enter Tryd.func23, Tryd.ntmps23
    go_wp2_with fail
    refine HM.out.mono ?_
    rintro e w1 ⟨rfl, rfl⟩
    go_wp2
    go_ret
    exact ⟨rfl, rfl⟩
  clear HM HR hp E1
  go_enter Tryd.func9, Tryd.ntmps9
  go_wp2_with fail
  refine HP.out.mono ?_
  rintro e w1 ⟨rfl, rfl⟩
  go_wp2_with fail
  refine (HW.out _).mono ?_
  rintro e w2 ⟨v, rfl, he, hb⟩
  have HE := Lib.hid he
  have HB := Lib.hid hb
  clear he hb
  go_wp2
  go_ret
  exact ⟨_, rfl, HE.out, HB.out⟩
theorem erase_nil (p : Int) (hp : (Lit.int .i64 p).wf = true) (w : World) :
    Calls Tryd.prog 15 #[.pointer none, .int .i64 p] w fun e w' => ∃ v, e = .returned v ∧ ErrIs w' opErase p 1 v ∧ Below w.heap.size w w' := by
  have HW := Lib.hid (fun w => wrap_errV opErase p 1 w hp rfl (by decide))
  have E1 : errV 1 = .iface 26 (.int .i64 1) := rfl
  rw [E1] at HW
  have HR := Lib.hid (fun w => ready_nil w)
  have HM : Hid (Calls Tryd.prog 56 #[.pointer none, .int .i64 p] w fun e w' => e = .returned (.iface 26 (.int .i64 1)) ∧ w = w') := by
    show Calls _ _ _ _ _
    clear HW hp E1
    go_enter Tryd.func56, Tryd.ntmps56
    go_wp2_with fail
    refine (HR.out _).mono ?_
    rintro e w1 ⟨rfl, rfl⟩
    go_wp2
    go_ret
    exact ⟨rfl, rfl⟩
  have HP : Hid (Calls Tryd.prog 31 #[.pointer none, .int .i64 p] w fun e w' => e = .returned (.iface 26 (.int .i64 1)) ∧ w = w') := by
    show Calls _ _ _ _ _
    clear HW hp E1
    go_enter Tryd.func31, Tryd.ntmps31
    go_wp2_with fail
    refine HM.out.mono ?_
    rintro e w1 ⟨rfl, rfl⟩
    go_wp2
    go_ret
    exact ⟨rfl, rfl⟩
  clear HM HR hp E1
  go_enter Tryd.func15, Tryd.ntmps15
  go_wp2_with fail
  refine HP.out.mono ?_
  rintro e w1 ⟨rfl, rfl⟩
  go_wp2_with fail
  refine (HW.out _).mono ?_
  rintro e w2 ⟨v, rfl, he, hb⟩
  have HE := Lib.hid he
  have HB := Lib.hid hb
  clear he hb
  go_wp2
  go_ret
  exact ⟨_, rfl, HE.out, HB.out⟩
theorem read_nil (p : Int) (hp : (Lit.int .i64 p).wf = true) (w : World) :
    Calls Tryd.prog 13 #[.pointer none, .int .i64 p] w fun e w' => ∃ v, e = .returned (.tuple #[.string ⟨#[]⟩, v]) ∧ ErrIs w' opRead p 1 v ∧ Below w.heap.size w w' := by
  have HW := Lib.hid (fun w => wrap_errV opRead p 1 w hp rfl (by decide))
  have E1 : errV 1 = .iface 26 (.int .i64 1) := rfl
  rw [E1] at HW
  have HR := Lib.hid (fun w => ready_nil w)
  have HP : Hid (Calls Tryd.prog 28 #[.pointer none, .int .i64 p] w fun e w' => e = .returned (.tuple #[.string ⟨#[]⟩, .iface 26 (.int .i64 1)]) ∧ w = w') := by
    show Calls _ _ _ _ _
    clear HW hp E1
    go_enter Tryd.func28, Tryd.ntmps28
    go_wp2_with fail
    refine (HR.out _).mono ?_
    rintro e w1 ⟨rfl, rfl⟩
    go_wp2
    go_ret2
    exact ⟨rfl, rfl⟩
  clear HR hp E1
  go_enter Tryd.func13, Tryd.ntmps13
  go_wp2_with fail
  refine HP.out.mono ?_
  rintro e w1 ⟨rfl, rfl⟩
  go_wp2_with fail
  refine (HW.out _).mono ?_
  rintro e w2 ⟨v, rfl, he, hb⟩
  have HE := Lib.hid he
  have HB := Lib.hid hb
  clear he hb
  go_wp2
  go_ret2
  exact ⟨_, rfl, HE.out, HB.out⟩
end ND
end Go.Proofs.YtolcacmkageidacDoor
