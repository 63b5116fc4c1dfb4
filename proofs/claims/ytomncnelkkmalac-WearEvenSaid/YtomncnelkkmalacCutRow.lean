/- A row of ints of the call's own that is appended to, and cut at its head: it may start anywhere in its block. No program. -/
import Derived.Test.YtomncnelkkmalacMem
import Derived.Deep.AppendSrc
import Derived.Deep.AppendLies
namespace Go.Proofs.Ytomncnelkkmalac
namespace MM
open Go.RowKit
set_option linter.unusedVariables false
set_option linter.unusedSimpArgs false

/-- A queue of places in memory, from the block 'base' on. -/
def CutRow (w : World) (base : Nat) (e : TypeId) (A : Option Addr) (c : Nat) (Q : List Nat) : Prop :=
  (A = none ∧ c = 0 ∧ Q = []) ∨ ∃ g off cs, A = some ⟨g, off, none⟩ ∧ base ≤ g ∧ Blk w g e cs ∧ Q.length ≤ c ∧ off + c ≤ cs.size ∧ ∀ (j x : Nat), Q[j]? = some x → cs[off + j]? = some (.int .i64 (x : Int))
theorem cut_nil (w : World) (base : Nat) (e : TypeId) : CutRow w base e none 0 [] := .inl ⟨rfl, rfl, rfl⟩
theorem CutRow.below {w w' : World} {base : Nat} {e : TypeId} {A : Option Addr} {c : Nat} {Q : List Nat} (h : CutRow w base e A c Q) (hb : Below w.heap.size w w') : CutRow w' base e A c Q := by
  rcases h with h | ⟨g, off, cs, h1, h2, h3, r⟩
  · exact .inl h
  · exact .inr ⟨g, off, cs, h1, h2, h3.below hb h3.lt, r⟩
/-- A store into a block of another type. -/
theorem CutRow.far {w : World} {base : Nat} {e t : TypeId} {A : Option Addr} {c : Nat} {Q : List Nat} {b : Nat} {cs' : Array Value} (h : CutRow w base e A c Q) (hb : Blk w b t cs') (hne : e ≠ t) (i : Nat) (u : Value) : CutRow (w.setCell ⟨b, i, none⟩ u) base e A c Q := by
  rcases h with h | ⟨g, off, cs, h1, h2, h3, r⟩
  · exact .inl h
  · refine .inr ⟨g, off, cs, h1, h2, h3.far (fun hgb => ?_) u, r⟩
    have hgb' : g = b := hgb
    subst hgb'
    unfold Blk at h3 hb
    rw [h3] at hb
    simp at hb
    exact hne hb.2
theorem CutRow.len {w : World} {base : Nat} {e : TypeId} {A : Option Addr} {c : Nat} {Q : List Nat} (h : CutRow w base e A c Q) : Q.length ≤ c := by
  rcases h with ⟨_, h2, h3⟩ | ⟨g, off, cs, h1, h2, h3, h4, r⟩
  · rw [h2, h3]; exact Nat.le_refl _
  · exact h4
/-- The head of one that has something. -/
theorem CutRow.head {w : World} {base : Nat} {e : TypeId} {A : Option Addr} {c q : Nat} {Q : List Nat} (h : CutRow w base e A c (q :: Q)) : ∃ g off, A = some ⟨g, off, none⟩ ∧ base ≤ g ∧ g < w.heap.size ∧ w.cell? ⟨g, off, none⟩ = some (.int .i64 (q : Int)) := by
  rcases h with ⟨_, _, h3⟩ | ⟨g, off, cs, h1, h2, h3, h4, h5, h6⟩
  · cases h3
  · exact ⟨g, off, h1, h2, h3.lt, by rw [h3.cell]; exact h6 0 q rfl⟩

section
variable {P : Program} (w : World)
theorem run_append_cut (t ty : TypeId) (base : Nat) (e : TypeId) (i : TypeInfo) (z : Value) (ht : P.underlying t = some (.slice e)) (hi : P.info? e = some i) (hz : i.zero = some z)
    (hsize : i.size = 1) (hby : i.bytes = 8) (hzs : z.cells.size = 1) (A : Option Addr) (c : Nat) (Q : List Nat) (hown : CutRow w base e A c Q) (hbase : base ≤ w.heap.size) (hQ : Q.length ≤ 1000000)
    (ad : Addr) (m x : Nat) (hnews : w.cell? ad = some (.int .i64 (x : Int))) :
    ∃ A' c' w', (Builtin.append_ #[t, t] ty #[.slice A Q.length c, .slice (some ad) 1 m]).run P w = .ok (.slice A' (Q.length + 1) c') w' ∧ CutRow w' base e A' c' (Q ++ [x]) ∧ Below base w w' ∧
      ∀ (b : Nat) (tb : TypeId) (cs : Array Value), tb ≠ e → Blk w b tb cs → Blk w' b tb cs := by
  have hadd : ∀ (a : Addr), a.add 0 = a := fun a => by unfold Addr.add; split <;> simp_all
  have hsrc : Src P i.size t (.slice (some ad) 1 m) 1 [.int .i64 (x : Int)] w := by
    rw [hsize]
    refine Src.ofSlice w ht ad 1 m _ rfl (fun j u hu => ?_) (fun u hu => by simp at hu; subst hu; rfl)
    cases j with
    | zero => simp at hu; subst hu; rw [hadd]; exact hnews
    | succ j => simp at hu
  have grow : ∀ (olds : List Value) (hold : (Builtin.firstCells i.size Q.length (.slice A Q.length c)).run P w.drew = .ok olds.toArray w.drew) (hol : olds.length = Q.length) (hov : ∀ (j y : Nat), Q[j]? = some y → olds[j]? = some (.int .i64 (y : Int))) (hc : c < Q.length + 1),
      ∃ A' c' w', (Builtin.append_ #[t, t] ty #[.slice A Q.length c, .slice (some ad) 1 m]).run P w = .ok (.slice A' (Q.length + 1) c') w' ∧ CutRow w' base e A' c' (Q ++ [x]) ∧ Below base w w' ∧
      ∀ (b : Nat) (tb : TypeId) (cs : Array Value), tb ≠ e → Blk w b tb cs → Blk w' b tb cs := by
    intro olds hold hol hov hc
    have hr := run_append_grow_src (P := P) w t t ty e i z ht hi hz A Q.length c olds hold _ 1 _ hsrc hc (by omega) (growslice_fits hc (by rw [hby]; omega))
    have hge := grownCap_ge w (Q.length + 1) c e
    have hbl : Below w.heap.size w (w.drew.alloc (.cells ((olds ++ [Value.int .i64 (x : Int)]).toArray ++ Builtin.zeroCells z.cells (grownCap w (Q.length + 1) c e - (Q.length + 1))) e)) := ((Below.refl _ w).drew).alloc (Nat.le_refl _) _
    refine ⟨_, _, _, hr, .inr ⟨w.heap.size, 0, _, rfl, hbase, Blk.new w.drew e _, by simp; omega, ?_, fun j y hj => ?_⟩, hbl.mono hbase, fun b tb cs _ hb => hb.below hbl hb.lt⟩
    · rw [Array.size_append, size_zeroCells, hzs]
      simp only [List.size_toArray, List.length_append, List.length_cons, List.length_nil, hol]
      omega
    · have hl : j < (Q ++ [x]).length := (List.getElem?_eq_some_iff.1 hj).1
      simp only [List.length_append, List.length_cons, List.length_nil] at hl
      rw [Nat.zero_add, Array.getElem?_append_left (by simp only [List.size_toArray, List.length_append, List.length_cons, List.length_nil, hol]; omega)]
      rw [List.getElem?_toArray]
      by_cases hjq : j < Q.length
      · rw [List.getElem?_append_left hjq] at hj
        rw [List.getElem?_append_left (by omega)]
        exact hov j y hj
      · have hje : j = Q.length := by omega
        subst hje
        rw [List.getElem?_append_right (Nat.le_refl _)] at hj
        rw [List.getElem?_append_right (by omega), hol]
        simp at hj
        subst hj
        simp
  rcases hown with ⟨rfl, rfl, rfl⟩ | ⟨g, off, cs, rfl, hg, hb, hl, hs, hv⟩
  · exact grow [] (run_firstCells_none _ _ _ _ _) rfl (fun j y h => by simp at h) (by simp)
  · by_cases hc : c < Q.length + 1
    · refine grow (Q.map fun (y : Nat) => Value.int .i64 (y : Int)) ?_ (by simp) (fun j y h => by simp [h]) hc
      refine run_firstCells_some _ _ _ _ _ _ _ (by rw [hsize]; simp) (fun j u hu => ?_)
      rw [List.getElem?_map] at hu
      obtain ⟨y, hy, rfl⟩ := Option.map_eq_some_iff.1 hu
      rw [show (⟨g, off, none⟩ : Addr).add j = ⟨g, off + j, none⟩ from by unfold Addr.add; split <;> simp_all]
      show w.cell? _ = _
      rw [hb.cell]
      exact hv j y hy
    · have hin : off + Q.length < cs.size := by omega
      have hr := run_append_room_src (P := P) w t t ty e i ht hi g off Q.length c _ 1 _ hsrc (by omega)
        (fun j hj => by simp at hj; subst hj; rw [hsize, hb.cell]; simp; omega) (fun j hj => by simp at hj; subst hj; rw [hsize]; exact hb.frozen _)
      have e1 : w.setCells g (off + Q.length * i.size) [Value.int .i64 (x : Int)] = w.setCell ⟨g, off + Q.length, none⟩ (.int .i64 (x : Int)) := by rw [hsize, Nat.mul_one]; rfl
      rw [e1] at hr
      have hbl : Below base w (w.setCell ⟨g, off + Q.length, none⟩ (.int .i64 (x : Int))) := (Below.refl _ w).setCell (by exact hg) _
      refine ⟨_, _, _, hr, .inr ⟨g, off, _, rfl, hg, hb.set_ _ _, by simp; omega, by rw [Array.size_setIfInBounds]; exact hs, fun j y hj => ?_⟩, hbl, fun b tb cs' hne hbb => ?_⟩
      · by_cases hjq : j < Q.length
        · rw [List.getElem?_append_left hjq] at hj
          rw [Array.getElem?_setIfInBounds_ne (by omega)]
          exact hv j y hj
        · have hl2 : j < (Q ++ [x]).length := (List.getElem?_eq_some_iff.1 hj).1
          simp only [List.length_append, List.length_cons, List.length_nil] at hl2
          have hje : j = Q.length := by omega
          subst hje
          rw [List.getElem?_append_right (Nat.le_refl _)] at hj
          simp at hj
          subst hj
          rw [Array.getElem?_setIfInBounds_self_of_lt hin]
      · refine hbb.far (fun hbg => ?_) _
        have hbg' : b = g := hbg
        subst hbg'
        unfold Blk at hb hbb
        rw [hb] at hbb
        simp at hbb
        exact hne hbb.2.symm
/-- At the list of a plain region's operations. -/
theorem wpList_append_cut {ops : Array Oper} {rest : List Oper} {o : Oper} {a : Act} {R : Exit → Act → World → Prop} (hgd : o.guard = none) (s x : Operand) (t : TypeId)
    (ho : o.op = .call { callee := .builtin .append, args := #[s, x], argTypes := #[t, t] }) (base : Nat) (e : TypeId) (i : TypeInfo) (z : Value) (ht : P.underlying t = some (.slice e)) (hi : P.info? e = some i) (hz : i.zero = some z)
    (hsize : i.size = 1) (hby : i.bytes = 8) (hzs : z.cells.size = 1) (A : Option Addr) (n c : Nat) (Q : List Nat) (hs : a.eval s = .slice A n c) (hn : n = Q.length) (hown : CutRow w base e A c Q) (hbase : base ≤ w.heap.size) (hQ : Q.length ≤ 1000000)
    (ad : Addr) (m k : Nat) (hx : a.eval x = .slice (some ad) 1 m) (hnews : w.cell? ad = some (.int .i64 (k : Int)))
    (h : ∀ A' c' w', CutRow w' base e A' c' (Q ++ [k]) → Below base w w' → (∀ (b : Nat) (tb : TypeId) (cs : Array Value), tb ≠ e → Blk w b tb cs → Blk w' b tb cs) → wpList P ops R rest (a.put o.dst (.slice A' (n + 1) c')) w') : wpList P ops R (o :: rest) a w := by
  subst hn
  refine wpList_plain hgd fun K hK => ?_
  obtain ⟨A', c', w', hr, h2, h3, h4⟩ := run_append_cut (P := P) w t o.type base e i z ht hi hz hsize hby hzs A c Q hown hbase hQ ad m k hnews
  unfold Oper.wp execOp
  simp only [ho, resolve, invoke, builtin, Sem.run_bind, Sem.run_pure, Result.andThen_ok, List.map_toArray, List.map_cons, List.map_nil, hs, hx, hr]
  exact hK _ _ (h A' c' w' h2 h3 h4)
/-- The head is cut off. -/
theorem run_tail_cut (t : TypeId) (base : Nat) (e : TypeId) (ht : P.underlying t = some (.slice (P.elem t))) (hsz : ∀ w' : World, (sizeOf (P.elem t)).run P w' = .ok 1 w') (A : Option Addr) (c q : Nat) (Q : List Nat) (hown : CutRow w base e A c (q :: Q)) :
    ∃ A' c', (∀ w' : World, (Instr.slice t (.slice A (Q.length + 1) c) (some (.int .i64 1)) none none).run P w' = .ok (.slice A' Q.length c') w') ∧ CutRow w base e A' c' Q := by
  rcases hown with ⟨_, _, h⟩ | ⟨g, off, cs, rfl, hg, hb, hl, hs, hv⟩
  · cases h
  · simp only [List.length_cons] at hl
    refine ⟨if c = 1 then some ⟨g, off, none⟩ else some ⟨g, off + 1, none⟩, c - 1, fun w' => ?_, .inr ?_⟩
    · rw [run_slice_l w' t (some ⟨g, off, none⟩) (Q.length + 1) c ht .i64 1 (by omega) (by omega), hsz]
      simp only [Result.andThen_ok, sliced]
      rw [show (1 : Int).toNat = 1 from rfl, Nat.add_sub_cancel]
      rfl
    · by_cases hc : c = 1
      · subst hc
        have hQ : Q = [] := List.eq_nil_of_length_eq_zero (by omega)
        subst hQ
        exact ⟨g, off, cs, rfl, hg, hb, by simp, by omega, fun j x h => by simp at h⟩
      · refine ⟨g, off + 1, cs, by rw [if_neg hc], hg, hb, by omega, by omega, fun j x h => ?_⟩
        have := hv (j + 1) x (by simpa using h)
        rwa [show off + 1 + j = off + (j + 1) by omega]
end
end MM
end Go.Proofs.Ytomncnelkkmalac
