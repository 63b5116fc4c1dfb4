/- What tree.touching answers: the extents of a tree that touch a range, behind a row of the call's own. No condition but those that each theorem names. -/
import Derived.Test.YtdjlflinepefbabGreatQ08
import Derived.Test.YtdjlflinepefbabGreatQ10

namespace Go.Proofs.YtdjlflinepefbabGreat
open Go.RowKit
namespace TR
open MM EX LF
set_option linter.unusedVariables false
set_option linter.unusedSimpArgs false

theorem info_ext : (Tryz.prog.info? 41).map (fun i => (i.zero, i.size, i.bytes)) = some (some (.agg #[.int .i64 0, .int .i64 0, .int .i64 0, .int .i64 0]), 4, 32) := by kernel_rfl
/-- A row of the call's own that reads as a list; all below a size stays. -/
def TEnd (B : Nat) (L : List Ext) (w : World) (r : Ending) (w' : World) : Prop := ∃ A n c, r = .returned (.slice A n c) ∧ w'.ownsRow B 41 4 (.slice A n c) L.length (exCells L) ∧ n = L.length ∧ Below B w w'
theorem own_len {w : World} {base : Nat} {e : TypeId} {size : Nat} {A : Option Addr} {k c n : Nat} {xs : List Value} (h : w.ownsRow base e size (.slice A k c) n xs) : k = n := by
  rcases h.2 with ⟨h1, h2⟩ | ⟨g, cap, cur, h1, _⟩
  · injection h1 with _ e1 _; omega
  · injection h1 with _ e1 _
theorem vl_zero (t : Tr 0) : vl 0 t = .iface 156 (.pointer (some ⟨(lf t).blk, 0, none⟩)) := rfl
theorem vl_succ {h : Nat} (t : Tr (h + 1)) : vl (h + 1) t = .iface 161 (.pointer (some ⟨(nd t).blk, 0, none⟩)) := rfl
set_option maxRecDepth 100000 in
theorem touch_none_any (A : Option Addr) (n c : Nat) (a b : Int) (w : World) : Calls Tryz.prog 61 #[.slice A n c, .nilIface, .int .i64 a, .int .i64 b] w fun r w' => r = .returned (.slice A n c) ∧ w = w' := by
  have a1 := as_nb
  have a2 := as_ni
  go_enter Tryz.func61, Tryz.ntmps61
  go_wp2
  go_ret
  exact ⟨rfl, rfl⟩
theorem touch_take {l : List Ext} {k : Nat} {e : Ext} (he : l[k]? = some e) (a b : Int) : touch (l.take (k + 1)) a b = touch (l.take k) a b ++ if a ≤ fin e ∧ e.from_ ≤ b then [e] else [] := by
  rw [List.take_add_one, he, touch_append]
  congr 1
  unfold touch
  by_cases h : a ≤ fin e ∧ e.from_ ≤ b
  · rw [if_pos h]; simp [h]
  · rw [if_neg h]
    have : ¬ (a ≤ fin e) ∨ ¬ (e.from_ ≤ b) := by
      by_cases h1 : a ≤ fin e
      · exact .inr fun h2 => h ⟨h1, h2⟩
      · exact .inl h1
    rcases this with h1 | h1 <;> simp [h1]
set_option maxRecDepth 100000 in
set_option maxHeartbeats 8000000 in
theorem touch0_any (w0 w : World) (t : Tr 0) (hr : Rep 0 w0 t) (hb : Below w0.heap.size w0 w) (hO : ∀ e ∈ flat 0 t, One e) (L : List Ext) (A : Option Addr) (n c : Nat) (hv : w.ownsRow w0.heap.size 41 4 (.slice A n c) L.length (exCells L)) (a b : Int) (hm : L.length + (flat 0 t).length ≤ 1000000) :
    Calls Tryz.prog 61 #[.slice A n c, vl 0 t, .int .i64 a, .int .i64 b] w (TEnd w0.heap.size (L ++ touch (flat 0 t) a b) w) := by
  obtain ⟨i0, hi, hz0, hz1, hz2⟩ := info_parts info_ext
  obtain ⟨A1, c1, hc1, hbk, hx⟩ := hr
  have hbk2 := hbk.below hb hbk.lt
  obtain ⟨k0, k1⟩ := cells2t hbk2
  obtain ⟨E, hE⟩ : ∃ E, E = (lf t).xs := ⟨_, rfl⟩
  have hEl : flat 0 t = E := hE.symm
  rw [← hE] at hx k1
  rw [hEl] at hO hm ⊢
  obtain ⟨m, hmm⟩ : ∃ m, m = E.length := ⟨_, rfl⟩
  rw [← hmm] at k1 hm
  have hm6 : m ≤ 1000000 := by omega
  have HM := Lib.hid hmm
  have HX := Lib.hid hx
  have HOO := Lib.hid hO
  have HOW := Lib.hid hv
  have HN := Lib.hid (own_len hv)
  have HLM := Lib.hid hm
  have HB := Lib.hid hb
  have hw0 := hb.size
  rw [vl_zero]
  obtain ⟨BB, hBB⟩ : ∃ B, B = (lf t).blk := ⟨_, rfl⟩
  rw [← hBB] at k0 k1 ⊢
  clear hbk hbk2 hE hEl hx hc1 hO hmm hv hm hBB hb
  have a1 := as_bb
  go_enter Tryz.func61, Tryz.ntmps61
  go_wp2
  go_loopw [0, 24] (fun v i wr => ∃ (k : Nat) (A2 : Option Addr) (n2 c2 : Nat), k ≤ m ∧ i = .int .i64 k ∧ v = .slice A2 n2 c2 ∧ Hid (wr.ownsRow w0.heap.size 41 4 (.slice A2 n2 c2) (L ++ touch (E.take k) a b).length (exCells (L ++ touch (E.take k) a b))) ∧ Below w0.heap.size w wr) (fun _ i _ => m - (intOf i).toNat)
  case atStart => exact ⟨0, A, n, c, Nat.zero_le _, rfl, rfl, Lib.hid (by simpa [touch] using HOW.out), Below.refl _ _⟩
  case round =>
    obtain ⟨k, A2, n2, c2, hk, rfl, rfl, HO2, hbel⟩ := hrel
    have HBL := Lib.hid hbel
    have hsz : w0.heap.size ≤ wr.heap.size := Nat.le_trans hw0 hbel.size
    by_cases hlt : k < m
    · obtain ⟨e, he⟩ : ∃ e, E[k]? = some e := ⟨_, List.getElem?_eq_getElem (by rw [← HM.out]; exact hlt)⟩
      have ho := HOO.out e (List.mem_of_getElem? he)
      have HTT := Lib.hid (touch_take he a b)
      obtain ⟨q0, q1, q2, q3⟩ : ∃ eb eo, A1 = some ⟨eb, eo, none⟩ ∧ Cells4 wr eb (eo + k * 4) e := by
        rcases HX.out with h0 | ⟨b', off, h1, h2, h3⟩
        · rw [h0] at he; simp at he
        · exact ⟨b', off, h1, (h3 k e he).kept (HB.out.trans hbel) h2⟩
      obtain ⟨eo, rfl, z0, z1, z2, z3⟩ : ∃ eo, A1 = some ⟨q0, eo, none⟩ ∧ Cells4 wr q0 (eo + k * 4) e := ⟨q1, q2, q3⟩
      have t1 : (k : Int) < (m : Int) := by omega
      have t2 : (0 : Int) ≤ (k : Int) := by omega
      have w1 : IntKind.i64.wrap (e.from_ + e.n) = fin e := by
        have := ho.high; have := ho.low; have := ho.lt
        unfold fin at *
        rw [IntWalk.i64_in _ (by omega)]
      have hb8 := Lib.hid (HBL.out.alloc hsz (.cells #[.int .i64 e.from_, .int .i64 e.n, .int .i64 e.kind, .int .i64 e.at_] 41))
      clear he hbel ho q3 q2 q1
      by_cases c1' : a ≤ fin e
      · by_cases c2' : e.from_ ≤ b
        · rw [if_pos ⟨c1', c2'⟩] at HTT
          have HLL : Hid ((L ++ touch (E.take k) a b).length + 1 ≤ 1000001) := Lib.hid (by
            have h1 := (touch_sub (E.take k) a b).length_le
            have h2 := HLM.out
            rw [List.length_take] at h1
            rw [List.length_append]; omega)
          go_wp2_with (at_builtin; refine wpList_append_own _ rfl _ _ 61 rfl w0.heap.size 41 i0 (.agg #[.int .i64 0, .int .i64 0, .int .i64 0, .int .i64 0]) 4 32 Tryz.underlying61 hi hz0 hz1 hz2 rfl (by decide) _ _ _ rfl ((HO2.out.alloc _).alloc _) ⟨wr.heap.size + 1, 0, none⟩ 1 1 [.int .i64 e.from_, .int .i64 e.n, .int .i64 e.kind, .int .i64 e.at_] rfl rfl ?c1 ?c2 ?c3 ?c4 ?c5 ?_)
          case c1 => exact new_cellsH _ _ _ _ (by simp)
          case c2 => intro u hu; simp at hu; rcases hu with rfl | rfl | rfl | rfl <;> rfl
          case c3 => have := HLL.out; unfold maxLen; omega
          case c4 => have := HLL.out; omega
          case c5 => simp; omega
          intro v8 w8 own8 hgrow _
          have own9 : w8.ownsRow w0.heap.size 41 4 v8 (L ++ touch (E.take (k + 1)) a b).length (exCells (L ++ touch (E.take (k + 1)) a b)) := by
            rw [HTT.out, ← List.append_assoc, ← exCells_snoc, List.length_append, List.length_append]; exact own8
          have hl8 : Below w0.heap.size w w8 := ((hb8.out.alloc (by simp; omega) _)).grown hgrow (by simp; omega) (fun j hj => (HO2.out.lt j hj).1)
          obtain ⟨A8, c8, rfl⟩ := own_slice own9
          have O8 := Lib.hid own9
          have L8 := Lib.hid hl8
          clear own8 own9 hl8 hgrow
          go_wp2
          go_roundw
          case rel => exact ⟨k + 1, A8, _, c8, by omega, by go_num, rfl, O8, L8.out⟩
          case measure => simp [intOf]; omega
        · have c2'' : decide (e.from_ ≤ b) = false := decide_eq_false c2'
          rw [if_neg (fun h => c2' h.2), List.append_nil] at HTT
          go_wp2
          go_roundw
          case rel => exact ⟨k + 1, A2, n2, c2, by omega, by go_num, rfl, Lib.hid (by rw [HTT.out]; exact HO2.out.alloc _), hb8.out⟩
          case measure => simp [intOf]; omega
      · have c1'' : decide (a ≤ fin e) = false := decide_eq_false c1'
        rw [if_neg (fun h => c1' h.1), List.append_nil] at HTT
        go_wp2
        go_roundw
        case rel => exact ⟨k + 1, A2, n2, c2, by omega, by go_num, rfl, Lib.hid (by rw [HTT.out]; exact HO2.out.alloc _), hb8.out⟩
        case measure => simp [intOf]; omega
    · obtain rfl : k = m := by omega
      have t1 : ¬ (k : Int) < (k : Int) := by omega
      clear hbel
      go_wp2
      go_ret
      have h1 := HO2.out
      rw [List.take_of_length_le (by rw [← HM.out]; exact Nat.le_refl _)] at h1
      exact ⟨A2, n2, c2, rfl, h1, own_len h1, HBL.out⟩
/-- What was there stays. -/
structure Bw (w : World) (w' : World) : Prop where
  bel : Below w.heap.size w w'
theorem Bw.below {w w1 w2 : World} (h : Bw w w1) (hb : Below w1.heap.size w1 w2) : Bw w w2 := ⟨h.bel.trans (hb.mono h.bel.size)⟩
theorem Rep.from {h : Nat} {w0 w : World} {t : Tr h} (hr : Rep h w0 t) (hb : Below w0.heap.size w0 w) : Rep h w t := hr.below hb
def TouchOk (h : Nat) : Prop := ∀ (w0 w : World) (t : Tr h), Rep h w0 t → Weak h t → Below w0.heap.size w0 w → WV (flat h t) → ∀ (L : List Ext) (A : Option Addr) (n c : Nat), w.ownsRow w0.heap.size 41 4 (.slice A n c) L.length (exCells L) → ∀ (a b : Int), a ≤ b + 1 → 0 ≤ a → a ≤ 40000000 → b ≤ 40000000 → L.length + (flat h t).length ≤ 1000000 →
    Calls Tryz.prog 61 #[.slice A n c, vl h t, .int .i64 a, .int .i64 b] w (TEnd w0.heap.size (L ++ touch (flat h t) a b) w)
theorem touch0_ok : TouchOk 0 := fun w0 w t hr hw hb hv L A n c ho a b hab h0 h1 h2 hm => touch0_any w0 w t hr hb hv.1 L A n c ho a b hm
theorem flats_sub {h : Nat} {a b : List (Tr h)} (s : a.Sublist b) : (flats h a).Sublist (flats h b) := by
  induction s with
  | slnil => exact List.Sublist.refl _
  | cons x s ih => rw [flats_cons]; exact ih.trans (List.sublist_append_right _ _)
  | cons_cons x s ih => rw [flats_cons, flats_cons]; exact (List.Sublist.refl _).append ih
theorem kid_sub {h : Nat} {ks : List (Tr h)} {k : Tr h} (hk : k ∈ ks) : (flat h k).Sublist (flats h ks) := by
  obtain ⟨x, y, rfl⟩ := List.append_of_mem hk
  rw [flats_append, flats_cons]
  exact (List.sublist_append_left _ _).trans (List.sublist_append_right _ _)
set_option maxRecDepth 100000 in
set_option maxHeartbeats 8000000 in
theorem touch1_any {h : Nat} (ih : TouchOk h) (w0 w : World) (t : Tr (h + 1)) (hr : Rep (h + 1) w0 t) (hw : Weak (h + 1) t) (hb : Below w0.heap.size w0 w) (hv : WV (flat (h + 1) t)) (L : List Ext) (A : Option Addr) (n c : Nat) (hown : w.ownsRow w0.heap.size 41 4 (.slice A n c) L.length (exCells L)) (a b : Int) (hab : a ≤ b + 1) (ha0 : 0 ≤ a) (ha1 : a ≤ 40000000) (hb1 : b ≤ 40000000) (hm : L.length + (flat (h + 1) t).length ≤ 1000000) :
    Calls Tryz.prog 61 #[.slice A n c, vl (h + 1) t, .int .i64 a, .int .i64 b] w (TEnd w0.heap.size (L ++ touch (flat (h + 1) t) a b) w) := by
  have hU := iunder_any h t hw
  have hsz := hw.size_pos
  rw [show size (h + 1) t = (nd t).xs.length from rfl] at hsz
  have hkw := hw.kid
  have hrw := hr.from hb
  rw [flat_succ] at hv hm ⊢
  obtain ⟨ks, hks⟩ : ∃ ks, ks = (nd t).xs := ⟨_, rfl⟩
  rw [← hks] at hU hsz hkw hv hm
  rw [← hks]
  obtain ⟨i, hi⟩ : ∃ i, i = und (keys h ks) (a - 1) ks.length := ⟨_, rfl⟩
  obtain ⟨j, hj⟩ : ∃ j, j = und (keys h ks) b ks.length := ⟨_, rfl⟩
  obtain ⟨hij, hjl, htk⟩ := touch_kids hv (fun k hk => (hkw k hk).flat_pos) a b hab i j hi hj
  have hjl := hjl (by omega)
  have HU1 : Hid (∀ w1, Below w.heap.size w w1 → Calls Tryz.prog 91 #[.pointer (some ⟨(nd t).blk, 0, none⟩), .int .i64 (a - 1)] w1 fun r w' => r = .returned (.int .i64 (i : Nat)) ∧ Below w1.heap.size w1 w') := Lib.hid fun w1 h1 => by rw [hi]; exact hU (a - 1) w1 (hrw.below h1)
  have HU2 : Hid (∀ w1, Below w.heap.size w w1 → Calls Tryz.prog 91 #[.pointer (some ⟨(nd t).blk, 0, none⟩), .int .i64 b] w1 fun r w' => r = .returned (.int .i64 (j : Nat)) ∧ Below w1.heap.size w1 w') := Lib.hid fun w1 h1 => by rw [hj]; exact hU b w1 (hrw.below h1)
  obtain ⟨A1, c1, hc1, hbk, hvs, hrs⟩ := hr
  rw [← hks] at hc1 hbk hvs hrs
  have hbk2 := hbk.below hb hbk.lt
  obtain ⟨kb, ko, rfl, hkb, hkc⟩ : ∃ b off, A1 = some ⟨b, off, none⟩ ∧ b < w0.heap.size ∧ ∀ (i : Nat) (k : Tr h), ks[i]? = some k → w0.cell? ⟨b, off + i, none⟩ = some (vl h k) := by
    rcases hvs with h0 | ⟨b, off, h1, h2, h3⟩
    · rw [List.map_eq_nil_iff] at h0; rw [h0] at hsz; simp at hsz
    · exact ⟨b, off, h1, h2, fun i k hk => h3 i _ (by rw [List.getElem?_map, hk]; rfl)⟩
  obtain ⟨nk, hnk⟩ : ∃ nk, nk = ks.length := ⟨_, rfl⟩
  rw [← hnk] at hbk2 hc1 hjl hsz
  rw [vl_succ]
  obtain ⟨BB, hBB⟩ : ∃ B, B = (nd t).blk := ⟨_, rfl⟩
  rw [← hBB] at hbk2 HU1 HU2
  rw [← hBB]
  have HK := Lib.hid hbk2
  have HB := Lib.hid hb
  have hw0 := hb.size
  have HOW := Lib.hid hown
  have HRS := Lib.hid hrs
  have HKC := Lib.hid hkc
  have HKB := Lib.hid hkb
  have HKW := Lib.hid hkw
  have HV := Lib.hid hv
  have HM := Lib.hid hm
  have HTK := Lib.hid htk
  have HNK := Lib.hid hnk
  have e1 : IntKind.i64.wrap (a - 1) = a - 1 := IntWalk.i64_in _ (by omega)
  obtain ⟨j1, hj1⟩ : ∃ x, x = j + 1 := ⟨_, rfl⟩
  have e2 : IntKind.i64.wrap ((j : Int) + 1) = (j1 : Int) := by rw [IntWalk.i64_in _ (by omega)]; omega
  have e3 : (i : Int) ≤ (j1 : Int) := by omega
  have e4 : (j1 : Int) ≤ (c1 : Int) := by omega
  have e5 : ¬ (c1 = i) := by omega
  have HJ1 := Lib.hid hj1
  have HSZ := Lib.hid hsz
  have HIJ := Lib.hid hij
  have HJL := Lib.hid hjl
  clear hbk hbk2 hb hown hrs hkc hvs hkb hkw hv hm htk hnk hks hi hj hU hrw hBB hw hc1 hjl hij hsz hj1
  have a1 := as_ib
  have a2 := as_ii
  go_enter Tryz.func61, Tryz.ntmps61
  go_wp2
  have k1 := fun x : Wd (Bw w) => (HK.out.below x.ok.bel HK.out.lt).cell 1
  have k1' : ∀ x : Wd (Bw w), x.w.cell? ⟨BB, 1, none⟩ = some (.slice (some ⟨kb, ko, none⟩) nk c1) := k1
  have HX1 := Lib.hid (fun x : Wd (Bw w) => HU1.out x.w x.ok.bel)
  have HX2 := Lib.hid (fun x : Wd (Bw w) => HU2.out x.w x.ok.bel)
  have HI : Hid (Bw w w.drew) := Lib.hid ⟨(Below.refl _ _).drew⟩
  have hNE : Nonempty (Wd (Bw w)) := ⟨⟨_, HI.out⟩⟩
  clear k1
  refine wp_region_inv (Bw w) (by kernel_rfl) (by kernel_rfl) HI.out ?_
  repeat (go_big_quiet_step (first | (go_at_call 91; with_reducible refine inv_call _ (fun _ _ => Bw.below) (HX1.out _)) | (go_at_call 91; with_reducible refine inv_call _ (fun _ _ => Bw.below) (HX2.out _))))
  refine wpQuiet_nil ?_
  intro _ hw'
  obtain ⟨⟨w9, h9⟩, hw''⟩ := hw'
  subst hw''
  have H9 := Lib.hid h9.bel
  clear h9 k1' HI
  obtain ⟨M, hM⟩ : ∃ M, M = (ks.take j1).drop i := ⟨_, rfl⟩
  have hMl : M.length = j1 - i := by have := HNK.out; have := HJL.out; have := HJ1.out; rw [hM, List.length_drop, List.length_take]; omega
  have HMG : Hid (∀ k, k < j1 - i → M[k]? = ks[i + k]?) := Lib.hid fun k hk => by rw [hM, List.getElem?_drop, List.getElem?_take_of_lt (by omega)]
  have HTM : Hid (touch (flats h ks) a b = M.flatMap fun k => touch (flat h k) a b) := Lib.hid (by rw [HTK.out, hM, HJ1.out])
  have HML := Lib.hid hMl
  clear hM hMl
  have hj9 : j1 - i ≤ 100 := by have := HSZ.out; have := HNK.out; have := HJL.out; have := HJ1.out; omega
  go_wp2
  go_loopw [0, 63] (fun v i' wr => ∃ (k : Nat) (A2 : Option Addr) (n2 c2 : Nat), k ≤ j1 - i ∧ i' = .int .i64 k ∧ v = .slice A2 n2 c2 ∧ Hid (wr.ownsRow w0.heap.size 41 4 (.slice A2 n2 c2) (L ++ (M.take k).flatMap fun k => touch (flat h k) a b).length (exCells (L ++ (M.take k).flatMap fun k => touch (flat h k) a b))) ∧ Below w0.heap.size w wr) (fun _ i' _ => j1 - i - (intOf i').toNat)
  case atStart => exact ⟨0, A, n, c, Nat.zero_le _, rfl, rfl, Lib.hid (by simpa using MM.own_kept HOW.out H9.out), H9.out.mono hw0⟩
  case round =>
    obtain ⟨k, A2, n2, c2, hk, rfl, rfl, HO2, hbel⟩ := hrel
    have HBL := Lib.hid hbel
    have hszr : w0.heap.size ≤ wr.heap.size := Nat.le_trans hw0 hbel.size
    by_cases hlt : k < j1 - i
    · have hkl : i + k < ks.length := by have := HNK.out; have := HJL.out; have := HJ1.out; omega
      obtain ⟨e, he⟩ : ∃ e, ks[i + k]? = some e := ⟨_, List.getElem?_eq_getElem hkl⟩
      have hem := List.mem_of_getElem? he
      have hcell : wr.cell? ⟨kb, ko + i + k, none⟩ = some (vl h e) := by
        have := HKC.out (i + k) e he
        rw [← Nat.add_assoc] at this
        exact ((HB.out.trans hbel).cell (p := ⟨kb, ko + i + k, none⟩) HKB.out).trans this
      have hMk : M[k]? = some e := (HMG.out k hlt).trans he
      have hsum : (L ++ (M.take k).flatMap fun k => touch (flat h k) a b).length + (flat h e).length ≤ 1000000 := by
        have h1 := HM.out
        have key : ∀ l : List (Tr h), (l.flatMap fun k => touch (flat h k) a b).length ≤ (flats h l).length := by
          intro l
          rw [← touch_flats]; exact (touch_sub _ _ _).length_le
        have h2 := key (M.take k)
        have e5 : M = M.take k ++ e :: M.drop (k + 1) := by
          have hkM : k < M.length := by rw [HML.out]; exact hlt
          have hMe : M[k] = e := by rw [List.getElem?_eq_getElem hkM] at hMk; exact Option.some.inj hMk
          rw [← hMe, List.getElem_cons_drop hkM, List.take_append_drop]
        have h3 : (flats h (M.take k)).length + (flat h e).length ≤ (flats h M).length := by
          conv => rhs; rw [e5, flats_append, flats_cons]
          simp only [List.length_append]; omega
        have h4 : (flats h M).length ≤ (flats h ks).length := by
          have hsub : M.Sublist ks := by
            have : M = (ks.take j1).drop i := by
              apply List.ext_getElem?
              intro x
              by_cases hx : x < j1 - i
              · rw [HMG.out x hx, List.getElem?_drop, List.getElem?_take_of_lt (by omega)]
              · rw [List.getElem?_eq_none (by rw [HML.out]; omega), List.getElem?_eq_none (by rw [List.length_drop, List.length_take]; omega)]
            rw [this]
            exact (List.drop_sublist _ _).trans (List.take_sublist _ _)
          exact (flats_sub hsub).length_le
        rw [List.length_append]; omega
      have HIH := Lib.hid (ih w0 wr e (HRS.out e hem) (HKW.out e hem) (HB.out.trans hbel) (HV.out.sub (kid_sub hem)) (L ++ (M.take k).flatMap fun k => touch (flat h k) a b) A2 n2 c2 HO2.out a b hab ha0 ha1 hb1 hsum)
      have HST : Hid ((M.take (k + 1)).flatMap (fun k => touch (flat h k) a b) = (M.take k).flatMap (fun k => touch (flat h k) a b) ++ touch (flat h e) a b) := Lib.hid (by rw [List.take_add_one, hMk]; simp)
      have t1 : (k : Int) < ((j1 - i : Nat) : Int) := by omega
      have t2 : (0 : Int) ≤ (k : Int) := by omega
      obtain ⟨ve, hve⟩ : ∃ v, v = vl h e := ⟨_, rfl⟩
      rw [← hve] at hcell HIH
      clear he hem hMk hsum hbel hve
      go_wp2_with fail
      refine HIH.out.mono ?_
      rintro r w2 ⟨A3, n3, c3, rfl, ho3, hn3, hb3⟩
      have HO3 : Hid (w2.ownsRow w0.heap.size 41 4 (.slice A3 n3 c3) (L ++ (M.take (k + 1)).flatMap fun k => touch (flat h k) a b).length (exCells (L ++ (M.take (k + 1)).flatMap fun k => touch (flat h k) a b))) := Lib.hid (by rw [HST.out, ← List.append_assoc]; exact ho3)
      have HB3 := Lib.hid (HBL.out.trans hb3)
      clear ho3 hn3 hb3
      go_wp2
      go_roundw
      case rel => exact ⟨k + 1, A3, n3, c3, by omega, by go_num, rfl, HO3, HB3.out⟩
      case measure => simp [intOf]; omega
    · obtain rfl : k = j1 - i := by omega
      have t1 : ¬ ((j1 - i : Nat) : Int) < ((j1 - i : Nat) : Int) := by omega
      clear hbel
      go_wp2
      go_ret
      have h1 := HO2.out
      rw [List.take_of_length_le (by rw [HML.out]; exact Nat.le_refl _), ← HTM.out] at h1
      exact ⟨A2, n2, c2, rfl, h1, own_len h1, HBL.out⟩
theorem touch_ok : ∀ h, TouchOk h
  | 0 => touch0_ok
  | h + 1 => fun w0 w t hr hw hb hv L A n c ho a b hab h0 h1 h2 hm => touch1_any (touch_ok h) w0 w t hr hw hb hv L A n c ho a b hab h0 h1 h2 hm
end TR
end Go.Proofs.YtdjlflinepefbabGreat
