/- 2 texts laid together: each says at its head what it proves. No condition but those that each theorem names. -/
import Derived.Test.YtdjlflinepefbabGreatQ09
import Derived.WalkKit
import Derived.BigQuiet
import Derived.Below

/- What tree.leaves and tree.inners answer: fresh nodes that have the parts of a list. No condition but those that each theorem names. -/
namespace Go.Proofs.YtdjlflinepefbabGreat
open Go.RowKit
namespace TR
open MM EX LF
set_option linter.unusedVariables false
set_option linter.unusedSimpArgs false

theorem info_node : (Tryz.prog.info? 80).map (fun i => (i.zero, i.size, i.bytes)) = some (some .nilIface, 1, 16) := by kernel_rfl
/-- Nodes of the call's own, in a row of its own: each is a part of a list. -/
def NEnd {X : Type} (P : Nat → Prop) (h : Nat) (un : Tr h → Nd X) (K : List X) (w : World) (r : Ending) (w' : World) : Prop := ∃ A n c R, r = .returned (.slice A n c) ∧ n = R.length ∧ n ≤ c ∧ NdsP (fun b => P b ∨ w.heap.size ≤ b) h w' A R ∧ Cuts un w.heap.size R K ∧ Below w.heap.size w w'
theorem own_cap {w : World} {base : Nat} {e : TypeId} {size : Nat} {A : Option Addr} {k c n : Nat} {xs : List Value} (h : w.ownsRow base e size (.slice A k c) n xs) : k ≤ c := by
  rcases h.2 with ⟨h1, h2⟩ | ⟨g, cap, cur, h1, _, _, h2, _⟩
  · injection h1 with _ e1 e2
    omega
  · injection h1 with _ e1 e2
    omega
theorem own_valsP {w : World} {base : Nat} {e : TypeId} {A : Option Addr} {n c : Nat} {l : List Value} (h : w.ownsRow base e 1 (.slice A n c) l.length l) : ValsP (fun b => base ≤ b) w A l := by
  rcases h.2 with ⟨hv, h0⟩ | ⟨g, cap, cur, hv, hg, hh, r⟩
  · exact .inl (List.eq_nil_of_length_eq_zero h0)
  · obtain ⟨rfl, rfl, rfl⟩ := Value.slice.inj hv
    exact .inr ⟨g, 0, rfl, (Array.getElem?_eq_some_iff.1 hh).1, hg, fun i v hi => by rw [Nat.zero_add]; exact own_cells h i v hi⟩
theorem at_sub {X : Type} (l : List X) (i : Nat) (hi : i < cnt l.length) (h : 1 ≤ l.length) : (part l i).length = at' l.length (i + 1) - at' l.length i := TR.part_len l i hi h
theorem part_get {X : Type} (l : List X) (i j : Nat) (x : X) (hx : (part l i)[j]? = some x) : l[at' l.length i + j]? = some x := by
  unfold part at hx
  rw [List.getElem?_take] at hx
  split at hx
  · rwa [List.getElem?_drop] at hx
  · cases hx

def mk0 (b : Nat) (K : List Ext) : Tr 0 := (Nd.mk b (-1) K : Nd Ext)
def mkN {h : Nat} (b : Nat) (K : List (Tr h)) : Tr (h + 1) := (Nd.mk b (-1) K : Nd (Tr h))
/-- Nodes that were made so far. -/
structure Grow {X Y : Type} (un : Y → Nd X) (T : TypeId) (sub : World → Option Addr → List X → Prop) (K : List X) (w : World) (base : Nat) (wr : World) (R : List Y) : Prop where
  part_ : ∀ i t, R[i]? = some t → (un t).xs = part K i
  at_ : ∀ t ∈ R, (un t).at_ = -1
  rep : ∀ t ∈ R, ∃ A c, (un t).xs.length ≤ c ∧ Blk wr (un t).blk T #[.int .i64 (un t).at_, .slice A (un t).xs.length c] ∧ sub w A (un t).xs
  new : ∀ t ∈ R, base ≤ (un t).blk
  once : (R.map fun t => (un t).blk).Nodup
theorem Grow.nil {X Y : Type} (un : Y → Nd X) (T : TypeId) (sub : World → Option Addr → List X → Prop) (K : List X) (w : World) (base : Nat) (wr : World) : Grow un T sub K w base wr [] :=
  ⟨fun i t h => by simp at h, fun t h => (List.not_mem_nil h).elim, fun t h => (List.not_mem_nil h).elim, fun t h => (List.not_mem_nil h).elim, List.nodup_nil⟩
theorem Grow.step {X Y : Type} {un : Y → Nd X} {T e : TypeId} {sub : World → Option Addr → List X → Prop} {K : List X} {w wr w8 : World} {base k : Nat} {R : List Y} (x : Grow un T sub K w base wr R) (hk : R.length = k)
    (t : Y) {pl : Nat} {pa : Addr} (ht : (un t).blk = wr.heap.size) (hat : (un t).at_ = -1 ∧ (un t).xs = part K k) (hs : sub w (some pa) (part K k)) (hpl : (part K k).length = pl) {v : Value} {vs : List Value} {size m : Nat} (hv : wr.ownsRow base e size v m vs) (hne : e ≠ T) (hsz : base ≤ wr.heap.size)
    (o : Obj) (hgrow : ((wr.alloc (.cells #[.int .i64 (-1), .slice (some pa) pl pl] T)).alloc o).grownBy w8 v.ownBlock) : Grow un T sub K w base w8 (R ++ [t]) := by
  have hself : v.ownBlock ≠ some wr.heap.size := fun h => by have := (hv.lt _ h).2; omega
  refine ⟨fun i u hi => ?_, fun u hu => ?_, fun u hu => ?_, fun u hu => ?_, ?_⟩
  · rcases Nat.lt_or_ge i R.length with h | h
    · rw [List.getElem?_append_left h] at hi; exact x.part_ i u hi
    · rw [List.getElem?_append_right h] at hi
      have h0 : i - R.length = 0 := by
        rcases Nat.eq_zero_or_pos (i - R.length) with h1 | h1
        · exact h1
        · rw [List.getElem?_eq_none (by simp; omega)] at hi; cases hi
      rw [h0] at hi
      obtain rfl : t = u := by simpa using hi
      rw [hat.2, show i = k from by omega]
  · rcases List.mem_append.1 hu with hu | hu
    · exact x.at_ u hu
    · rw [List.mem_singleton.1 hu]; exact hat.1
  · rcases List.mem_append.1 hu with hu | hu
    · obtain ⟨A, c, h1, h2, h3⟩ := x.rep u hu
      refine ⟨A, c, h1, ?_, h3⟩
      exact ((h2.alloc _).alloc _).grown hgrow (fun e9 => own_ne hv h2 hne e9.symm)
    · rw [List.mem_singleton.1 hu, hat.1, hat.2, hpl, ht]
      exact ⟨some pa, pl, Nat.le_refl _, ((Blk.new wr _ _).alloc _).grown hgrow (fun e9 => hself e9.symm), hs⟩
  · rcases List.mem_append.1 hu with hu | hu
    · exact x.new u hu
    · rw [List.mem_singleton.1 hu, ht]; exact hsz
  · rw [List.map_append, List.nodup_append]
    refine ⟨x.once, List.nodup_cons.2 ⟨List.not_mem_nil, List.nodup_nil⟩, fun a ha b hb e9 => ?_⟩
    obtain ⟨u, hu, rfl⟩ := List.mem_map.1 ha
    rw [List.map_singleton, List.mem_singleton] at hb
    obtain ⟨A, c, h1, h2, h3⟩ := x.rep u hu
    have := h2.lt
    rw [e9, hb, ht] at this; omega
/-- What a list's row has from a place on. -/
theorem exs_sub {P : Nat → Prop} {w : World} {a : Option Addr} {K : List Ext} (hx : ExsP P w a K) (hne : K ≠ []) : ∃ b off, a = some ⟨b, off, none⟩ ∧ ∀ (i : Nat) (l : List Ext), (∀ j x, l[j]? = some x → K[i + j]? = some x) → ExsP P w (some ⟨b, off + i * 4, none⟩) l := by
  rcases hx with h | ⟨b, off, rfl, h1, h3, h2⟩
  · exact absurd h hne
  · refine ⟨b, off, rfl, fun i l hl => .inr ⟨b, off + i * 4, rfl, h1, h3, fun j x hx => ?_⟩⟩
    have := h2 (i + j) x (hl j x hx)
    rwa [show off + (i + j) * 4 = off + i * 4 + j * 4 from by omega] at this
theorem nds_sub {P : Nat → Prop} {h : Nat} {w : World} {a : Option Addr} {K : List (Tr h)} (hx : NdsP P h w a K) (hne : K ≠ []) : ∃ b off, a = some ⟨b, off, none⟩ ∧ ∀ (i : Nat) (l : List (Tr h)), (∀ j x, l[j]? = some x → K[i + j]? = some x) → NdsP P h w (some ⟨b, off + i * 1, none⟩) l := by
  rcases hx.vals with h0 | ⟨b, off, rfl, h1, h3, h2⟩
  · rw [List.map_eq_nil_iff] at h0; exact absurd h0 hne
  · refine ⟨b, off, rfl, fun i l hl => ⟨.inr ⟨b, off + i * 1, rfl, h1, h3, fun j v hv => ?_⟩, fun k hk => ?_⟩⟩
    · rw [List.getElem?_map] at hv
      obtain ⟨x, hx9, rfl⟩ := Option.map_eq_some_iff.1 hv
      have := h2 (i + j) (vl h x) (by rw [List.getElem?_map, hl j x hx9]; rfl)
      rwa [show off + (i + j) = off + i * 1 + j from by omega] at this
    · obtain ⟨j, hj, rfl⟩ := List.mem_iff_getElem.1 hk
      exact hx.reps _ (List.mem_of_getElem? (hl j _ (List.getElem?_eq_getElem hj)))

set_option maxRecDepth 100000 in
set_option maxHeartbeats 8000000 in
theorem leaves_any (P : Nat → Prop) (K : List Ext) (a : Option Addr) (n cap : Nat) (hn : n = K.length) (hm : n ≤ 1000000) (hcap : n ≤ cap) (w : World) (hx : ExsP P w a K) :
    Calls Tryz.prog 109 #[.slice a n cap] w (NEnd P 0 lf K w) := by
  obtain ⟨i0, hi, hz0, hz1, hz2⟩ := info_parts info_node
  rcases Nat.eq_zero_or_pos n with h0 | hpos
  · obtain rfl : n = 0 := h0
    have hK : K = [] := List.eq_nil_of_length_eq_zero hn.symm
    subst hK
    have HP := Lib.hid (partsE_none a cap w)
    clear hx hn hcap
    go_enter Tryz.func109, Tryz.ntmps109
    go_wp2_with fail
    refine HP.out.mono ?_
    rintro r w1 ⟨rfl, rfl⟩
    go_wp2
    go_loopw [3, 9] (fun v i wr => i = .int .i64 0 ∧ v = .slice none 0 0 ∧ w = wr) (fun _ _ _ => 0)
    case atStart => exact ⟨rfl, rfl, rfl⟩
    case round =>
      obtain ⟨rfl, rfl, rfl⟩ := hrel
      go_wp2
      go_ret
      exact ⟨none, 0, 0, [], rfl, rfl, Nat.le_refl _, ⟨.inl rfl, fun k hk => (List.not_mem_nil hk).elim⟩, ⟨cnt_zero.symm, fun i t h => by simp at h, fun t h => (List.not_mem_nil h).elim, fun t h => (List.not_mem_nil h).elim, List.nodup_nil⟩, Below.refl _ _⟩
  · obtain ⟨b, off, rfl, hsub⟩ := exs_sub hx (by intro e; rw [e] at hn; simp at hn; omega)
    have HP := Lib.hid (partsE_any b off n cap hpos hm hcap w)
    obtain ⟨c, hc⟩ : ∃ c, c = cnt n := ⟨_, rfl⟩
    have hc2 : c ≤ 200000 := by rw [hc]; unfold cnt; omega
    rw [← hc] at HP
    have HC := Lib.hid hc
    have HN := Lib.hid hn
    have HPOS := Lib.hid hpos
    have HSUB := Lib.hid hsub
    clear hc hn hpos hx hsub hcap
    go_enter Tryz.func109, Tryz.ntmps109
    go_wp2_with fail
    refine HP.out.mono ?_
    rintro r w1 ⟨A1, n1, c1, rfl, hn1, hv1, hb1⟩
    obtain rfl : n1 = c := by rw [hn1, psls_len]
    have HV1 := Lib.hid hv1
    have HB1 := Lib.hid hb1
    have hsz1 := hb1.size
    clear hn1 hv1 hb1 HP
    go_wp2
    go_loopw [3, 9] (fun v i wr => ∃ (k : Nat) (A : Option Addr) (cc : Nat) (R : List (Tr 0)), k ≤ n1 ∧ i = .int .i64 k ∧ v = .slice A k cc ∧ Hid (R.length = k) ∧ Hid (wr.ownsRow w1.heap.size 80 1 (.slice A k cc) k (R.map (vl 0))) ∧ Hid (Grow lf 160 (ExsP P) K w w1.heap.size wr R) ∧ Below w1.heap.size w1 wr) (fun _ i _ => n1 - (intOf i).toNat)
    case atStart => exact ⟨0, none, 0, [], Nat.zero_le _, rfl, rfl, Lib.hid rfl, Lib.hid (World.ownsRow_nil _ _ _ _), Lib.hid (Grow.nil _ _ _ _ _ _ _), Below.refl _ _⟩
    case round =>
      obtain ⟨k, A, cc, R, hk, rfl, rfl, HRL, HOW, HG, hbel⟩ := hrel
      have HBL := Lib.hid hbel
      have hsz := hbel.size
      by_cases hlt : k < n1
      · have t1 : (k : Int) < (n1 : Int) := by omega
        have t2 : (0 : Int) ≤ (k : Int) := by omega
        obtain ⟨pb, po, rfl, hpb⟩ : ∃ b2 off2, A1 = some ⟨b2, off2, none⟩ ∧ wr.cell? ⟨b2, off2 + k, none⟩ = some (psl b off 4 n k) := by
          rcases HV1.out.below hbel with h0 | ⟨b2, off2, h1, h2, h3⟩
          · have := congrArg List.length h0; rw [psls_len] at this; simp at this; omega
          · exact ⟨b2, off2, h1, h3 k _ (psls_get hlt)⟩
        have hkc : k < cnt K.length := by rw [← HN.out, ← HC.out]; exact hlt
        have hpl : (part K k).length = at' n (k + 1) - at' n k := by rw [HN.out]; exact TR.part_len K k hkc (by have := HN.out; have := HPOS.out; omega)
        have hss := HSUB.out (at' n k) (part K k) (fun j x hx => by rw [HN.out]; exact part_get K k j x hx)
        unfold psl at hpb
        rw [← hpl] at hpb
        obtain ⟨pl, hpl2⟩ : ∃ x, x = (part K k).length := ⟨_, rfl⟩
        obtain ⟨pa, hpa⟩ : ∃ x, x = off + at' n k * 4 := ⟨_, rfl⟩
        rw [← hpl2, ← hpa] at hpb
        rw [← hpa] at hss
        have HPL := Lib.hid hpl2
        have HSS := Lib.hid hss
        clear hkc hpl hss hpl2 hpa hbel
        go_wp2_with (at_builtin; refine wpList_append_own _ rfl _ _ 86 rfl w1.heap.size 80 i0 .nilIface 1 16 Tryz.underlying86 hi hz0 hz1 hz2 rfl (by decide) _ _ _ rfl ((HOW.out.alloc _).alloc _) ⟨wr.heap.size + 1, 0, none⟩ 1 1 [.iface 156 (.pointer (some ⟨wr.heap.size, 0, none⟩))] rfl rfl ?c1 ?c2 ?c3 ?c4 ?c5 ?_)
        case c1 => exact new_cellsH _ _ _ _ (by simp)
        case c2 => intro u hu; simp at hu; rcases hu with rfl <;> rfl
        case c3 => unfold maxLen; omega
        case c4 => omega
        case c5 => simp; omega
        intro v8 w8 own8 hgrow _
        have own9 : w8.ownsRow w1.heap.size 80 1 v8 (k + 1) ((R ++ [mk0 wr.heap.size (part K k)]).map (vl 0)) := by
          rw [List.map_append]; exact own8
        have hG8 := HG.out.step (k := k) HRL.out (un := lf) (mk0 wr.heap.size (part K k)) rfl ⟨rfl, rfl⟩ HSS.out HPL.out.symm HOW.out (by decide) hsz _ hgrow
        have hl8 : Below w1.heap.size w1 w8 := ((HBL.out.alloc hsz _).alloc (by simp; omega) _).grown hgrow (by simp; omega) (fun j hj => (HOW.out.lt j hj).1)
        obtain ⟨A8, c8, rfl⟩ := own_slice own9
        have O8 := Lib.hid own9
        have L8 := Lib.hid hl8
        have G8 := Lib.hid hG8
        clear own8 own9 hl8 hgrow hG8
        go_wp2
        go_roundw
        case rel => exact ⟨k + 1, A8, c8, R ++ [mk0 wr.heap.size (part K k)], by omega, by go_num, rfl, Lib.hid (by rw [List.length_append, HRL.out]; rfl), O8, G8, L8.out⟩
        case measure => simp [intOf]; omega
      · obtain rfl : k = n1 := by omega
        have t1 : ¬ (k : Int) < (k : Int) := by omega
        clear hbel
        go_wp2
        go_ret
        have hR := HRL.out
        refine ⟨A, k, cc, R, rfl, hR.symm, own_cap HOW.out, ⟨(own_valsP (by rw [List.length_map, hR]; exact HOW.out)).mono (fun b hb _ => .inr (Nat.le_trans hsz1 hb)), ?_⟩, ⟨by rw [hR, HC.out, HN.out], HG.out.part_, HG.out.at_, fun t ht => Nat.le_trans hsz1 (HG.out.new t ht), HG.out.once⟩, HB1.out.trans (HBL.out.mono hsz1)⟩
        intro t ht
        obtain ⟨A9, c9, g1, g2, g3⟩ := HG.out.rep t ht
        have hbw : Below w.heap.size w wr := HB1.out.trans (HBL.out.mono hsz1)
        exact ⟨A9, c9, g1, .inr (Nat.le_trans hsz1 (HG.out.new t ht)), g2, (ExsP.keep hbw.size (fun b _ hb => hbw.block b hb) g3).mono (fun b hb _ => .inl hb)⟩

set_option maxRecDepth 100000 in
set_option maxHeartbeats 8000000 in
theorem inners_any (P : Nat → Prop) {h : Nat} (K : List (Tr h)) (a : Option Addr) (n cap : Nat) (hn : n = K.length) (hm : n ≤ 1000000) (hcap : n ≤ cap) (w : World) (hx : NdsP P h w a K) :
    Calls Tryz.prog 107 #[.slice a n cap] w (NEnd P (h + 1) nd K w) := by
  obtain ⟨i0, hi, hz0, hz1, hz2⟩ := info_parts info_node
  rcases Nat.eq_zero_or_pos n with h0 | hpos
  · obtain rfl : n = 0 := h0
    have hK : K = [] := List.eq_nil_of_length_eq_zero hn.symm
    subst hK
    have HP := Lib.hid (partsN_none a cap w)
    clear hx hn hcap
    go_enter Tryz.func107, Tryz.ntmps107
    go_wp2_with fail
    refine HP.out.mono ?_
    rintro r w1 ⟨rfl, rfl⟩
    go_wp2
    go_loopw [3, 9] (fun v i wr => i = .int .i64 0 ∧ v = .slice none 0 0 ∧ w = wr) (fun _ _ _ => 0)
    case atStart => exact ⟨rfl, rfl, rfl⟩
    case round =>
      obtain ⟨rfl, rfl, rfl⟩ := hrel
      go_wp2
      go_ret
      exact ⟨none, 0, 0, [], rfl, rfl, Nat.le_refl _, ⟨.inl rfl, fun k hk => (List.not_mem_nil hk).elim⟩, ⟨cnt_zero.symm, fun i t h => by simp at h, fun t h => (List.not_mem_nil h).elim, fun t h => (List.not_mem_nil h).elim, List.nodup_nil⟩, Below.refl _ _⟩
  · obtain ⟨b, off, rfl, hsub⟩ := nds_sub hx (by intro e; rw [e] at hn; simp at hn; omega)
    have HP := Lib.hid (partsN_any b off n cap hpos hm hcap w)
    obtain ⟨c, hc⟩ : ∃ c, c = cnt n := ⟨_, rfl⟩
    have hc2 : c ≤ 200000 := by rw [hc]; unfold cnt; omega
    rw [← hc] at HP
    have HC := Lib.hid hc
    have HN := Lib.hid hn
    have HPOS := Lib.hid hpos
    have HSUB := Lib.hid hsub
    clear hc hn hpos hx hsub hcap
    go_enter Tryz.func107, Tryz.ntmps107
    go_wp2_with fail
    refine HP.out.mono ?_
    rintro r w1 ⟨A1, n1, c1, rfl, hn1, hv1, hb1⟩
    obtain rfl : n1 = c := by rw [hn1, psls_len]
    have HV1 := Lib.hid hv1
    have HB1 := Lib.hid hb1
    have hsz1 := hb1.size
    clear hn1 hv1 hb1 HP
    go_wp2
    go_loopw [3, 9] (fun v i wr => ∃ (k : Nat) (A : Option Addr) (cc : Nat) (R : List (Tr (h + 1))), k ≤ n1 ∧ i = .int .i64 k ∧ v = .slice A k cc ∧ Hid (R.length = k) ∧ Hid (wr.ownsRow w1.heap.size 80 1 (.slice A k cc) k (R.map (vl (h + 1)))) ∧ Hid (Grow nd 163 (NdsP P h) K w w1.heap.size wr R) ∧ Below w1.heap.size w1 wr) (fun _ i _ => n1 - (intOf i).toNat)
    case atStart => exact ⟨0, none, 0, [], Nat.zero_le _, rfl, rfl, Lib.hid rfl, Lib.hid (World.ownsRow_nil _ _ _ _), Lib.hid (Grow.nil _ _ _ _ _ _ _), Below.refl _ _⟩
    case round =>
      obtain ⟨k, A, cc, R, hk, rfl, rfl, HRL, HOW, HG, hbel⟩ := hrel
      have HBL := Lib.hid hbel
      have hsz := hbel.size
      by_cases hlt : k < n1
      · have t1 : (k : Int) < (n1 : Int) := by omega
        have t2 : (0 : Int) ≤ (k : Int) := by omega
        obtain ⟨pb, po, rfl, hpb⟩ : ∃ b2 off2, A1 = some ⟨b2, off2, none⟩ ∧ wr.cell? ⟨b2, off2 + k, none⟩ = some (psl b off 1 n k) := by
          rcases HV1.out.below hbel with h0 | ⟨b2, off2, h1, h2, h3⟩
          · have := congrArg List.length h0; rw [psls_len] at this; simp at this; omega
          · exact ⟨b2, off2, h1, h3 k _ (psls_get hlt)⟩
        have hkc : k < cnt K.length := by rw [← HN.out, ← HC.out]; exact hlt
        have hpl : (part K k).length = at' n (k + 1) - at' n k := by rw [HN.out]; exact TR.part_len K k hkc (by have := HN.out; have := HPOS.out; omega)
        have hss := HSUB.out (at' n k) (part K k) (fun j x hx => by rw [HN.out]; exact part_get K k j x hx)
        unfold psl at hpb
        rw [← hpl] at hpb
        obtain ⟨pl, hpl2⟩ : ∃ x, x = (part K k).length := ⟨_, rfl⟩
        obtain ⟨pa, hpa⟩ : ∃ x, x = off + at' n k * 1 := ⟨_, rfl⟩
        rw [← hpl2, ← hpa] at hpb
        rw [← hpa] at hss
        have HPL := Lib.hid hpl2
        have HSS := Lib.hid hss
        clear hkc hpl hss hpl2 hpa hbel
        go_wp2_with (at_builtin; refine wpList_append_own _ rfl _ _ 86 rfl w1.heap.size 80 i0 .nilIface 1 16 Tryz.underlying86 hi hz0 hz1 hz2 rfl (by decide) _ _ _ rfl ((HOW.out.alloc _).alloc _) ⟨wr.heap.size + 1, 0, none⟩ 1 1 [.iface 161 (.pointer (some ⟨wr.heap.size, 0, none⟩))] rfl rfl ?c1 ?c2 ?c3 ?c4 ?c5 ?_)
        case c1 => exact new_cellsH _ _ _ _ (by simp)
        case c2 => intro u hu; simp at hu; rcases hu with rfl <;> rfl
        case c3 => unfold maxLen; omega
        case c4 => omega
        case c5 => simp; omega
        intro v8 w8 own8 hgrow _
        have own9 : w8.ownsRow w1.heap.size 80 1 v8 (k + 1) ((R ++ [mkN wr.heap.size (part K k)]).map (vl (h + 1))) := by
          rw [List.map_append]; exact own8
        have hG8 := HG.out.step (k := k) HRL.out (un := nd) (mkN wr.heap.size (part K k)) rfl ⟨rfl, rfl⟩ HSS.out HPL.out.symm HOW.out (by decide) hsz _ hgrow
        have hl8 : Below w1.heap.size w1 w8 := ((HBL.out.alloc hsz _).alloc (by simp; omega) _).grown hgrow (by simp; omega) (fun j hj => (HOW.out.lt j hj).1)
        obtain ⟨A8, c8, rfl⟩ := own_slice own9
        have O8 := Lib.hid own9
        have L8 := Lib.hid hl8
        have G8 := Lib.hid hG8
        clear own8 own9 hl8 hgrow hG8
        go_wp2
        go_roundw
        case rel => exact ⟨k + 1, A8, c8, R ++ [mkN wr.heap.size (part K k)], by omega, by go_num, rfl, Lib.hid (by rw [List.length_append, HRL.out]; rfl), O8, G8, L8.out⟩
        case measure => simp [intOf]; omega
      · obtain rfl : k = n1 := by omega
        have t1 : ¬ (k : Int) < (k : Int) := by omega
        clear hbel
        go_wp2
        go_ret
        have hR := HRL.out
        refine ⟨A, k, cc, R, rfl, hR.symm, own_cap HOW.out, ⟨(own_valsP (by rw [List.length_map, hR]; exact HOW.out)).mono (fun b hb _ => .inr (Nat.le_trans hsz1 hb)), ?_⟩, ⟨by rw [hR, HC.out, HN.out], HG.out.part_, HG.out.at_, fun t ht => Nat.le_trans hsz1 (HG.out.new t ht), HG.out.once⟩, HB1.out.trans (HBL.out.mono hsz1)⟩
        intro t ht
        obtain ⟨A9, c9, g1, g2, g3⟩ := HG.out.rep t ht
        have hbw : Below w.heap.size w wr := HB1.out.trans (HBL.out.mono hsz1)
        exact ⟨A9, c9, g1, .inr (Nat.le_trans hsz1 (HG.out.new t ht)), g2, ((NdsP.keep hbw.size (fun b _ hb => hbw.block b hb) g3).mono (fun b hb _ => .inl hb)).vals, ((NdsP.keep hbw.size (fun b _ hb => hbw.block b hb) g3).mono (fun b hb _ => .inl hb)).reps⟩
end TR
end Go.Proofs.YtdjlflinepefbabGreat

/- A region that draws its order, whose operations read and whose calls keep a condition on the world (they may make memory): one walk in the order of the text serves every order, guards and all. No program. -/
namespace Go.Proofs.YtdjlflinepefbabGreat
namespace MM
open Go.RowKit
set_option linter.unusedVariables false

/-- A world that meets a condition. -/
structure Wd (I : World → Prop) where
  w : World
  ok : I w
theorem wp_region_inv {P : Program} {id : Nat} {Q : Exit → Act → World → Prop} {a : Act} {w : World} {l : List Oper} (I : World → Prop) (hm : P.follows .mixedOrders = true) (hB : Region.lexB .any l.toArray = true) (hI : I w.drew)
    (h : wpQuiet P l.toArray (fun w' => ∃ x : Wd I, w' = x.w) (fun a' => ∀ w', (∃ x : Wd I, w' = x.w) → Q .normal a' w') l a) : (Code.region id l.toArray true).wp P Q a w :=
  wp_region_quiet (C := fun w' => ∃ x : Wd I, w' = x.w) hm hB ⟨⟨_, hI⟩, rfl⟩ (by simpa using h)
/-- A call that makes memory keeps the condition. -/
theorem inv_call {P : Program} {f : FuncId} {args : Array Value} {I : World → Prop} {v : Value} (x : Wd I) (hk : ∀ w w', I w → Below w.heap.size w w' → I w')
    (h : Calls P f args x.w fun e w' => e = .returned v ∧ Below x.w.heap.size x.w w') : Calls P f args x.w fun e w' => e = .returned v ∧ ∃ y : Wd I, w' = y.w :=
  h.mono fun _ w' ⟨he, hb⟩ => ⟨he, ⟨w', hk _ _ x.ok hb⟩, rfl⟩
theorem inv_call_same {P : Program} {f : FuncId} {args : Array Value} {I : World → Prop} {v : Value} (x : Wd I)
    (h : Calls P f args x.w fun e w' => e = .returned v ∧ x.w = w') : Calls P f args x.w fun e w' => e = .returned v ∧ ∃ y : Wd I, w' = y.w :=
  h.mono fun _ w' ⟨he, hb⟩ => ⟨he, x, hb.symm⟩
end MM
end Go.Proofs.YtdjlflinepefbabGreat
