/- What scorialaw03.few and scorialaw03.made do: an error and the document's tree of it, made one part behind the other. No condition but those that each theorem names. -/
import Derived.Test.YtnbfejombealiaaDoorNodes3
import Derived.Test.YtnbfejombealiaaDoorOpen3
import Derived.Test.YtnbfejombealiaaDoorFJoin
import Derived.Test.YtnbfejombealiaaDoorAppendOld
import Derived.IntWalk
import Derived.Deep.AppendLies
import Derived.Deep.RegionHeld3
namespace Go.Proofs.YtnbfejombealiaaDoor
namespace ER
open Go.RowKit MM
set_option linter.unusedVariables false
set_option linter.unusedSimpArgs false

/-- true or false, and nothing has turned. -/
def SomeBool (w : World) (e : Ending) (w' : World) : Prop := ∃ b, e = .returned (.bool b) ∧ w = w'
set_option maxRecDepth 100000 in
set_option maxHeartbeats 1000000 in
theorem few_any (a : Option Addr) (len cap : Nat) (hl : len ≤ maxLen) (w : World) (hr : OP.Rows w a len 4 OP.PartC) :
    Calls Tryd.prog 9 #[.slice a len cap] w (SomeBool w) := by
  have HR := Lib.hid hr
  unfold maxLen at hl
  clear hr
  go_enter Tryd.func9, Tryd.ntmps9
  go_wp2
  go_loop [3, 4] (fun s i => ∃ k q : Nat, k ≤ len ∧ k ≤ 30 ∧ q ≤ k ∧ i = .int .i64 k ∧ s = .int .i64 q) (fun _ i => len - (intOf i).toNat)
  case atStart => exact ⟨0, 0, Nat.zero_le _, Nat.zero_le _, Nat.zero_le _, rfl, rfl⟩
  case round =>
    obtain ⟨k, q, hk, hk30, hqk, rfl, rfl⟩ := hrel
    by_cases hlt : k < len
    · by_cases h30 : k < 30
      · rcases HR.out with h0 | ⟨b, off, rfl, hb, hc⟩
        · omega
        · obtain ⟨x, _, _, _, c0, _⟩ := hc k hlt
          have d0 : w.cell? ⟨b, off + k * 4, none⟩ = some (.int .i64 x) := c0
          have g30 : (k : Int) < 30 := by omega
          clear hc c0
          by_cases hx : x = 2
          · have ht : (x == 2) = true := by simp [hx]
            clear hx
            go_wp2
            go_round
            case rel => exact ⟨k + 1, q + 1, by omega, by omega, by omega, by go_num, by go_num⟩
            case measure => simp [intOf]; omega
          · have ht : (x == 2) = false := by simp [hx]
            clear hx
            go_wp2
            go_round
            case rel => exact ⟨k + 1, q, by omega, by omega, by omega, by go_num, rfl⟩
            case measure => simp [intOf]; omega
      · have g30 : ¬ (k : Int) < 30 := by omega
        go_wp2
        go_ret
        exact ⟨_, rfl, rfl⟩
    · go_wp2
      go_ret
      exact ⟨_, rfl, rfl⟩

/-- A block that is there and is neither of two rows that are written. -/
def Asd2 (w : World) (o1 o2 : Option Nat) (b : Nat) : Prop := b < w.heap.size ∧ some b ≠ o1 ∧ some b ≠ o2
theorem asd2_below {w w' : World} {o1 o2 : Option Nat} (hb : Below w.heap.size w w') : (∀ b, Asd2 w o1 o2 b → Asd2 w' o1 o2 b) ∧ ∀ b, Asd2 w o1 o2 b → w'.heap[b]? = w.heap[b]? :=
  ⟨fun b h => ⟨Nat.lt_of_lt_of_le h.1 hb.size, h.2⟩, fun b h => hb.block b h.1⟩
theorem asd2_lies1 {w w' : World} {o1 o2 : Option Nat} {g : Nat} (hg : w.grownBy w' o1) (hat : o1 = some g ∨ g = w.heap.size) : (∀ b, Asd2 w o1 o2 b → Asd2 w' (some g) o2 b) ∧ ∀ b, Asd2 w o1 o2 b → w'.heap[b]? = w.heap[b]? := by
  refine ⟨fun b h => ⟨Nat.lt_of_lt_of_le h.1 hg.size, fun e => ?_, h.2.2⟩, fun b h => hg.block b h.1 h.2.1⟩
  injection e with e
  subst e
  rcases hat with h1 | h1
  · exact h.2.1 h1.symm
  · have := h.1; omega
theorem asd2_lies2 {w w' : World} {o1 o2 : Option Nat} {g : Nat} (hg : w.grownBy w' o2) (hat : o2 = some g ∨ g = w.heap.size) : (∀ b, Asd2 w o1 o2 b → Asd2 w' o1 (some g) b) ∧ ∀ b, Asd2 w o1 o2 b → w'.heap[b]? = w.heap[b]? := by
  refine ⟨fun b h => ⟨Nat.lt_of_lt_of_le h.1 hg.size, h.2.1, fun e => ?_⟩, fun b h => hg.block b h.1 h.2.2⟩
  injection e with e
  subst e
  rcases hat with h1 | h1
  · exact h.2.2 h1.symm
  · have := h.1; omega

/-- k errors and m nodes have been made. -/
structure St (base : Nat) (w wr : World) (v4 v5 : Value) (k m : Nat) (es : List Er) (ns : List Nd) (xs cs : List Value) : Prop where
  le : es.length = k
  ln : ns.length = m
  o4 : wr.ownsRow base 26 1 v4 k xs
  o5 : wr.ownsRow base 44 5 v5 m cs
  bel : Below base w wr
  bs : base = w.heap.size
  ge : ∀ (j : Nat) (x : Value) (E : Er), xs[j]? = some x → es[j]? = some E → IsErrP wr (Asd2 wr v4.ownBlock v5.ownBlock) E x
  gn : ∀ (j : Nat) (nd : Nd), ns[j]? = some nd → NdC wr (Asd2 wr v4.ownBlock v5.ownBlock) nd (fun q => cs[j * 5 + q]?)
theorem St.start (w : World) : St w.heap.size w w (.slice none 0 0) (.slice none 0 0) 0 0 [] [] [] [] :=
  ⟨rfl, rfl, World.ownsRow_nil _ _ _ _, World.ownsRow_nil _ _ _ _, Below.refl _ _, rfl, fun j x E h => by simp at h, fun j nd h => by simp at h⟩
theorem St.ne {base : Nat} {w wr : World} {v4 v5 : Value} {k m : Nat} {es : List Er} {ns : List Nd} {xs cs : List Value} (h : St base w wr v4 v5 k m es ns xs cs) : v4.ownBlock = none ∨ v4.ownBlock ≠ v5.ownBlock := by
  rcases h.o5.2 with ⟨rfl, _⟩ | ⟨g, cap, cur, rfl, hg, hh, _⟩
  · cases hv : v4.ownBlock with
    | none => exact .inl rfl
    | some q => exact .inr (by simp [Value.ownBlock])
  · exact .inr (own_ne h.o4 hh (by decide))
theorem St.below {base : Nat} {w wr wA : World} {v4 v5 : Value} {k m : Nat} {es : List Er} {ns : List Nd} {xs cs : List Value} (h : St base w wr v4 v5 k m es ns xs cs) (hb : Below wr.heap.size wr wA) : St base w wA v4 v5 k m es ns xs cs := by
  have hsz := h.bel.size
  have ha := asd2_below (o1 := v4.ownBlock) (o2 := v5.ownBlock) hb
  exact ⟨h.le, h.ln, own_kept h.o4 hb, own_kept h.o5 hb, h.bel.trans (hb.mono (by rw [h.bs]; exact hsz)), h.bs,
    fun j x E hx hE => IsErrP.more ha.1 (IsErrP.keep ha.2 (h.ge j x E hx hE)), fun j nd hn => (h.gn j nd hn).keep ha.1 ha.2⟩
theorem St.fresh {base : Nat} {w wr W : World} {v4 v5 : Value} {k m : Nat} {es : List Er} {ns : List Nd} {xs cs : List Value} (h : St base w wr v4 v5 k m es ns xs cs) {b : Nat} (h1 : wr.heap.size ≤ b) (h2 : b < W.heap.size) : Asd2 W v4.ownBlock v5.ownBlock b :=
  ⟨h2, fun e => (by have := (h.o4.lt b e.symm).2; omega), fun e => (by have := (h.o5.lt b e.symm).2; omega)⟩
theorem St.drew {base : Nat} {w wr : World} {v4 v5 : Value} {k m : Nat} {es : List Er} {ns : List Nd} {xs cs : List Value} (h : St base w wr v4 v5 k m es ns xs cs) : St base w wr.drew v4 v5 k m es ns xs cs := h.below (Below.refl _ _).drew
theorem St.err {base : Nat} {w wA w3 : World} {v4 v5 : Value} {k m g cap : Nat} {es : List Er} {ns : List Nd} {xs cs : List Value} (h : St base w wA v4 v5 k m es ns xs cs) (hg : wA.grownBy w3 v4.ownBlock) (hat : v4.ownBlock = some g ∨ g = wA.heap.size)
    {E : Er} {x : Value} (hx : IsErrP wA (Asd2 wA v4.ownBlock v5.ownBlock) E x) (hown : w3.ownsRow base 26 1 (.slice (some ⟨g, 0, none⟩) (k + 1) cap) (k + 1) (xs ++ [x])) :
    St base w w3 (.slice (some ⟨g, 0, none⟩) (k + 1) cap) v5 (k + 1) m (es ++ [E]) ns (xs ++ [x]) cs := by
  have ha := asd2_lies1 (o2 := v5.ownBlock) hg hat
  have hxl : xs.length = k := by simpa using h.o4.1
  have hb : Below base w w3 := h.bel.grown hg (by rw [h.bs]; exact h.bel.size) (fun j hj => (h.o4.lt j hj).1)
  refine ⟨by simp [h.le], h.ln, hown, ?_, hb, h.bs, fun j y F hy hF => ?_, fun j nd hn => (h.gn j nd hn).keep ha.1 ha.2⟩
  · refine h.o5.kept hg ?_
    rcases h.ne with h1 | h1
    · rw [h1]; cases v5.ownBlock <;> simp
    · exact .inr fun e => h1 e.symm
  · by_cases hj : j < k
    · rw [List.getElem?_append_left (by omega)] at hy
      rw [List.getElem?_append_left (by rw [h.le]; exact hj)] at hF
      exact IsErrP.more ha.1 (IsErrP.keep ha.2 (h.ge j y F hy hF))
    · have hjk : j = k := by
        have := (List.getElem?_eq_some_iff.1 hy).1
        simp at this
        omega
      subst hjk
      rw [List.getElem?_append_right (by omega), hxl] at hy
      rw [List.getElem?_append_right (by rw [h.le]; exact Nat.le_refl _), h.le] at hF
      simp at hy hF
      subst hy hF
      exact IsErrP.more ha.1 (IsErrP.keep ha.2 hx)
theorem St.node {base : Nat} {w wA w3 : World} {v4 v5 : Value} {k m g cap : Nat} {es : List Er} {ns : List Nd} {xs cs : List Value} (h : St base w wA v4 v5 k m es ns xs cs) (hg : wA.grownBy w3 v5.ownBlock) (hat : v5.ownBlock = some g ∨ g = wA.heap.size)
    {nd : Nd} {c0 c1 c2 c3 c4 : Value} (hx : NdC wA (Asd2 wA v4.ownBlock v5.ownBlock) nd (fun q => [c0, c1, c2, c3, c4][q]?)) (hown : w3.ownsRow base 44 5 (.slice (some ⟨g, 0, none⟩) (m + 1) cap) (m + 1) (cs ++ [c0, c1, c2, c3, c4])) :
    St base w w3 v4 (.slice (some ⟨g, 0, none⟩) (m + 1) cap) k (m + 1) es (ns ++ [nd]) xs (cs ++ [c0, c1, c2, c3, c4]) := by
  have ha := asd2_lies2 (o1 := v4.ownBlock) hg hat
  have hcl : cs.length = m * 5 := h.o5.1
  have hb : Below base w w3 := h.bel.grown hg (by rw [h.bs]; exact h.bel.size) (fun j hj => (h.o5.lt j hj).1)
  refine ⟨h.le, by simp [h.ln], ?_, hown, hb, h.bs, fun j x E hy hE => IsErrP.more ha.1 (IsErrP.keep ha.2 (h.ge j x E hy hE)), fun j nd' hn => ?_⟩
  · exact h.o4.kept hg h.ne
  · by_cases hj : j < m
    · rw [List.getElem?_append_left (by rw [h.ln]; exact hj)] at hn
      have := (h.gn j nd' hn).keep ha.1 ha.2
      obtain ⟨h0, h1, h2, h3, ka, kc, h4, h5⟩ := this
      refine ⟨?_, ?_, ?_, ?_, ka, kc, ?_, h5⟩
      all_goals
        show (cs ++ [c0, c1, c2, c3, c4])[_]? = _
        rw [List.getElem?_append_left (by rw [hcl]; omega)]
        assumption
    · have hjm : j = m := by
        have := (List.getElem?_eq_some_iff.1 hn).1
        rw [List.length_append, h.ln] at this
        simp at this
        omega
      subst hjm
      rw [List.getElem?_append_right (by rw [h.ln]; exact Nat.le_refl _), h.ln] at hn
      simp at hn
      subst hn
      have e : (fun q => (cs ++ [c0, c1, c2, c3, c4])[j * 5 + q]?) = fun q => [c0, c1, c2, c3, c4][q]? := by
        funext q
        rw [List.getElem?_append_right (by rw [hcl]; omega), hcl]
        congr 1
        omega
      rw [e]
      exact hx.keep ha.1 ha.2

theorem match_nil : Match [] [] := ⟨rfl, fun i nd E h => by simp at h⟩
theorem okNd_more {es es' : List Er} {i : Nat} {nd : Nd} {E : Er} (h : OkNd es i nd E) (hs : ∀ (j : Nat) (e : Er), j < i → es[j]? = some e → es'[j]? = some e) : OkNd es' i nd E := by
  rcases h with h | ⟨hk, j, e, h1, h2, h3, h4⟩ | ⟨hk, j1, j2, e1, e2, h1, h2, h3, h4, h5, h6⟩ | h
  · exact .inl h
  · exact .inr (.inl ⟨hk, j, e, h1, h2, hs j e h2 h3, h4⟩)
  · exact .inr (.inr (.inl ⟨hk, j1, j2, e1, e2, h1, h2, h3, hs j1 e1 h2 h4, hs j2 e2 h3 h5, h6⟩))
  · exact .inr (.inr (.inr h))
theorem match_snoc {ns : List Nd} {es : List Er} (h : Match ns es) {nd : Nd} {E : Er} (hE : OkNd es ns.length nd E) : Match (ns ++ [nd]) (es ++ [E]) := by
  have hs : ∀ (j : Nat) (e : Er), es[j]? = some e → (es ++ [E])[j]? = some e := fun j e hj => by
    rw [List.getElem?_append_left (List.getElem?_eq_some_iff.1 hj).1]; exact hj
  refine ⟨by simp [h.1], fun i nd' E' h1 h2 => ?_⟩
  by_cases hi : i < ns.length
  · rw [List.getElem?_append_left hi] at h1
    rw [List.getElem?_append_left (by rw [← h.1]; exact hi)] at h2
    exact okNd_more (h.2 i nd' E' h1 h2) fun j e _ => hs j e
  · have hil : i = ns.length := by
      have := (List.getElem?_eq_some_iff.1 h1).1
      simp at this
      omega
    subst hil
    rw [List.getElem?_append_right (Nat.le_refl _)] at h1
    rw [h.1, List.getElem?_append_right (Nat.le_refl _)] at h2
    simp at h1 h2
    subst h1 h2
    exact okNd_more hE fun j e _ => hs j e

theorem joined_errP {w w' : World} {l : List Value} {e : Ending} (h : Joined w l e w') (K : Nat → Er) (hl : l.length ≤ 1000) {P P' : Nat → Prop} (hk : ∀ j u, l[j]? = some u → IsErrP w P (K j) u)
    (hP : ∀ b, P b → b < w.heap.size ∧ P' b) (hN : ∀ b, w.heap.size ≤ b → b < w'.heap.size → P' b) :
    ∃ t x, e = .returned (.iface t x) ∧ IsErrP w' P' (.join l.length K) (.iface t x) ∧ Below w.heap.size w w' := by
  obtain ⟨b, g, c, rfl, hb, h1, h2, h3, h4, h5⟩ := h
  refine ⟨_, _, rfl, ⟨b, g, c, rfl, hN b h1 (Blk.lt hb), hb, hN g h2 h3, hl, fun i hi => ?_⟩, h5⟩
  have hu : l[i]? = some l[i] := List.getElem?_eq_getElem hi
  exact ⟨l[i], h4 i _ hu, IsErrP.more (fun b hb => (hP b hb).2) (IsErrP.keep (fun b hb => h5.block b (hP b hb).1) (hk i _ hu))⟩

theorem Joined.below {w w' : World} {l : List Value} {e : Ending} (h : Joined w l e w') : Below w.heap.size w w' := by
  obtain ⟨_, _, _, _, _, _, _, _, _, h⟩ := h
  exact h
theorem errnew_any (s : ByteArray) (w : World) : Calls Tryd.prog 20 #[.string s] w fun e w' => e = .returned (.iface 63 (.pointer (some ⟨w.heap.size, 0, none⟩))) ∧ w.alloc (.cells #[.string s] 65) = w' := by
  go_enter Tryd.func20, Tryd.ntmps20
  go_wp2
  go_ret
  exact ⟨rfl, rfl⟩

theorem info_node : (Tryd.prog.info? 44).map (fun i => (i.zero, i.size, i.bytes)) = some (some (.agg #[.int .i64 0, .int .i64 0, .string ⟨#[]⟩, .int .i64 0, .slice none 0 0]), 5, 64) := by kernel_rfl

/-- What made hands back. -/
def MadeEnd (w : World) (len : Nat) (e : Ending) (w' : World) : Prop :=
  ∃ v na nn nc, e = .returned (.tuple #[v, .slice na nn nc]) ∧ Below w.heap.size w w' ∧ (len = 0 → v = .nilIface ∧ nn = 0) ∧
    (0 < len → ∃ ns es E, 0 < nn ∧ nn ≤ 30 ∧ ns.length = nn ∧ Match ns es ∧ NodesAt w' w'.heap.size na ns ∧ es[nn - 1]? = some E ∧ IsErr w' w'.heap.size E v)

set_option maxRecDepth 100000 in
set_option maxHeartbeats 8000000 in
theorem made_any (a : Option Addr) (len cap : Nat) (hl : len ≤ maxLen) (w : World) (hr : OP.Rows w a len 4 OP.PartC) :
    Calls Tryd.prog 11 #[.slice a len cap] w (MadeEnd w len) := by
  obtain ⟨i0, hi, hz0, hz1, hz2⟩ := info_parts info_error
  obtain ⟨i1, hj, hy0, hy1, hy2⟩ := info_parts info_node
  have HR := Lib.hid hr
  unfold maxLen at hl
  clear hr
  go_enter Tryd.func11, Tryd.ntmps11
  go_wp2
  go_loopw [4, 5, 6] (fun v4 v5 i wr => ∃ (k : Nat) (es : List Er) (ns : List Nd) (xs cs : List Value), k ≤ len ∧ k ≤ 30 ∧ i = .int .i64 k ∧ St w.heap.size w wr v4 v5 k k es ns xs cs ∧ Match ns es) (fun _ _ i _ => len - (intOf i).toNat)
  case atStart => exact ⟨0, [], [], [], [], Nat.zero_le _, Nat.zero_le _, rfl, St.start w, match_nil⟩
  case round =>
    obtain ⟨k, es, ns, xs, cs, hk, hk30, rfl, hst, hmt⟩ := hrel
    have HS := Lib.hid hst
    have HM := Lib.hid hmt
    have hsz := hst.bel.size
    obtain ⟨A4, c4, rfl⟩ := own_slice hst.o4
    obtain ⟨A5, c5, rfl⟩ := own_slice hst.o5
    clear hst hmt
    by_cases hlt : k < len
    · by_cases h30 : k < 30
      · rcases HR.out with h0 | ⟨b, off, rfl, hb, hc⟩
        · omega
        · obtain ⟨x, xc, xn, op, p0, p1, p2, p3, q0, q1, q2, q3⟩ := hc k hlt
          have d0 : wr.cell? ⟨b, off + k * 4, none⟩ = some (.int .i64 x) := by rw [HS.out.bel.cell (p := ⟨b, off + k * 4, none⟩) hb]; exact p0
          have d1 : wr.cell? ⟨b, off + k * 4 + 1, none⟩ = some (.int .i64 xc) := by rw [HS.out.bel.cell (p := ⟨b, off + k * 4 + 1, none⟩) hb]; exact p1
          have d2 : wr.cell? ⟨b, off + k * 4 + 1 + 1, none⟩ = some (.int .i64 xn) := by rw [HS.out.bel.cell (p := ⟨b, off + k * 4 + 1 + 1, none⟩) hb]; exact p2
          have d3 : wr.cell? ⟨b, off + k * 4 + 1 + 1 + 1, none⟩ = some (.string op) := by rw [HS.out.bel.cell (p := ⟨b, off + k * 4 + 1 + 1 + 1, none⟩) hb]; exact p3
          have g30 : (k : Int) < 30 := by omega
          clear hc p0 p1 p2 p3
          by_cases hx3 : x = 3
          · subst hx3
            have HX := Lib.hid (HS.out.below (wA := (((wr.alloc (.cells #[.int .i64 3, .int .i64 xc, .int .i64 xn, .string op] 52)).alloc (.cells #[.string ⟨#[120]⟩] 65)).alloc (.cells #[.iface 63 (.pointer (some ⟨wr.heap.size + 1, 0, none⟩))] 26))) ((((Below.refl _ _).alloc (Nat.le_refl _) _).alloc (by simp) _).alloc (by simp; omega) _))
            have m1x1 := Lib.hid (new_cellsH ((wr.alloc (.cells #[.int .i64 3, .int .i64 xc, .int .i64 xn, .string op] 52)).alloc (.cells #[.string ⟨#[120]⟩] 65)) #[.iface 63 (.pointer (some ⟨wr.heap.size + 1, 0, none⟩))] 26 (wr.heap.size + 1 + 1) (by simp))
            have m1x2 : Hid (∀ u ∈ [.iface 63 (.pointer (some ⟨wr.heap.size + 1, 0, none⟩))], Value.oneCell' u = true) := by show ∀ u ∈ _, _; simp [Value.oneCell']
            have m1x3 : Hid (k + 1 ≤ maxLen) := by show _ ≤ _; unfold maxLen; omega
            have m1x4 : Hid ((k + 1) * 16 ≤ 140737488355328) := by show _ ≤ _; omega
            have m1x5 : Hid (w.heap.size ≤ (((wr.alloc (.cells #[.int .i64 3, .int .i64 xc, .int .i64 xn, .string op] 52)).alloc (.cells #[.string ⟨#[120]⟩] 65)).alloc (.cells #[.iface 63 (.pointer (some ⟨wr.heap.size + 1, 0, none⟩))] 26)).heap.size) := by show _ ≤ _; simp; omega
            go_wp2_with (first | (go_at_call 20; refine (errnew_any _ _).mono ?_; rintro e w1 ⟨rfl, rfl⟩) | (at_builtin; refine wpList_append_lies _ rfl _ _ 47 rfl w.heap.size 26 i0 .nilIface 1 16 Tryd.underlying47 hi hz0 hz1 hz2 rfl (by decide) _ _ _ rfl HX.out.o4 ⟨wr.heap.size + 1 + 1, 0, none⟩ 1 1 [.iface 63 (.pointer (some ⟨wr.heap.size + 1, 0, none⟩))] rfl rfl m1x1.out m1x2.out (by decide) m1x3.out m1x4.out m1x5.out _ rfl ?_))
            intro g4 cap4 w3 hown3 hgrow hat hlt3
            have hst3 := HX.out.err hgrow (by simpa using hat) (E := .str) ⟨wr.heap.size + 1, rfl, HS.out.fresh (Nat.le_succ _) (by simp)⟩ hown3
            clear hown3 hgrow hat
            have HX3 := Lib.hid (hst3.below (wA := w3.alloc (.cells #[.int .i64 3, .int .i64 0, .string ⟨#[]⟩, .int .i64 0, .slice none 0 0] 44)) ((Below.refl _ _).alloc (Nat.le_refl _) _))
            have hs3 := hst3.bel.size
            clear hst3
            have m2x1 := Lib.hid (new_cellsH w3 #[.int .i64 3, .int .i64 0, .string ⟨#[]⟩, .int .i64 0, .slice none 0 0] 44 (w3.heap.size) (rfl))
            have m2x2 : Hid (∀ u ∈ [.int .i64 3, .int .i64 0, .string ⟨#[]⟩, .int .i64 0, .slice none 0 0], Value.oneCell' u = true) := by show ∀ u ∈ _, _; simp [Value.oneCell']
            have m2x3 : Hid (k + 1 ≤ maxLen) := by show _ ≤ _; unfold maxLen; omega
            have m2x4 : Hid ((k + 1) * 64 ≤ 140737488355328) := by show _ ≤ _; omega
            have m2x5 : Hid (w.heap.size ≤ (w3.alloc (.cells #[.int .i64 3, .int .i64 0, .string ⟨#[]⟩, .int .i64 0, .slice none 0 0] 44)).heap.size) := by show _ ≤ _; simp; omega
            go_wp2_with (at_builtin; refine wpList_append_lies _ rfl _ _ 27 rfl w.heap.size 44 i1 (.agg #[.int .i64 0, .int .i64 0, .string ⟨#[]⟩, .int .i64 0, .slice none 0 0]) 5 64 Tryd.underlying27 hj hy0 hy1 hy2 rfl (by decide) _ _ _ rfl HX3.out.o5 ⟨w3.heap.size, 0, none⟩ 1 1 [.int .i64 3, .int .i64 0, .string ⟨#[]⟩, .int .i64 0, .slice none 0 0] rfl rfl m2x1.out m2x2.out (by decide) m2x3.out m2x4.out m2x5.out _ rfl ?_)
            intro g5 cap5 w5 hown5 hgrow5 hat5 hlt5
            have hst5 := HX3.out.node hgrow5 (by simpa using hat5) (nd := ⟨3, 0, ⟨#[]⟩, 0, []⟩) ⟨rfl, rfl, rfl, rfl, none, 0, rfl, fun h => absurd rfl h⟩ hown5
            have HST := Lib.hid hst5
            have HMT := Lib.hid (match_snoc HM.out (nd := ⟨3, 0, ⟨#[]⟩, 0, []⟩) (E := .str) (.inr (.inr (.inr ⟨rfl, rfl, rfl⟩))))
            clear hst5 hown5 hgrow5 hat5
            go_wp2
            go_roundw
            case rel => exact ⟨k + 1, _, _, _, _, by omega, by omega, by go_num, HST.out, HMT.out⟩
            case measure => simp [intOf]; omega
          · have t3 : (x == 3) = false := by simp [hx3]
            by_cases hx1 : x = 1
            · have t1 : (x == 1) = true := by simp [hx1]
              have t2 : (x == 2) = false := by simp [hx1]
              by_cases hk0 : k = 0
              · have hk0' : ¬ (0 : Int) < (k : Int) := by omega
                clear hx1 hx3 hk0
                have HX := Lib.hid (HS.out.below (wA := ((wr.alloc (.cells #[.int .i64 x, .int .i64 xc, .int .i64 xn, .string op] 52)).alloc (.cells #[.iface 30 (.int .i64 xc)] 26))) (((Below.refl _ _).alloc (Nat.le_refl _) _).alloc (by simp) _))
                have m3x1 := Lib.hid (new_cellsH (wr.alloc (.cells #[.int .i64 x, .int .i64 xc, .int .i64 xn, .string op] 52)) #[.iface 30 (.int .i64 xc)] 26 (wr.heap.size + 1) (by simp))
                have m3x2 : Hid (∀ u ∈ [.iface 30 (.int .i64 xc)], Value.oneCell' u = true) := by show ∀ u ∈ _, _; simp [Value.oneCell']
                have m3x3 : Hid (k + 1 ≤ maxLen) := by show _ ≤ _; unfold maxLen; omega
                have m3x4 : Hid ((k + 1) * 16 ≤ 140737488355328) := by show _ ≤ _; omega
                have m3x5 : Hid (w.heap.size ≤ ((wr.alloc (.cells #[.int .i64 x, .int .i64 xc, .int .i64 xn, .string op] 52)).alloc (.cells #[.iface 30 (.int .i64 xc)] 26)).heap.size) := by show _ ≤ _; simp; omega
                go_wp2_with (at_builtin; refine wpList_append_lies _ rfl _ _ 47 rfl w.heap.size 26 i0 .nilIface 1 16 Tryd.underlying47 hi hz0 hz1 hz2 rfl (by decide) _ _ _ rfl HX.out.o4 ⟨wr.heap.size + 1, 0, none⟩ 1 1 [.iface 30 (.int .i64 xc)] rfl rfl m3x1.out m3x2.out (by decide) m3x3.out m3x4.out m3x5.out _ rfl ?_)
                intro g4 cap4 w3 hown3 hgrow hat hlt3
                have hst3 := HX.out.err hgrow (by simpa using hat) (E := .num xc) ⟨rfl, q1⟩ hown3
                have hX : Blk w3 wr.heap.size 52 #[.int .i64 x, .int .i64 xc, .int .i64 xn, .string op] := ((Blk.new wr _ _).alloc _).grown hgrow (fun e => by have := (HS.out.o4.lt _ e.symm).2; omega)
                have x1 : w3.cell? ⟨wr.heap.size, 1, none⟩ = some (.int .i64 xc) := hX.cell 1
                clear hown3 hgrow hat hX
                have HX3 := Lib.hid (hst3.below (wA := w3.alloc (.cells #[.int .i64 0, .int .i64 xc, .string ⟨#[]⟩, .int .i64 0, .slice none 0 0] 44)) ((Below.refl _ _).alloc (Nat.le_refl _) _))
                have hs3 := hst3.bel.size
                clear hst3
                have m4x1 := Lib.hid (new_cellsH w3 #[.int .i64 0, .int .i64 xc, .string ⟨#[]⟩, .int .i64 0, .slice none 0 0] 44 (w3.heap.size) (rfl))
                have m4x2 : Hid (∀ u ∈ [.int .i64 0, .int .i64 xc, .string ⟨#[]⟩, .int .i64 0, .slice none 0 0], Value.oneCell' u = true) := by show ∀ u ∈ _, _; simp [Value.oneCell']
                have m4x3 : Hid (k + 1 ≤ maxLen) := by show _ ≤ _; unfold maxLen; omega
                have m4x4 : Hid ((k + 1) * 64 ≤ 140737488355328) := by show _ ≤ _; omega
                have m4x5 : Hid (w.heap.size ≤ (w3.alloc (.cells #[.int .i64 0, .int .i64 xc, .string ⟨#[]⟩, .int .i64 0, .slice none 0 0] 44)).heap.size) := by show _ ≤ _; simp; omega
                go_wp2_with (at_builtin; refine wpList_append_lies _ rfl _ _ 27 rfl w.heap.size 44 i1 (.agg #[.int .i64 0, .int .i64 0, .string ⟨#[]⟩, .int .i64 0, .slice none 0 0]) 5 64 Tryd.underlying27 hj hy0 hy1 hy2 rfl (by decide) _ _ _ rfl HX3.out.o5 ⟨w3.heap.size, 0, none⟩ 1 1 [.int .i64 0, .int .i64 xc, .string ⟨#[]⟩, .int .i64 0, .slice none 0 0] rfl rfl m4x1.out m4x2.out (by decide) m4x3.out m4x4.out m4x5.out _ rfl ?_)
                intro g5 cap5 w5 hown5 hgrow5 hat5 hlt5
                have hst5 := HX3.out.node hgrow5 (by simpa using hat5) (nd := ⟨0, xc, ⟨#[]⟩, 0, []⟩) ⟨rfl, rfl, rfl, rfl, none, 0, rfl, fun h => absurd rfl h⟩ hown5
                have HST := Lib.hid hst5
                have HMT := Lib.hid (match_snoc HM.out (nd := ⟨0, xc, ⟨#[]⟩, 0, []⟩) (E := .num xc) (.inl ⟨rfl, rfl, rfl⟩))
                clear hst5 hown5 hgrow5 hat5
                go_wp2
                go_roundw
                case rel => exact ⟨k + 1, _, _, _, _, by omega, by omega, by go_num, HST.out, HMT.out⟩
                case measure => simp [intOf]; omega
              · have hk0' : (0 : Int) < (k : Int) := by omega
                clear hx1 hx3
                obtain ⟨g4, c4', hA4, hg4b, hg4l⟩ := own_form HS.out.o4 (by omega)
                have hA4' : A4 = some ⟨g4, 0, none⟩ := by injection hA4
                subst hA4'
                have hxl : xs.length = k := by simpa using HS.out.o4.1
                obtain ⟨xv, hxv⟩ : ∃ xv, xs[k - 1]? = some xv := ⟨xs[k - 1], List.getElem?_eq_getElem (by omega)⟩
                obtain ⟨E1, hE1⟩ : ∃ E1, es[k - 1]? = some E1 := ⟨es[k - 1]'(by rw [HS.out.le]; omega), List.getElem?_eq_getElem (by rw [HS.out.le]; omega)⟩
                have hIE := HS.out.ge (k - 1) xv E1 hxv hE1
                obtain ⟨tx, vx, rfl⟩ := hIE.iface
                have cxv : wr.cell? ⟨g4, k - 1, none⟩ = some (.iface tx vx) := own_cells HS.out.o4 _ _ hxv
                have HST2 := Lib.hid (HS.out.below (wA := (((wr.alloc (.cells #[.int .i64 x, .int .i64 xc, .int .i64 xn, .string op] 52)).drew).alloc (.cells #[.string op, .int .i64 xn, .iface tx vx] 60))) (((((Below.refl _ _).alloc (Nat.le_refl _) _).drew).alloc (by simp) _)))
                have HST3 := Lib.hid (HS.out.below (wA := ((((wr.alloc (.cells #[.int .i64 x, .int .i64 xc, .int .i64 xn, .string op] 52)).drew).alloc (.cells #[.string op, .int .i64 xn, .iface tx vx] 60)).alloc (.cells #[.iface 57 (.pointer (some ⟨wr.heap.size + 1, 0, none⟩))] 26))) ((((((Below.refl _ _).alloc (Nat.le_refl _) _).drew).alloc (by simp) _).alloc (by simp; omega) _)))
                have hbA : Below wr.heap.size wr (((wr.alloc (.cells #[.int .i64 x, .int .i64 xc, .int .i64 xn, .string op] 52)).drew).alloc (.cells #[.string op, .int .i64 xn, .iface tx vx] 60)) := (((Below.refl _ _).alloc (Nat.le_refl _) _).drew).alloc (by simp) _
                have B1 : Blk (wr.alloc (.cells #[.int .i64 x, .int .i64 xc, .int .i64 xn, .string op] 52)) wr.heap.size 52 #[.int .i64 x, .int .i64 xc, .int .i64 xn, .string op] := Blk.new wr _ _
                have B2 : Blk (((wr.alloc (.cells #[.int .i64 x, .int .i64 xc, .int .i64 xn, .string op] 52)).drew).alloc (.cells #[.string op, .int .i64 xn, .iface tx vx] 60)) wr.heap.size 52 #[.int .i64 x, .int .i64 xc, .int .i64 xn, .string op] := Blk.alloc (w := (wr.alloc (.cells #[.int .i64 x, .int .i64 xc, .int .i64 xn, .string op] 52)).drew) B1 _
                have B3 : Blk ((((wr.alloc (.cells #[.int .i64 x, .int .i64 xc, .int .i64 xn, .string op] 52)).drew).alloc (.cells #[.string op, .int .i64 xn, .iface tx vx] 60)).alloc (.cells #[.iface 57 (.pointer (some ⟨wr.heap.size + 1, 0, none⟩))] 26)) wr.heap.size 52 #[.int .i64 x, .int .i64 xc, .int .i64 xn, .string op] := B2.alloc _
                have hEF : IsErrP ((((wr.alloc (.cells #[.int .i64 x, .int .i64 xc, .int .i64 xn, .string op] 52)).drew).alloc (.cells #[.string op, .int .i64 xn, .iface tx vx] 60)).alloc (.cells #[.iface 57 (.pointer (some ⟨wr.heap.size + 1, 0, none⟩))] 26)) (Asd2 ((((wr.alloc (.cells #[.int .i64 x, .int .i64 xc, .int .i64 xn, .string op] 52)).drew).alloc (.cells #[.string op, .int .i64 xn, .iface tx vx] 60)).alloc (.cells #[.iface 57 (.pointer (some ⟨wr.heap.size + 1, 0, none⟩))] 26)) (Value.ownBlock (.slice (some ⟨g4, 0, none⟩) k c4)) (Value.ownBlock (.slice A5 k c5))) (.fault op xn E1) (.iface 57 (.pointer (some ⟨wr.heap.size + 1, 0, none⟩))) := by
                  refine ⟨wr.heap.size + 1, .iface tx vx, rfl, HS.out.fresh (Nat.le_succ _) (by simp), ?_, q2, q3, HST3.out.ge (k - 1) _ E1 hxv hE1⟩
                  have hB := Blk.alloc (Blk.new (wr.alloc (.cells #[.int .i64 x, .int .i64 xc, .int .i64 xn, .string op] 52)).drew 60 #[.string op, .int .i64 xn, .iface tx vx]) (.cells #[.iface 57 (.pointer (some ⟨wr.heap.size + 1, 0, none⟩))] 26)
                  have he : (World.drew (wr.alloc (.cells #[.int .i64 x, .int .i64 xc, .int .i64 xn, .string op] 52))).heap.size = wr.heap.size + 1 := by simp
                  rw [he] at hB
                  exact hB
                have HEF := Lib.hid hEF
                have HB3 := Lib.hid B3
                have HXV := Lib.hid hxv
                have HK3 : Hid (((((wr.alloc (.cells #[.int .i64 x, .int .i64 xc, .int .i64 xn, .string op] 52)).drew).alloc (.cells #[.string op, .int .i64 xn, .iface tx vx] 60)).alloc (.cells #[.iface 57 (.pointer (some ⟨wr.heap.size + 1, 0, none⟩))] 26)).cell? ⟨wr.heap.size, 3, none⟩ = some (.string op)) := B3.cell 3
                have HK2 : Hid (((((wr.alloc (.cells #[.int .i64 x, .int .i64 xc, .int .i64 xn, .string op] 52)).drew).alloc (.cells #[.string op, .int .i64 xn, .iface tx vx] 60)).alloc (.cells #[.iface 57 (.pointer (some ⟨wr.heap.size + 1, 0, none⟩))] 26)).cell? ⟨wr.heap.size, 2, none⟩ = some (.int .i64 xn)) := B3.cell 2
                have HKX : Hid (((((wr.alloc (.cells #[.int .i64 x, .int .i64 xc, .int .i64 xn, .string op] 52)).drew).alloc (.cells #[.string op, .int .i64 xn, .iface tx vx] 60)).alloc (.cells #[.iface 57 (.pointer (some ⟨wr.heap.size + 1, 0, none⟩))] 26)).cell? ⟨g4, k - 1, none⟩ = some (.iface tx vx)) := own_cells HST3.out.o4 _ _ hxv
                have HE1 := Lib.hid hE1
                have f3 : (((wr.alloc (.cells #[.int .i64 x, .int .i64 xc, .int .i64 xn, .string op] 52)).drew).alloc (.cells #[.string op, .int .i64 xn, .iface tx vx] 60)).cell? ⟨wr.heap.size, 3, none⟩ = some (.string op) := B2.cell 3
                have f2 : (((wr.alloc (.cells #[.int .i64 x, .int .i64 xc, .int .i64 xn, .string op] 52)).drew).alloc (.cells #[.string op, .int .i64 xn, .iface tx vx] 60)).cell? ⟨wr.heap.size, 2, none⟩ = some (.int .i64 xn) := B2.cell 2
                have fx : (((wr.alloc (.cells #[.int .i64 x, .int .i64 xc, .int .i64 xn, .string op] 52)).drew).alloc (.cells #[.string op, .int .i64 xn, .iface tx vx] 60)).cell? ⟨g4, k - 1, none⟩ = some (.iface tx vx) := by rw [hbA.cell (p := ⟨g4, k - 1, none⟩) hg4l]; exact cxv
                have HF3 := Lib.hid f3
                have HF2 := Lib.hid f2
                have HFX := Lib.hid fx
                have e3 : (wr.alloc (.cells #[.int .i64 x, .int .i64 xc, .int .i64 xn, .string op] 52)).cell? ⟨wr.heap.size, 3, none⟩ = some (.string op) := B1.cell 3
                have e2 : (wr.alloc (.cells #[.int .i64 x, .int .i64 xc, .int .i64 xn, .string op] 52)).cell? ⟨wr.heap.size, 2, none⟩ = some (.int .i64 xn) := B1.cell 2
                have ex : (wr.alloc (.cells #[.int .i64 x, .int .i64 xc, .int .i64 xn, .string op] 52)).cell? ⟨g4, k - 1, none⟩ = some (.iface tx vx) := by rw [World.cell?_alloc_lt _ _ _ hg4l]; exact cxv
                have HG3 := Lib.hid e3
                have HG2 := Lib.hid e2
                have HGX := Lib.hid ex
                have r0 : IntKind.i64.wrap ((k : Int) - 1) = (k : Int) - 1 := IntWalk.i64_in _ (by omega)
                have r1 : ((k : Int) - 1).toNat = k - 1 := by omega
                have r2 : (0 : Int) ≤ (k : Int) - 1 := by omega
                have r3 : (k : Int) - 1 < (k : Int) := by omega
                have r4 : (1 : Int) ≤ (k : Int) := by omega
                have m5x1 := Lib.hid (new_cellsH (((wr.alloc (.cells #[.int .i64 x, .int .i64 xc, .int .i64 xn, .string op] 52)).drew).alloc (.cells #[.string op, .int .i64 xn, .iface tx vx] 60)) #[.iface 57 (.pointer (some ⟨wr.heap.size + 1, 0, none⟩))] 26 (wr.heap.size + 1 + 1) (by simp))
                have m5x2 : Hid (∀ u ∈ [.iface 57 (.pointer (some ⟨wr.heap.size + 1, 0, none⟩))], Value.oneCell' u = true) := by show ∀ u ∈ _, _; simp [Value.oneCell']
                have m5x3 : Hid (k + 1 ≤ maxLen) := by show _ ≤ _; unfold maxLen; omega
                have m5x4 : Hid ((k + 1) * 16 ≤ 140737488355328) := by show _ ≤ _; omega
                have m5x5 : Hid (w.heap.size ≤ ((((wr.alloc (.cells #[.int .i64 x, .int .i64 xc, .int .i64 xn, .string op] 52)).drew).alloc (.cells #[.string op, .int .i64 xn, .iface tx vx] 60)).alloc (.cells #[.iface 57 (.pointer (some ⟨wr.heap.size + 1, 0, none⟩))] 26)).heap.size) := by show _ ≤ _; simp; omega
                have m5x6 : Hid (((((wr.alloc (.cells #[.int .i64 x, .int .i64 xc, .int .i64 xn, .string op] 52)).drew).alloc (.cells #[.string op, .int .i64 xn, .iface tx vx] 60)).alloc (.cells #[.iface 57 (.pointer (some ⟨wr.heap.size + 1, 0, none⟩))] 26)).heap.size = wr.heap.size + 1 + 1 + 1) := by show _ = _; simp
                clear hIE cxv hbA B1 B2 B3 hEF f3 f2 fx e3 e2 ex hxv hE1
                go_wp2
                go_region_held3 (fun w' => w'.cell? ⟨wr.heap.size, 3, none⟩ = some (.string op) ∧ w'.cell? ⟨wr.heap.size, 2, none⟩ = some (.int .i64 xn) ∧ w'.cell? ⟨g4, k - 1, none⟩ = some (.iface tx vx)) (first | exact ⟨HG3.out, HG2.out, HGX.out⟩ | exact ⟨HF3.out, HF2.out, HFX.out⟩ | exact ⟨HK3.out, HK2.out, HKX.out⟩ | exact ⟨y3, y2, yx⟩) (first | (go_at_call 18; refine (wrap_run op xn tx vx _).mono ?_; rintro e w2 ⟨rfl, rfl⟩) | (refine step_append_old _ (by rfl) _ _ 47 (by rfl) w.heap.size 26 i0 .nilIface 1 16 Tryd.underlying47 hi hz0 hz1 hz2 rfl (by decide) _ k _ (by rfl) HST3.out.o4 ⟨wr.heap.size + 1 + 1, 0, none⟩ 1 1 [.iface 57 (.pointer (some ⟨wr.heap.size + 1, 0, none⟩))] (by rfl) (by rfl) m5x1.out m5x2.out (by decide) m5x3.out m5x4.out m5x5.out _ m5x6.out ?_; intro gg cap3 w3 hown3 hgrow hat hlt3 hold3; have hX := HB3.out.grown hgrow (fun e => by have := (HS.out.o4.lt _ e.symm).2; omega); have y3 : w3.cell? ⟨wr.heap.size, 3, none⟩ = some (.string op) := hX.cell 3; have y2 : w3.cell? ⟨wr.heap.size, 2, none⟩ = some (.int .i64 xn) := hX.cell 2; have yx : w3.cell? ⟨g4, k - 1, none⟩ = some (.iface tx vx) := hold3 g4 rfl (k - 1) _ HXV.out))
                have hst3 := HST3.out.err hgrow (by rcases hat with h | h; exact .inl h; exact .inr (by rw [h, m5x6.out])) (E := .fault op xn E1) HEF.out hown3
                have x2 : w3.cell? ⟨wr.heap.size, 2, none⟩ = some (.int .i64 xn) := y2
                have x3 : w3.cell? ⟨wr.heap.size, 3, none⟩ = some (.string op) := y3
                have hs3 := hst3.bel.size
                have HXK := Lib.hid (hst3.below (wA := (w3.alloc (.cells #[.int .i64 ((k : Int) - 1)] 3)).alloc (.cells #[.int .i64 1, .int .i64 0, .string op, .int .i64 xn, .slice (some ⟨w3.heap.size, 0, none⟩) 1 1] 44)) (((Below.refl _ _).alloc (Nat.le_refl _) _).alloc (by simp) _))
                have HND : Hid (NdC ((w3.alloc (.cells #[.int .i64 ((k : Int) - 1)] 3)).alloc (.cells #[.int .i64 1, .int .i64 0, .string op, .int .i64 xn, .slice (some ⟨w3.heap.size, 0, none⟩) 1 1] 44)) (Asd2 ((w3.alloc (.cells #[.int .i64 ((k : Int) - 1)] 3)).alloc (.cells #[.int .i64 1, .int .i64 0, .string op, .int .i64 xn, .slice (some ⟨w3.heap.size, 0, none⟩) 1 1] 44)) (Value.ownBlock (.slice (some ⟨gg, 0, none⟩) (k + 1) cap3)) (Value.ownBlock (.slice A5 k c5))) ⟨1, 0, op, xn, [k - 1]⟩ (fun q => [.int .i64 1, .int .i64 0, .string op, .int .i64 xn, .slice (some ⟨w3.heap.size, 0, none⟩) 1 1][q]?)) := by
                  refine ⟨rfl, rfl, rfl, rfl, some ⟨w3.heap.size, 0, none⟩, 1, rfl, fun _ => ⟨w3.heap.size, rfl, hst3.fresh (Nat.le_refl _) (by simp; omega), fun j q hq => ?_⟩⟩
                  have hB := (Blk.new w3 3 #[.int .i64 ((k : Int) - 1)]).alloc (.cells #[.int .i64 1, .int .i64 0, .string op, .int .i64 xn, .slice (some ⟨w3.heap.size, 0, none⟩) 1 1] 44)
                  cases j with
                  | zero =>
                    simp at hq
                    subst hq
                    rw [hB.cell 0]
                    show some (Value.int .i64 ((k : Int) - 1)) = some (Value.int .i64 ((k - 1 : Nat) : Int))
                    rw [show ((k - 1 : Nat) : Int) = (k : Int) - 1 from by omega]
                  | succ j => simp at hq
                have HOK : Hid (OkNd es ns.length ⟨1, 0, op, xn, [k - 1]⟩ (.fault op xn E1)) := .inr (.inl ⟨rfl, k - 1, E1, rfl, by rw [HS.out.ln]; omega, HE1.out, rfl⟩)
                have m6x1 := Lib.hid (new_cellsH (w3.alloc (.cells #[.int .i64 ((k : Int) - 1)] 3)) #[.int .i64 1, .int .i64 0, .string op, .int .i64 xn, .slice (some ⟨w3.heap.size, 0, none⟩) 1 1] 44 (w3.heap.size + 1) (by simp))
                have m6x2 : Hid (∀ u ∈ [.int .i64 1, .int .i64 0, .string op, .int .i64 xn, .slice (some ⟨w3.heap.size, 0, none⟩) 1 1], Value.oneCell' u = true) := by show ∀ u ∈ _, _; simp [Value.oneCell']
                have m6x3 : Hid (k + 1 ≤ maxLen) := by show _ ≤ _; unfold maxLen; omega
                have m6x4 : Hid ((k + 1) * 64 ≤ 140737488355328) := by show _ ≤ _; omega
                have m6x5 : Hid (w.heap.size ≤ ((w3.alloc (.cells #[.int .i64 ((k : Int) - 1)] 3)).alloc (.cells #[.int .i64 1, .int .i64 0, .string op, .int .i64 xn, .slice (some ⟨w3.heap.size, 0, none⟩) 1 1] 44)).heap.size) := by show _ ≤ _; simp; omega
                clear hst3 hown3 hgrow hat hold3 hX y3 y2 yx r0 r1 r2 r3 r4
                go_wp2_with (at_builtin; refine wpList_append_lies _ rfl _ _ 27 rfl w.heap.size 44 i1 (.agg #[.int .i64 0, .int .i64 0, .string ⟨#[]⟩, .int .i64 0, .slice none 0 0]) 5 64 Tryd.underlying27 hj hy0 hy1 hy2 rfl (by decide) _ _ _ rfl HXK.out.o5 ⟨w3.heap.size + 1, 0, none⟩ 1 1 [.int .i64 1, .int .i64 0, .string op, .int .i64 xn, .slice (some ⟨w3.heap.size, 0, none⟩) 1 1] rfl rfl m6x1.out m6x2.out (by decide) m6x3.out m6x4.out m6x5.out _ rfl ?_)
                intro g5 cap5 w5 hown5 hgrow5 hat5 hlt5
                have hst5 := HXK.out.node hgrow5 (by simpa using hat5) HND.out hown5
                have HST := Lib.hid hst5
                have HMT := Lib.hid (match_snoc HM.out HOK.out)
                clear hst5 hown5 hgrow5 hat5
                go_wp2
                go_roundw
                case rel => exact ⟨k + 1, _, _, _, _, by omega, by omega, by go_num, HST.out, HMT.out⟩
                case measure => simp [intOf]; omega
            · have t1 : (x == 1) = false := by simp [hx1]
              by_cases hx2 : x = 2
              · have t2 : (x == 2) = true := by simp [hx2]
                by_cases hk1 : k ≤ 1
                · have hk1' : ¬ (1 : Int) < (k : Int) := by omega
                  clear hx1 hx3 hx2
                  have HX := Lib.hid (HS.out.below (wA := ((wr.alloc (.cells #[.int .i64 x, .int .i64 xc, .int .i64 xn, .string op] 52)).alloc (.cells #[.iface 30 (.int .i64 xc)] 26))) (((Below.refl _ _).alloc (Nat.le_refl _) _).alloc (by simp) _))
                  have m7x1 := Lib.hid (new_cellsH (wr.alloc (.cells #[.int .i64 x, .int .i64 xc, .int .i64 xn, .string op] 52)) #[.iface 30 (.int .i64 xc)] 26 (wr.heap.size + 1) (by simp))
                  have m7x2 : Hid (∀ u ∈ [.iface 30 (.int .i64 xc)], Value.oneCell' u = true) := by show ∀ u ∈ _, _; simp [Value.oneCell']
                  have m7x3 : Hid (k + 1 ≤ maxLen) := by show _ ≤ _; unfold maxLen; omega
                  have m7x4 : Hid ((k + 1) * 16 ≤ 140737488355328) := by show _ ≤ _; omega
                  have m7x5 : Hid (w.heap.size ≤ ((wr.alloc (.cells #[.int .i64 x, .int .i64 xc, .int .i64 xn, .string op] 52)).alloc (.cells #[.iface 30 (.int .i64 xc)] 26)).heap.size) := by show _ ≤ _; simp; omega
                  go_wp2_with (at_builtin; refine wpList_append_lies _ rfl _ _ 47 rfl w.heap.size 26 i0 .nilIface 1 16 Tryd.underlying47 hi hz0 hz1 hz2 rfl (by decide) _ _ _ rfl HX.out.o4 ⟨wr.heap.size + 1, 0, none⟩ 1 1 [.iface 30 (.int .i64 xc)] rfl rfl m7x1.out m7x2.out (by decide) m7x3.out m7x4.out m7x5.out _ rfl ?_)
                  intro g4 cap4 w3 hown3 hgrow hat hlt3
                  have hst3 := HX.out.err hgrow (by simpa using hat) (E := .num xc) ⟨rfl, q1⟩ hown3
                  have hX : Blk w3 wr.heap.size 52 #[.int .i64 x, .int .i64 xc, .int .i64 xn, .string op] := ((Blk.new wr _ _).alloc _).grown hgrow (fun e => by have := (HS.out.o4.lt _ e.symm).2; omega)
                  have x1 : w3.cell? ⟨wr.heap.size, 1, none⟩ = some (.int .i64 xc) := hX.cell 1
                  clear hown3 hgrow hat hX
                  have HX3 := Lib.hid (hst3.below (wA := w3.alloc (.cells #[.int .i64 0, .int .i64 xc, .string ⟨#[]⟩, .int .i64 0, .slice none 0 0] 44)) ((Below.refl _ _).alloc (Nat.le_refl _) _))
                  have hs3 := hst3.bel.size
                  clear hst3
                  have m8x1 := Lib.hid (new_cellsH w3 #[.int .i64 0, .int .i64 xc, .string ⟨#[]⟩, .int .i64 0, .slice none 0 0] 44 (w3.heap.size) (rfl))
                  have m8x2 : Hid (∀ u ∈ [.int .i64 0, .int .i64 xc, .string ⟨#[]⟩, .int .i64 0, .slice none 0 0], Value.oneCell' u = true) := by show ∀ u ∈ _, _; simp [Value.oneCell']
                  have m8x3 : Hid (k + 1 ≤ maxLen) := by show _ ≤ _; unfold maxLen; omega
                  have m8x4 : Hid ((k + 1) * 64 ≤ 140737488355328) := by show _ ≤ _; omega
                  have m8x5 : Hid (w.heap.size ≤ (w3.alloc (.cells #[.int .i64 0, .int .i64 xc, .string ⟨#[]⟩, .int .i64 0, .slice none 0 0] 44)).heap.size) := by show _ ≤ _; simp; omega
                  go_wp2_with (at_builtin; refine wpList_append_lies _ rfl _ _ 27 rfl w.heap.size 44 i1 (.agg #[.int .i64 0, .int .i64 0, .string ⟨#[]⟩, .int .i64 0, .slice none 0 0]) 5 64 Tryd.underlying27 hj hy0 hy1 hy2 rfl (by decide) _ _ _ rfl HX3.out.o5 ⟨w3.heap.size, 0, none⟩ 1 1 [.int .i64 0, .int .i64 xc, .string ⟨#[]⟩, .int .i64 0, .slice none 0 0] rfl rfl m8x1.out m8x2.out (by decide) m8x3.out m8x4.out m8x5.out _ rfl ?_)
                  intro g5 cap5 w5 hown5 hgrow5 hat5 hlt5
                  have hst5 := HX3.out.node hgrow5 (by simpa using hat5) (nd := ⟨0, xc, ⟨#[]⟩, 0, []⟩) ⟨rfl, rfl, rfl, rfl, none, 0, rfl, fun h => absurd rfl h⟩ hown5
                  have HST := Lib.hid hst5
                  have HMT := Lib.hid (match_snoc HM.out (nd := ⟨0, xc, ⟨#[]⟩, 0, []⟩) (E := .num xc) (.inl ⟨rfl, rfl, rfl⟩))
                  clear hst5 hown5 hgrow5 hat5
                  go_wp2
                  go_roundw
                  case rel => exact ⟨k + 1, _, _, _, _, by omega, by omega, by go_num, HST.out, HMT.out⟩
                  case measure => simp [intOf]; omega
                · have hk1' : (1 : Int) < (k : Int) := by omega
                  clear hx1 hx3 hx2
                  obtain ⟨g4, c4', hA4, hg4b, hg4l⟩ := own_form HS.out.o4 (by omega)
                  have hA4' : A4 = some ⟨g4, 0, none⟩ := by injection hA4
                  subst hA4'
                  have hxl : xs.length = k := by simpa using HS.out.o4.1
                  obtain ⟨xv, hxv⟩ : ∃ xv, xs[k - 1]? = some xv := ⟨xs[k - 1], List.getElem?_eq_getElem (by omega)⟩
                  obtain ⟨xw, hxw⟩ : ∃ xw, xs[k - 2]? = some xw := ⟨xs[k - 2], List.getElem?_eq_getElem (by omega)⟩
                  obtain ⟨E1, hE1⟩ : ∃ E1, es[k - 1]? = some E1 := ⟨es[k - 1]'(by rw [HS.out.le]; omega), List.getElem?_eq_getElem (by rw [HS.out.le]; omega)⟩
                  obtain ⟨E2, hE2⟩ : ∃ E2, es[k - 2]? = some E2 := ⟨es[k - 2]'(by rw [HS.out.le]; omega), List.getElem?_eq_getElem (by rw [HS.out.le]; omega)⟩
                  have hI1 := HS.out.ge (k - 1) xv E1 hxv hE1
                  have hI2 := HS.out.ge (k - 2) xw E2 hxw hE2
                  obtain ⟨tx, vx, rfl⟩ := hI1.iface
                  obtain ⟨ty, vy, rfl⟩ := hI2.iface
                  have cxv : wr.cell? ⟨g4, k - 1, none⟩ = some (.iface tx vx) := own_cells HS.out.o4 _ _ hxv
                  have cxw : wr.cell? ⟨g4, k - 2, none⟩ = some (.iface ty vy) := own_cells HS.out.o4 _ _ hxw
                  have hb1 : Below wr.heap.size wr ((wr.alloc (.cells #[.int .i64 x, .int .i64 xc, .int .i64 xn, .string op] 52)).drew.alloc (.cells #[.nilIface, .iface ty vy, .iface tx vx] 26)) := (((Below.refl _ _).alloc (Nat.le_refl _) _).drew).alloc (by simp) _
                  have HST1 := Lib.hid (HS.out.below hb1)
                  have hs1 : ((wr.alloc (.cells #[.int .i64 x, .int .i64 xc, .int .i64 xn, .string op] 52)).drew.alloc (.cells #[.nilIface, .iface ty vy, .iface tx vx] 26)).heap.size = wr.heap.size + 1 + 1 := by simp
                  have hlv : live (fun i => [Value.nilIface, .iface ty vy, .iface tx vx].getD i .nilIface) 3 = [.iface ty vy, .iface tx vx] := rfl
                  have hER : Errs ((wr.alloc (.cells #[.int .i64 x, .int .i64 xc, .int .i64 xn, .string op] 52)).drew.alloc (.cells #[.nilIface, .iface ty vy, .iface tx vx] 26)) (some ⟨wr.heap.size + 1, 0, none⟩) 3 (fun i => [Value.nilIface, .iface ty vy, .iface tx vx].getD i .nilIface) := by
                    have hB := Blk.new (wr.alloc (.cells #[.int .i64 x, .int .i64 xc, .int .i64 xn, .string op] 52)).drew 26 #[.nilIface, .iface ty vy, .iface tx vx]
                    have he : (World.drew (wr.alloc (.cells #[.int .i64 x, .int .i64 xc, .int .i64 xn, .string op] 52))).heap.size = wr.heap.size + 1 := by simp
                    rw [he] at hB
                    refine .inr ⟨wr.heap.size + 1, rfl, by rw [hs1]; omega, fun i hi => ?_⟩
                    match i, hi with
                    | 0, _ => exact ⟨hB.cell 0, .inl rfl⟩
                    | 1, _ => exact ⟨hB.cell 1, .inr ⟨_, _, rfl⟩⟩
                    | 2, _ => exact ⟨hB.cell 2, .inr ⟨_, _, rfl⟩⟩
                  have HJ := Lib.hid (join_some (some ⟨wr.heap.size + 1, 0, none⟩) 3 3 (fun i => [Value.nilIface, .iface ty vy, .iface tx vx].getD i .nilIface) (by decide) ((wr.alloc (.cells #[.int .i64 x, .int .i64 xc, .int .i64 xn, .string op] 52)).drew.alloc (.cells #[.nilIface, .iface ty vy, .iface tx vx] 26)) hER (by rw [hlv]; simp))
                  rw [hlv] at HJ
                  have HKD : Hid (∀ (j : Nat) (u : Value), ([.iface ty vy, .iface tx vx] : List Value)[j]? = some u → IsErrP ((wr.alloc (.cells #[.int .i64 x, .int .i64 xc, .int .i64 xn, .string op] 52)).drew.alloc (.cells #[.nilIface, .iface ty vy, .iface tx vx] 26)) (Asd2 ((wr.alloc (.cells #[.int .i64 x, .int .i64 xc, .int .i64 xn, .string op] 52)).drew.alloc (.cells #[.nilIface, .iface ty vy, .iface tx vx] 26)) (Value.ownBlock (.slice (some ⟨g4, 0, none⟩) k c4)) (Value.ownBlock (.slice A5 k c5))) ((fun q => [E2, E1].getD q .str) j) u) := by
                    intro j u hu
                    match j, hu with
                    | 0, hu => simp at hu; subst hu; exact HST1.out.ge (k - 2) _ E2 hxw hE2
                    | 1, hu => simp at hu; subst hu; exact HST1.out.ge (k - 1) _ E1 hxv hE1
                    | j + 2, hu => simp at hu
                  have HXV := Lib.hid hxv
                  have HXW := Lib.hid hxw
                  have HE1 := Lib.hid hE1
                  have HE2 := Lib.hid hE2
                  have HB1 := Lib.hid hb1
                  have HS1 := Lib.hid hs1
                  have HA1 : Hid ((wr.alloc (.cells #[.int .i64 x, .int .i64 xc, .int .i64 xn, .string op] 52)).cell? ⟨g4, k - 1, none⟩ = some (.iface tx vx)) := by show _ = _; rw [World.cell?_alloc_lt _ _ _ hg4l]; exact cxv
                  have HA2 : Hid ((wr.alloc (.cells #[.int .i64 x, .int .i64 xc, .int .i64 xn, .string op] 52)).cell? ⟨g4, k - 2, none⟩ = some (.iface ty vy)) := by show _ = _; rw [World.cell?_alloc_lt _ _ _ hg4l]; exact cxw
                  have HC1 : Hid (((wr.alloc (.cells #[.int .i64 x, .int .i64 xc, .int .i64 xn, .string op] 52)).drew.alloc (.cells #[.nilIface, .iface ty vy, .iface tx vx] 26)).cell? ⟨g4, k - 1, none⟩ = some (.iface tx vx)) := by show _ = _; rw [hb1.cell (p := ⟨g4, k - 1, none⟩) hg4l]; exact cxv
                  have HC2 : Hid (((wr.alloc (.cells #[.int .i64 x, .int .i64 xc, .int .i64 xn, .string op] 52)).drew.alloc (.cells #[.nilIface, .iface ty vy, .iface tx vx] 26)).cell? ⟨g4, k - 2, none⟩ = some (.iface ty vy)) := by show _ = _; rw [hb1.cell (p := ⟨g4, k - 2, none⟩) hg4l]; exact cxw
                  have r0 : IntKind.i64.wrap ((k : Int) - 1) = (k : Int) - 1 := IntWalk.i64_in _ (by omega)
                  have r1 : ((k : Int) - 1).toNat = k - 1 := by omega
                  have r2 : (0 : Int) ≤ (k : Int) - 1 := by omega
                  have r3 : (k : Int) - 1 < (k : Int) := by omega
                  have r4 : (1 : Int) ≤ (k : Int) := by omega
                  have r5 : IntKind.i64.wrap ((k : Int) - 2) = (k : Int) - 2 := IntWalk.i64_in _ (by omega)
                  have r6 : ((k : Int) - 2).toNat = k - 2 := by omega
                  have r7 : (0 : Int) ≤ (k : Int) - 2 := by omega
                  have r8 : (k : Int) - 2 < (k : Int) := by omega
                  have r9 : (2 : Int) ≤ (k : Int) := by omega
                  have m9xa : Hid (k + 1 ≤ maxLen) := by show _ ≤ _; unfold maxLen; omega
                  have m9xb : Hid ((k + 1) * 16 ≤ 140737488355328) := by show _ ≤ _; omega
                  clear hI1 hI2 cxv cxw hb1 hER hlv hxv hxw hE1 hE2 hs1
                  go_wp2
                  go_region_held3 (fun w' => w'.cell? ⟨g4, k - 1, none⟩ = some (.iface tx vx) ∧ w'.cell? ⟨g4, k - 2, none⟩ = some (.iface ty vy)) (first | exact ⟨HA1.out, HA2.out⟩ | exact ⟨HC1.out, HC2.out⟩ | exact ⟨z1, z2⟩ | exact ⟨u1, u2⟩ | exact ⟨y1, y2⟩) (first | (go_at_call 19; refine HJ.out.mono ?_; rintro e w2 hjd; obtain ⟨tj, xj, rfl, hEJ, hbJ⟩ := joined_errP hjd _ (by simp) (P' := Asd2 w2 (Value.ownBlock (.slice (some ⟨g4, 0, none⟩) k c4)) (Value.ownBlock (.slice A5 k c5))) HKD.out (fun b hb => ⟨hb.1, Nat.lt_of_lt_of_le hb.1 hjd.below.size, hb.2⟩) (fun b h1 h2 => HST1.out.fresh h1 h2); have z1 : w2.cell? ⟨g4, k - 1, none⟩ = some (.iface tx vx) := (hbJ.cell (p := ⟨g4, k - 1, none⟩) (by rw [HS1.out]; show g4 < _; omega)).trans HC1.out; have z2 : w2.cell? ⟨g4, k - 2, none⟩ = some (.iface ty vy) := (hbJ.cell (p := ⟨g4, k - 2, none⟩) (by rw [HS1.out]; show g4 < _; omega)).trans HC2.out; have HST2 := Lib.hid (HST1.out.below hbJ); have HST3 := Lib.hid (HST2.out.below (wA := w2.alloc (.cells #[.iface tj xj] 26)) ((Below.refl _ _).alloc (Nat.le_refl _) _)); have u1 : (w2.alloc (.cells #[.iface tj xj] 26)).cell? ⟨g4, k - 1, none⟩ = some (.iface tx vx) := own_cells HST3.out.o4 _ _ HXV.out; have u2 : (w2.alloc (.cells #[.iface tj xj] 26)).cell? ⟨g4, k - 2, none⟩ = some (.iface ty vy) := own_cells HST3.out.o4 _ _ HXW.out; have hsJ := hbJ.size) | (refine step_append_old _ (by rfl) _ _ 47 (by rfl) w.heap.size 26 i0 .nilIface 1 16 Tryd.underlying47 hi hz0 hz1 hz2 rfl (by decide) _ k _ (by rfl) HST3.out.o4 ⟨w2.heap.size, 0, none⟩ 1 1 [.iface tj xj] (by rfl) (by rfl) (new_cellsH w2 #[_] _ _ rfl) (by simp [Value.oneCell']) (by decide) m9xa.out m9xb.out (by have := HST3.out.bel.size; exact this) _ (World.size_alloc _ _) ?_; intro gg cap3 w3 hown3 hgrow hat hlt3 hold3; have y1 : w3.cell? ⟨g4, k - 1, none⟩ = some (.iface tx vx) := hold3 g4 rfl (k - 1) _ HXV.out; have y2 : w3.cell? ⟨g4, k - 2, none⟩ = some (.iface ty vy) := hold3 g4 rfl (k - 2) _ HXW.out))
                  have hst3 := HST3.out.err hgrow (by rcases hat with h | h; exact .inl h; exact .inr (by rw [h, World.size_alloc])) (E := .join 2 fun q => [E2, E1].getD q .str) (IsErrP.more (asd2_below ((Below.refl _ _).alloc (Nat.le_refl _) _)).1 (IsErrP.keep (asd2_below ((Below.refl _ _).alloc (Nat.le_refl _) _)).2 hEJ)) hown3
                  have hs3 := hst3.bel.size
                  have HXK := Lib.hid (hst3.below (wA := (w3.alloc (.cells #[.int .i64 ((k : Int) - 2), .int .i64 ((k : Int) - 1)] 3)).alloc (.cells #[.int .i64 2, .int .i64 0, .string ⟨#[]⟩, .int .i64 0, .slice (some ⟨w3.heap.size, 0, none⟩) 2 2] 44)) (((Below.refl _ _).alloc (Nat.le_refl _) _).alloc (by simp) _))
                  have HND : Hid (NdC ((w3.alloc (.cells #[.int .i64 ((k : Int) - 2), .int .i64 ((k : Int) - 1)] 3)).alloc (.cells #[.int .i64 2, .int .i64 0, .string ⟨#[]⟩, .int .i64 0, .slice (some ⟨w3.heap.size, 0, none⟩) 2 2] 44)) (Asd2 ((w3.alloc (.cells #[.int .i64 ((k : Int) - 2), .int .i64 ((k : Int) - 1)] 3)).alloc (.cells #[.int .i64 2, .int .i64 0, .string ⟨#[]⟩, .int .i64 0, .slice (some ⟨w3.heap.size, 0, none⟩) 2 2] 44)) (Value.ownBlock (.slice (some ⟨gg, 0, none⟩) (k + 1) cap3)) (Value.ownBlock (.slice A5 k c5))) ⟨2, 0, ⟨#[]⟩, 0, [k - 2, k - 1]⟩ (fun q => [.int .i64 2, .int .i64 0, .string ⟨#[]⟩, .int .i64 0, .slice (some ⟨w3.heap.size, 0, none⟩) 2 2][q]?)) := by
                    refine ⟨rfl, rfl, rfl, rfl, some ⟨w3.heap.size, 0, none⟩, 2, rfl, fun _ => ⟨w3.heap.size, rfl, hst3.fresh (Nat.le_refl _) (by simp; omega), fun j q hq => ?_⟩⟩
                    have hB := (Blk.new w3 3 #[.int .i64 ((k : Int) - 2), .int .i64 ((k : Int) - 1)]).alloc (.cells #[.int .i64 2, .int .i64 0, .string ⟨#[]⟩, .int .i64 0, .slice (some ⟨w3.heap.size, 0, none⟩) 2 2] 44)
                    match j, hq with
                    | 0, hq =>
                      simp at hq
                      subst hq
                      rw [hB.cell 0]
                      show some (Value.int .i64 ((k : Int) - 2)) = some (Value.int .i64 ((k - 2 : Nat) : Int))
                      rw [show ((k - 2 : Nat) : Int) = (k : Int) - 2 from by omega]
                    | 1, hq =>
                      simp at hq
                      subst hq
                      rw [hB.cell 1]
                      show some (Value.int .i64 ((k : Int) - 1)) = some (Value.int .i64 ((k - 1 : Nat) : Int))
                      rw [show ((k - 1 : Nat) : Int) = (k : Int) - 1 from by omega]
                    | j + 2, hq => simp at hq
                  have HOK : Hid (OkNd es ns.length ⟨2, 0, ⟨#[]⟩, 0, [k - 2, k - 1]⟩ (.join 2 fun q => [E2, E1].getD q .str)) := .inr (.inr (.inl ⟨rfl, k - 2, k - 1, E2, E1, rfl, by rw [HS.out.ln]; omega, by rw [HS.out.ln]; omega, HE2.out, HE1.out, rfl⟩))
                  have m9x1 := Lib.hid (new_cellsH (w3.alloc (.cells #[.int .i64 ((k : Int) - 2), .int .i64 ((k : Int) - 1)] 3)) #[.int .i64 2, .int .i64 0, .string ⟨#[]⟩, .int .i64 0, .slice (some ⟨w3.heap.size, 0, none⟩) 2 2] 44 (w3.heap.size + 1) (by simp))
                  have m9x2 : Hid (∀ u ∈ [.int .i64 2, .int .i64 0, .string ⟨#[]⟩, .int .i64 0, .slice (some ⟨w3.heap.size, 0, none⟩) 2 2], Value.oneCell' u = true) := by show ∀ u ∈ _, _; simp [Value.oneCell']
                  have m9x3 : Hid (k + 1 ≤ maxLen) := by show _ ≤ _; unfold maxLen; omega
                  have m9x4 : Hid ((k + 1) * 64 ≤ 140737488355328) := by show _ ≤ _; omega
                  have m9x5 : Hid (w.heap.size ≤ ((w3.alloc (.cells #[.int .i64 ((k : Int) - 2), .int .i64 ((k : Int) - 1)] 3)).alloc (.cells #[.int .i64 2, .int .i64 0, .string ⟨#[]⟩, .int .i64 0, .slice (some ⟨w3.heap.size, 0, none⟩) 2 2] 44)).heap.size) := by show _ ≤ _; simp; omega
                  clear hst3 hown3 hgrow hat hold3 y1 y2 z1 z2 u1 u2 hEJ hbJ hjd r0 r1 r2 r3 r4 r5 r6 r7 r8 r9
                  go_wp2_with (at_builtin; refine wpList_append_lies _ rfl _ _ 27 rfl w.heap.size 44 i1 (.agg #[.int .i64 0, .int .i64 0, .string ⟨#[]⟩, .int .i64 0, .slice none 0 0]) 5 64 Tryd.underlying27 hj hy0 hy1 hy2 rfl (by decide) _ _ _ rfl HXK.out.o5 ⟨w3.heap.size + 1, 0, none⟩ 1 1 [.int .i64 2, .int .i64 0, .string ⟨#[]⟩, .int .i64 0, .slice (some ⟨w3.heap.size, 0, none⟩) 2 2] rfl rfl m9x1.out m9x2.out (by decide) m9x3.out m9x4.out m9x5.out _ rfl ?_)
                  intro g5 cap5 w5 hown5 hgrow5 hat5 hlt5
                  have hst5 := HXK.out.node hgrow5 (by simpa using hat5) HND.out hown5
                  have HST := Lib.hid hst5
                  have HMT := Lib.hid (match_snoc HM.out HOK.out)
                  clear hst5 hown5 hgrow5 hat5
                  go_wp2
                  go_roundw
                  case rel => exact ⟨k + 1, _, _, _, _, by omega, by omega, by go_num, HST.out, HMT.out⟩
                  case measure => simp [intOf]; omega
              · have t2 : (x == 2) = false := by simp [hx2]
                clear hx1 hx3 hx2
                have HX := Lib.hid (HS.out.below (wA := ((wr.alloc (.cells #[.int .i64 x, .int .i64 xc, .int .i64 xn, .string op] 52)).alloc (.cells #[.iface 30 (.int .i64 xc)] 26))) (((Below.refl _ _).alloc (Nat.le_refl _) _).alloc (by simp) _))
                have m10x1 := Lib.hid (new_cellsH (wr.alloc (.cells #[.int .i64 x, .int .i64 xc, .int .i64 xn, .string op] 52)) #[.iface 30 (.int .i64 xc)] 26 (wr.heap.size + 1) (by simp))
                have m10x2 : Hid (∀ u ∈ [.iface 30 (.int .i64 xc)], Value.oneCell' u = true) := by show ∀ u ∈ _, _; simp [Value.oneCell']
                have m10x3 : Hid (k + 1 ≤ maxLen) := by show _ ≤ _; unfold maxLen; omega
                have m10x4 : Hid ((k + 1) * 16 ≤ 140737488355328) := by show _ ≤ _; omega
                have m10x5 : Hid (w.heap.size ≤ ((wr.alloc (.cells #[.int .i64 x, .int .i64 xc, .int .i64 xn, .string op] 52)).alloc (.cells #[.iface 30 (.int .i64 xc)] 26)).heap.size) := by show _ ≤ _; simp; omega
                go_wp2_with (at_builtin; refine wpList_append_lies _ rfl _ _ 47 rfl w.heap.size 26 i0 .nilIface 1 16 Tryd.underlying47 hi hz0 hz1 hz2 rfl (by decide) _ _ _ rfl HX.out.o4 ⟨wr.heap.size + 1, 0, none⟩ 1 1 [.iface 30 (.int .i64 xc)] rfl rfl m10x1.out m10x2.out (by decide) m10x3.out m10x4.out m10x5.out _ rfl ?_)
                intro g4 cap4 w3 hown3 hgrow hat hlt3
                have hst3 := HX.out.err hgrow (by simpa using hat) (E := .num xc) ⟨rfl, q1⟩ hown3
                have hX : Blk w3 wr.heap.size 52 #[.int .i64 x, .int .i64 xc, .int .i64 xn, .string op] := ((Blk.new wr _ _).alloc _).grown hgrow (fun e => by have := (HS.out.o4.lt _ e.symm).2; omega)
                have x1 : w3.cell? ⟨wr.heap.size, 1, none⟩ = some (.int .i64 xc) := hX.cell 1
                clear hown3 hgrow hat hX
                have HX3 := Lib.hid (hst3.below (wA := w3.alloc (.cells #[.int .i64 0, .int .i64 xc, .string ⟨#[]⟩, .int .i64 0, .slice none 0 0] 44)) ((Below.refl _ _).alloc (Nat.le_refl _) _))
                have hs3 := hst3.bel.size
                clear hst3
                have m11x1 := Lib.hid (new_cellsH w3 #[.int .i64 0, .int .i64 xc, .string ⟨#[]⟩, .int .i64 0, .slice none 0 0] 44 (w3.heap.size) (rfl))
                have m11x2 : Hid (∀ u ∈ [.int .i64 0, .int .i64 xc, .string ⟨#[]⟩, .int .i64 0, .slice none 0 0], Value.oneCell' u = true) := by show ∀ u ∈ _, _; simp [Value.oneCell']
                have m11x3 : Hid (k + 1 ≤ maxLen) := by show _ ≤ _; unfold maxLen; omega
                have m11x4 : Hid ((k + 1) * 64 ≤ 140737488355328) := by show _ ≤ _; omega
                have m11x5 : Hid (w.heap.size ≤ (w3.alloc (.cells #[.int .i64 0, .int .i64 xc, .string ⟨#[]⟩, .int .i64 0, .slice none 0 0] 44)).heap.size) := by show _ ≤ _; simp; omega
                go_wp2_with (at_builtin; refine wpList_append_lies _ rfl _ _ 27 rfl w.heap.size 44 i1 (.agg #[.int .i64 0, .int .i64 0, .string ⟨#[]⟩, .int .i64 0, .slice none 0 0]) 5 64 Tryd.underlying27 hj hy0 hy1 hy2 rfl (by decide) _ _ _ rfl HX3.out.o5 ⟨w3.heap.size, 0, none⟩ 1 1 [.int .i64 0, .int .i64 xc, .string ⟨#[]⟩, .int .i64 0, .slice none 0 0] rfl rfl m11x1.out m11x2.out (by decide) m11x3.out m11x4.out m11x5.out _ rfl ?_)
                intro g5 cap5 w5 hown5 hgrow5 hat5 hlt5
                have hst5 := HX3.out.node hgrow5 (by simpa using hat5) (nd := ⟨0, xc, ⟨#[]⟩, 0, []⟩) ⟨rfl, rfl, rfl, rfl, none, 0, rfl, fun h => absurd rfl h⟩ hown5
                have HST := Lib.hid hst5
                have HMT := Lib.hid (match_snoc HM.out (nd := ⟨0, xc, ⟨#[]⟩, 0, []⟩) (E := .num xc) (.inl ⟨rfl, rfl, rfl⟩))
                clear hst5 hown5 hgrow5 hat5
                go_wp2
                go_roundw
                case rel => exact ⟨k + 1, _, _, _, _, by omega, by omega, by go_num, HST.out, HMT.out⟩
                case measure => simp [intOf]; omega
      · have g30 : ¬ (k : Int) < 30 := by omega
        obtain ⟨g4, c4', hA4, hg4b, hg4l⟩ := own_form HS.out.o4 (by omega)
        have hA4' : A4 = some ⟨g4, 0, none⟩ := by injection hA4
        subst hA4'
        obtain ⟨g5, c5', hA5, hg5b, hg5l⟩ := own_form HS.out.o5 (by omega)
        have hA5' : A5 = some ⟨g5, 0, none⟩ := by injection hA5
        subst hA5'
        have hxl : xs.length = k := by simpa using HS.out.o4.1
        obtain ⟨xv, hxv⟩ : ∃ xv, xs[k - 1]? = some xv := ⟨xs[k - 1], List.getElem?_eq_getElem (by omega)⟩
        obtain ⟨E1, hE1⟩ : ∃ E1, es[k - 1]? = some E1 := ⟨es[k - 1]'(by rw [HS.out.le]; omega), List.getElem?_eq_getElem (by rw [HS.out.le]; omega)⟩
        have hIE := HS.out.ge (k - 1) xv E1 hxv hE1
        have cxv : wr.cell? ⟨g4, k - 1, none⟩ = some xv := own_cells HS.out.o4 _ _ hxv
        have hNA : NodesAt wr wr.heap.size (some ⟨g5, 0, none⟩) ns := by
          refine .inr ⟨g5, rfl, hg5l, fun i nd hi => ?_⟩
          have hil : i < k := by have := (List.getElem?_eq_some_iff.1 hi).1; rw [HS.out.ln] at this; exact this
          have h1 := HS.out.gn i nd hi
          have e : (fun j => wr.cell? ⟨g5, i * 5 + j, none⟩) = fun j => wr.cell? ⟨g5, i * 5 + j, none⟩ := rfl
          obtain ⟨h0, h1, h2, h3, ka, kc, h4, h5⟩ := h1
          have hcell := HS.out.o5.cells (g := g5) rfl
          have hadd : ∀ q, (⟨g5, 0, none⟩ : Addr).add q = ⟨g5, q, none⟩ := fun q => by unfold Addr.add; split <;> simp_all
          refine ⟨?_, ?_, ?_, ?_, ka, kc, ?_, fun hne => ?_⟩
          · have := hcell _ _ h0; rwa [hadd] at this
          · have := hcell _ _ h1; rwa [hadd] at this
          · have := hcell _ _ h2; rwa [hadd] at this
          · have := hcell _ _ h3; rwa [hadd] at this
          · have := hcell _ _ h4; rwa [hadd] at this
          · obtain ⟨gk, hgk, hPk, hck⟩ := h5 hne
            exact ⟨gk, hgk, hPk.1, hck⟩
        have HFIN : Hid (MadeEnd w len (.returned (.tuple #[xv, .slice (some ⟨g5, 0, none⟩) k c5])) wr) :=
          ⟨xv, some ⟨g5, 0, none⟩, k, c5, rfl, HS.out.bel, fun h => (by omega), fun _ => ⟨ns, es, E1, by omega, hk30, HS.out.ln, HM.out, hNA, hE1, hIE.isErr fun b hb => hb.1⟩⟩
        have r0 : IntKind.i64.wrap ((k : Int) - 1) = (k : Int) - 1 := IntWalk.i64_in _ (by omega)
        have r1 : ((k : Int) - 1).toNat = k - 1 := by omega
        have r2 : (0 : Int) ≤ (k : Int) - 1 := by omega
        have r3 : (k : Int) - 1 < (k : Int) := by omega
        have r4 : (1 : Int) ≤ (k : Int) := by omega
        have rk : ((k : Int) == 0) = false := by simp; omega
        clear hIE hNA hE1 hxv hA4 hA5
        go_wp2
        go_ret2
        exact HFIN.out
    · skip
      obtain rfl : k = len := by omega
      by_cases hk0 : k = 0
      · have rk : ((k : Int) == 0) = true := by simp [hk0]
        have HFIN : Hid (MadeEnd w k (.returned (.tuple #[.nilIface, .slice none 0 0])) wr) := ⟨_, _, _, _, rfl, HS.out.bel, fun _ => ⟨rfl, rfl⟩, fun h => (by omega)⟩
        clear hk0
        go_wp2
        go_ret2
        exact HFIN.out
      · skip
        obtain ⟨g4, c4', hA4, hg4b, hg4l⟩ := own_form HS.out.o4 (by omega)
        have hA4' : A4 = some ⟨g4, 0, none⟩ := by injection hA4
        subst hA4'
        obtain ⟨g5, c5', hA5, hg5b, hg5l⟩ := own_form HS.out.o5 (by omega)
        have hA5' : A5 = some ⟨g5, 0, none⟩ := by injection hA5
        subst hA5'
        have hxl : xs.length = k := by simpa using HS.out.o4.1
        obtain ⟨xv, hxv⟩ : ∃ xv, xs[k - 1]? = some xv := ⟨xs[k - 1], List.getElem?_eq_getElem (by omega)⟩
        obtain ⟨E1, hE1⟩ : ∃ E1, es[k - 1]? = some E1 := ⟨es[k - 1]'(by rw [HS.out.le]; omega), List.getElem?_eq_getElem (by rw [HS.out.le]; omega)⟩
        have hIE := HS.out.ge (k - 1) xv E1 hxv hE1
        have cxv : wr.cell? ⟨g4, k - 1, none⟩ = some xv := own_cells HS.out.o4 _ _ hxv
        have hNA : NodesAt wr wr.heap.size (some ⟨g5, 0, none⟩) ns := by
          refine .inr ⟨g5, rfl, hg5l, fun i nd hi => ?_⟩
          have hil : i < k := by have := (List.getElem?_eq_some_iff.1 hi).1; rw [HS.out.ln] at this; exact this
          have h1 := HS.out.gn i nd hi
          have e : (fun j => wr.cell? ⟨g5, i * 5 + j, none⟩) = fun j => wr.cell? ⟨g5, i * 5 + j, none⟩ := rfl
          obtain ⟨h0, h1, h2, h3, ka, kc, h4, h5⟩ := h1
          have hcell := HS.out.o5.cells (g := g5) rfl
          have hadd : ∀ q, (⟨g5, 0, none⟩ : Addr).add q = ⟨g5, q, none⟩ := fun q => by unfold Addr.add; split <;> simp_all
          refine ⟨?_, ?_, ?_, ?_, ka, kc, ?_, fun hne => ?_⟩
          · have := hcell _ _ h0; rwa [hadd] at this
          · have := hcell _ _ h1; rwa [hadd] at this
          · have := hcell _ _ h2; rwa [hadd] at this
          · have := hcell _ _ h3; rwa [hadd] at this
          · have := hcell _ _ h4; rwa [hadd] at this
          · obtain ⟨gk, hgk, hPk, hck⟩ := h5 hne
            exact ⟨gk, hgk, hPk.1, hck⟩
        have HFIN : Hid (MadeEnd w k (.returned (.tuple #[xv, .slice (some ⟨g5, 0, none⟩) k c5])) wr) :=
          ⟨xv, some ⟨g5, 0, none⟩, k, c5, rfl, HS.out.bel, fun h => (by omega), fun _ => ⟨ns, es, E1, by omega, hk30, HS.out.ln, HM.out, hNA, hE1, hIE.isErr fun b hb => hb.1⟩⟩
        have r0 : IntKind.i64.wrap ((k : Int) - 1) = (k : Int) - 1 := IntWalk.i64_in _ (by omega)
        have r1 : ((k : Int) - 1).toNat = k - 1 := by omega
        have r2 : (0 : Int) ≤ (k : Int) - 1 := by omega
        have r3 : (k : Int) - 1 < (k : Int) := by omega
        have r4 : (1 : Int) ≤ (k : Int) := by omega
        have rk : ((k : Int) == 0) = false := by simp; omega
        clear hIE hNA hE1 hxv hA4 hA5
        go_wp2
        go_ret2
        exact HFIN.out
end ER
end Go.Proofs.YtnbfejombealiaaDoor
