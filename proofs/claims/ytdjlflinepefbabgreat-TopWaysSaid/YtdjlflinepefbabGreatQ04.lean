/- 3 texts laid together: each says at its head what it proves. No condition but those that each theorem names. -/
import Derived.Test.YtdjlflinepefbabGreatQ03
import Derived.WalkKit
import Derived.Below
import Derived.Lib.Hide
import Derived.Laws.OwnMore
import Derived.Deep.Draws

/- Trees of extents as plain data, on: of which nodes new ones are made, no block twice, and what holds of those that are not fresh. No program. -/
namespace Go.Proofs.YtdjlflinepefbabGreat.TR
open EX
set_option linter.unusedVariables false
set_option linter.unusedSimpArgs false

theorem blocksL_nil (h : Nat) : blocksL h [] = [] := rfl
theorem blocksL_cons (h : Nat) (a : Tr h) (l : List (Tr h)) : blocksL h (a :: l) = blocks h a ++ blocksL h l := rfl
theorem blocksL_append (h : Nat) (a b : List (Tr h)) : blocksL h (a ++ b) = blocksL h a ++ blocksL h b := by simp [blocksL]
theorem blocks_succ {h : Nat} (t : Tr (h + 1)) : blocks (h + 1) t = (nd t).blk :: blocksL h (nd t).xs := rfl
theorem blk_mem : ∀ {h : Nat} (t : Tr h), blk h t ∈ blocks h t
  | 0, t => List.mem_singleton.2 rfl
  | h + 1, t => List.mem_cons_self

/-- Blocks that were there, or are new; none twice. -/
structure Src (n : Nat) (old new : List Nat) : Prop where
  nodup : old.Nodup → (∀ b ∈ old, b < n) → new.Nodup
  from_ : ∀ b ∈ new, b ∈ old ∨ n ≤ b
theorem Src.refl (n : Nat) (l : List Nat) : Src n l l := ⟨fun h _ => h, fun b h => .inl h⟩
theorem Src.trans {n m : Nat} {a b c : List Nat} (h1 : Src n a b) (h2 : Src m b c) (hnm : n ≤ m) (hb : ∀ x ∈ b, x < m) : Src n a c :=
  ⟨fun h h' => h2.nodup (h1.nodup h h') hb, fun x hx => by
    rcases h2.from_ x hx with h | h
    · exact h1.from_ x h
    · exact .inr (by omega)⟩
theorem Src.mid {n : Nat} {x m m' y : List Nat} (h : Src n m m') : Src n (x ++ m ++ y) (x ++ m' ++ y) := by
  refine ⟨fun hd hlt => ?_, fun b hb => ?_⟩
  · rw [List.nodup_append, List.nodup_append] at hd
    obtain ⟨⟨d1, d2, d3⟩, d4, d5⟩ := hd
    have hm : ∀ b ∈ m, b < n := fun b hb => hlt b (by simp [hb])
    have hm' := h.nodup d2 hm
    rw [List.nodup_append, List.nodup_append]
    refine ⟨⟨d1, hm', fun a ha b hb e => ?_⟩, d4, fun a ha b hb e => ?_⟩
    · subst e
      rcases h.from_ a hb with h1 | h1
      · exact d3 a ha a h1 rfl
      · have := hlt a (by simp [ha]); omega
    · subst e
      rcases List.mem_append.1 ha with ha | ha
      · exact d5 a (List.mem_append_left _ ha) a hb rfl
      · rcases h.from_ a ha with h1 | h1
        · exact d5 a (List.mem_append_right _ h1) a hb rfl
        · have := hlt a (by simp [hb]); omega
  · rcases List.mem_append.1 hb with hb | hb
    · rcases List.mem_append.1 hb with hb | hb
      · exact .inl (by simp [hb])
      · rcases h.from_ b hb with h1 | h1
        · exact .inl (by simp [h1])
        · exact .inr h1
    · exact .inl (by simp [hb])
theorem Src.sub {n : Nat} {a b c : List Nat} (h : Src n b c) (hs : b.Sublist a) : Src n a c :=
  ⟨fun hd hlt => h.nodup (hd.sublist hs) (fun x hx => hlt x (hs.subset hx)), fun x hx => (h.from_ x hx).imp (fun h => hs.subset h) id⟩
theorem Src.down {n : Nat} {a b c : List Nat} (h : Src n a b) (hs : c.Sublist b) : Src n a c :=
  ⟨fun hd hlt => (h.nodup hd hlt).sublist hs, fun x hx => h.from_ x (hs.subset hx)⟩
theorem Src.low {n m : Nat} {a b : List Nat} (h : Src n a b) (hm : m ≤ n) : Src m a b :=
  ⟨fun hd hlt => by
    refine h.nodup hd (fun x hx => Nat.lt_of_lt_of_le (hlt x hx) hm), fun x hx => (h.from_ x hx).imp id (fun h => by omega)⟩

/-- What passes from a node to those below it. -/
def Her (P : (h : Nat) → Tr h → Prop) : Prop := ∀ (h : Nat) (t : Tr (h + 1)), P (h + 1) t → ∀ k ∈ (nd t).xs, P h k
/-- Fresh nodes, above such as meet P. -/
def Made (P : (h : Nat) → Tr h → Prop) : (h : Nat) → Tr h → Prop
  | 0, t => P 0 t ∨ (lf t).at_ = -1
  | h + 1, t => P (h + 1) t ∨ ((nd t).at_ = -1 ∧ ∀ k ∈ (nd t).xs, Made P h k)
theorem Made.of {P : (h : Nat) → Tr h → Prop} : ∀ {h : Nat} {t : Tr h}, P h t → Made P h t
  | 0, _, x => .inl x
  | _ + 1, _, x => .inl x
theorem Made.kid {P : (h : Nat) → Tr h → Prop} (hp : Her P) {h : Nat} {t : Tr (h + 1)} (x : Made P (h + 1) t) : ∀ k ∈ (nd t).xs, Made P h k := by
  rcases x with x | x
  · exact fun k hk => Made.of (hp h t x k hk)
  · exact x.2
theorem Made.cases {P : (h : Nat) → Tr h → Prop} : ∀ {h : Nat} {t : Tr h}, Made P h t → P h t ∨ pg h t = -1
  | 0, _, x => x
  | _ + 1, _, x => x.imp id (·.1)

/-- New nodes that are made of old ones, from a size of the memory on. -/
structure Mk (n : Nat) (h : Nat) (old new : List (Tr h)) : Prop where
  src : Src n (blocksL h old) (blocksL h new)
  made : ∀ P, Her P → (∀ t ∈ old, Made P h t) → ∀ t ∈ new, Made P h t
theorem Mk.refl (n h : Nat) (l : List (Tr h)) : Mk n h l l := ⟨Src.refl _ _, fun P _ x => x⟩
theorem Mk.trans {n m h : Nat} {a b c : List (Tr h)} (h1 : Mk n h a b) (h2 : Mk m h b c) (hnm : n ≤ m) (hb : ∀ x ∈ blocksL h b, x < m) : Mk n h a c :=
  ⟨h1.src.trans h2.src hnm hb, fun P hp x => h2.made P hp (h1.made P hp x)⟩
theorem Mk.mid {n h : Nat} {x m m' y : List (Tr h)} (k : Mk n h m m') : Mk n h (x ++ m ++ y) (x ++ m' ++ y) := by
  refine ⟨?_, fun P hp q t ht => ?_⟩
  · rw [blocksL_append, blocksL_append, blocksL_append, blocksL_append]; exact k.src.mid
  · rcases List.mem_append.1 ht with ht | ht
    · rcases List.mem_append.1 ht with ht | ht
      · exact q t (by simp [ht])
      · exact k.made P hp (fun u hu => q u (by simp [hu])) t ht
    · exact q t (by simp [ht])
theorem blocksL_sub {h : Nat} {a b : List (Tr h)} (s : a.Sublist b) : (blocksL h a).Sublist (blocksL h b) := by
  induction s with
  | slnil => exact List.Sublist.refl _
  | cons x s ih => rw [blocksL_cons]; exact ih.trans (List.sublist_append_right _ _)
  | cons_cons x s ih => rw [blocksL_cons, blocksL_cons]; exact (List.Sublist.refl _).append ih
theorem Mk.sub {n h : Nat} {a b c : List (Tr h)} (k : Mk n h b c) (s : b.Sublist a) : Mk n h a c :=
  ⟨k.src.sub (blocksL_sub s), fun P hp q => k.made P hp (fun t ht => q t (s.subset ht))⟩
theorem Mk.low {n m h : Nat} {a b : List (Tr h)} (k : Mk n h a b) (hm : m ≤ n) : Mk m h a b := ⟨k.src.low hm, k.made⟩
theorem Mk.two {n m h : Nat} {x y : Tr h} {mm R1 R2 : List (Tr h)} (h1 : Mk n h [x] R1) (h2 : Mk m h [y] R2) (hnm : n ≤ m) (hx : ∀ b ∈ blocksL h R1, b < m) (hy : ∀ b ∈ blocks h y, b < m) : Mk n h (x :: (mm ++ [y])) (R1 ++ R2) := by
  have e1 : Mk n h ([] ++ [x] ++ [y]) ([] ++ R1 ++ [y]) := h1.mid
  have e2 : Mk m h (R1 ++ [y] ++ []) (R1 ++ R2 ++ []) := h2.mid
  simp only [List.nil_append, List.append_nil] at e1 e2
  refine (e1.trans e2 hnm ?_).sub ?_
  · intro b hb
    rw [blocksL_append, blocksL_cons, blocksL_nil, List.append_nil] at hb
    rcases List.mem_append.1 hb with hb | hb
    · exact hx b hb
    · exact hy b hb
  · show [x, y].Sublist (x :: (mm ++ [y]))
    exact List.Sublist.cons_cons _ (List.sublist_append_right _ _)

/-- Fresh nodes that have the things of a list, one behind the other, in new blocks. -/
structure Fr {X Y : Type} (un : Y → Nd X) (m : Nat) (R : List Y) (K : List X) : Prop where
  all : R.flatMap (fun t => (un t).xs) = K
  at_ : ∀ t ∈ R, (un t).at_ = -1
  new : ∀ t ∈ R, m ≤ (un t).blk
  once : (R.map fun t => (un t).blk).Nodup
theorem up_blocks {h : Nat} : ∀ {R : List (Tr (h + 1))} {K : List (Tr h)}, R.flatMap (fun t => (nd t).xs) = K → ∀ b ∈ blocksL (h + 1) R, b ∈ blocksL h K ∨ ∃ t ∈ R, b = (nd t).blk := by
  intro R
  induction R with
  | nil => intro K _ b hb; exact (List.not_mem_nil hb).elim
  | cons r R ih =>
    intro K hK b hb
    subst hK
    rw [List.flatMap_cons, blocksL_append]
    rw [blocksL_cons, blocks_succ] at hb
    rcases List.mem_append.1 hb with hb | hb
    · rcases List.mem_cons.1 hb with rfl | hb
      · exact .inr ⟨r, List.mem_cons_self, rfl⟩
      · exact .inl (List.mem_append_left _ hb)
    · rcases ih rfl b hb with h5 | ⟨t, ht, h5⟩
      · exact .inl (List.mem_append_right _ h5)
      · exact .inr ⟨t, List.mem_cons_of_mem _ ht, h5⟩
theorem fr_blocks {h m : Nat} : ∀ {R : List (Tr (h + 1))} {K : List (Tr h)}, Fr nd m R K → (∀ b ∈ blocksL h K, b < m) → (blocksL h K).Nodup → (blocksL (h + 1) R).Nodup := by
  intro R
  induction R with
  | nil => intro K hf hlt hd; exact List.nodup_nil
  | cons r R ih =>
    intro K hf hlt hd
    obtain ⟨h1, h2, h3, h4⟩ := hf
    rw [List.flatMap_cons] at h1
    subst h1
    rw [blocksL_append] at hd hlt
    rw [List.map_cons, List.nodup_cons] at h4
    rw [List.nodup_append] at hd
    have k1 := ih (K := R.flatMap fun t => (nd t).xs) ⟨rfl, fun t ht => h2 t (List.mem_cons_of_mem _ ht), fun t ht => h3 t (List.mem_cons_of_mem _ ht), h4.2⟩ (fun b hb => hlt b (List.mem_append_right _ hb)) hd.2.1
    have k2 := up_blocks (R := R) rfl
    have hr := h3 r List.mem_cons_self
    rw [blocksL_cons, blocks_succ, List.nodup_append, List.nodup_cons]
    refine ⟨⟨fun hm => ?_, hd.1⟩, k1, fun a ha b hb e => ?_⟩
    · have := hlt _ (List.mem_append_left _ hm); omega
    · subst e
      rcases k2 a hb with h5 | ⟨t, ht, h5⟩
      · rcases List.mem_cons.1 ha with h6 | ha
        · have := hlt _ (List.mem_append_right _ h5); omega
        · exact hd.2.2 a ha a h5 rfl
      · rcases List.mem_cons.1 ha with h6 | ha
        · exact h4.1 (by rw [← h6, h5]; exact List.mem_map.2 ⟨t, ht, rfl⟩)
        · have := hlt _ (List.mem_append_left _ ha)
          have := h3 t (List.mem_cons_of_mem _ ht); omega
theorem kids_blocks {h : Nat} (l : List (Tr (h + 1))) : (blocksL h (l.flatMap fun t => (nd t).xs)).Sublist (blocksL (h + 1) l) := by
  induction l with
  | nil => exact List.Sublist.refl _
  | cons a l ih =>
    rw [List.flatMap_cons, blocksL_append, blocksL_cons, blocks_succ]
    exact (List.sublist_cons_self _ _).append ih
/-- Nodes above such as are made of the kids of old nodes. -/
theorem Mk.up {n m h : Nat} {old : List (Tr (h + 1))} {K : List (Tr h)} {R : List (Tr (h + 1))} (k : Mk n h (old.flatMap fun t => (nd t).xs) K) (f : Fr nd m R K) (hnm : n ≤ m) (hK : ∀ b ∈ blocksL h K, b < m) : Mk n (h + 1) old R := by
  have hs := kids_blocks old
  refine ⟨⟨fun hd hlt => fr_blocks f hK (k.src.nodup (hd.sublist hs) (fun b hb => hlt b (hs.subset hb))), fun b hb => ?_⟩, fun P hp q t ht => ?_⟩
  · rcases up_blocks f.all b hb with h1 | ⟨t, ht, rfl⟩
    · exact (k.src.from_ b h1).imp (fun h => hs.subset h) id
    · exact .inr (by have := f.new t ht; omega)
  · refine .inr ⟨f.at_ t ht, fun c hc => ?_⟩
    refine k.made P hp (fun u hu => ?_) c ?_
    · obtain ⟨v, hv, hu⟩ := List.mem_flatMap.1 hu
      exact Made.kid hp (q v hv) u hu
    · rw [← f.all]; exact List.mem_flatMap.2 ⟨t, ht, hc⟩
theorem blocks0 : ∀ l : List (Tr 0), blocksL 0 l = l.map (fun t => (lf t).blk)
  | [] => rfl
  | a :: l => by rw [blocksL_cons, blocks0 l]; rfl
theorem fr_leaf {n m : Nat} {old : List (Tr 0)} {K : List Ext} {R : List (Tr 0)} (f : Fr lf m R K) (hnm : n ≤ m) : Mk n 0 old R := by
  refine ⟨⟨fun _ _ => by rw [blocks0]; exact f.once, fun b hb => ?_⟩, fun P hp q t ht => .inr (f.at_ t ht)⟩
  rw [blocks0] at hb
  obtain ⟨t, ht, rfl⟩ := List.mem_map.1 hb
  exact .inr (by have := f.new t ht; omega)
end Go.Proofs.YtdjlflinepefbabGreat.TR

/- Trees of extents as plain data, on: what a list that is cut into nodes comes to, and how mending goes on. No program. -/
namespace Go.Proofs.YtdjlflinepefbabGreat.TR
open EX
set_option linter.unusedVariables false
set_option linter.unusedSimpArgs false

/-- Fresh nodes that are the parts of a list. -/
structure Cuts {X Y : Type} (un : Y → Nd X) (m : Nat) (R : List Y) (K : List X) : Prop where
  len : R.length = cnt K.length
  part_ : ∀ i t, R[i]? = some t → (un t).xs = part K i
  at_ : ∀ t ∈ R, (un t).at_ = -1
  new : ∀ t ∈ R, m ≤ (un t).blk
  once : (R.map fun t => (un t).blk).Nodup
theorem cnt_zero : cnt 0 = 0 := rfl
theorem Cuts.all {X Y : Type} {un : Y → Nd X} {m : Nat} {R : List Y} {K : List X} (c : Cuts un m R K) : R.flatMap (fun t => (un t).xs) = K := by
  have e : R.map (fun t => (un t).xs) = (List.range (cnt K.length)).map (part K) := by
    apply List.ext_getElem?
    intro i
    rw [List.getElem?_map, List.getElem?_map]
    by_cases hi : i < R.length
    · rw [List.getElem?_eq_getElem hi, List.getElem?_range (by rw [← c.len]; exact hi)]
      simp only [Option.map_some]
      rw [c.part_ i R[i] (List.getElem?_eq_getElem hi)]
    · rw [List.getElem?_eq_none (by omega), List.getElem?_eq_none (by rw [List.length_range, ← c.len]; omega)]; rfl
  rw [List.flatMap_def, e, ← List.flatMap_def]
  rcases Nat.eq_zero_or_pos K.length with h | h
  · rw [h, cnt_zero]; have := List.eq_nil_of_length_eq_zero h; subst this; rfl
  · exact parts_all K h
theorem Cuts.fr {X Y : Type} {un : Y → Nd X} {m : Nat} {R : List Y} {K : List X} (c : Cuts un m R K) : Fr un m R K := ⟨c.all, c.at_, c.new, c.once⟩
theorem Cuts.sizes {X Y : Type} {un : Y → Nd X} {m : Nat} {R : List Y} {K : List X} (c : Cuts un m R K) (h : 1 ≤ K.length) :
    (9 ≤ K.length → ∀ t ∈ R, 4 ≤ (un t).xs.length) ∧ (∀ t ∈ R, (un t).xs.length ≤ 8) ∧ (K.length ≤ 8 → ∃ t, R = [t] ∧ (un t).xs = K) := by
  have key : ∀ t ∈ R, ∃ i, i < cnt K.length ∧ (un t).xs = part K i := by
    intro t ht
    obtain ⟨i, hi, rfl⟩ := List.mem_iff_getElem.1 ht
    exact ⟨i, by rw [← c.len]; exact hi, c.part_ i _ (List.getElem?_eq_getElem hi)⟩
  refine ⟨fun h9 t ht => ?_, fun t ht => ?_, fun h8 => ?_⟩
  · obtain ⟨i, hi, e⟩ := key t ht
    rw [e]; exact (part_size K h i hi).1 h9
  · obtain ⟨i, hi, e⟩ := key t ht
    rw [e]; exact (part_size K h i hi).2.1
  · have hl : R.length = 1 := by rw [c.len]; unfold cnt; omega
    obtain ⟨t, rfl⟩ := List.length_eq_one_iff.1 hl
    obtain ⟨i, hi, e⟩ := key t (List.mem_singleton.2 rfl)
    exact ⟨t, rfl, by rw [e]; exact (part_size K h i hi).2.2 h8⟩
theorem cnt_small {n : Nat} (h : n ≤ 16) : cnt n ≤ 2 := by unfold cnt; omega
theorem Cuts.none {X Y : Type} {un : Y → Nd X} {m : Nat} {R : List Y} {K : List X} (c : Cuts un m R K) (h : K = []) : R = [] := by
  subst h; exact List.eq_nil_of_length_eq_zero (c.len.trans cnt_zero)
theorem Cuts.some {X Y : Type} {un : Y → Nd X} {m : Nat} {R : List Y} {K : List X} (c : Cuts un m R K) (h : K ≠ []) : R ≠ [] := by
  intro e
  have h1 := c.len
  have := cnt_pos (n := K.length) (by have := List.length_pos_iff.2 h; omega)
  rw [e] at h1; simp at h1; omega
theorem leaves_res {m : Nat} {R : List (Tr 0)} {K : List Ext} (c : Cuts lf m R K) : Res 0 R ∧ flats 0 R = K := by
  refine ⟨?_, c.all⟩
  rcases Nat.eq_zero_or_pos K.length with h | h
  · rw [c.none (List.eq_nil_of_length_eq_zero h)]; exact .inl fun _ h => (List.not_mem_nil h).elim
  · obtain ⟨h1, h2, h3⟩ := c.sizes h
    by_cases h9 : 9 ≤ K.length
    · exact .inl fun t ht => ⟨h1 h9 t ht, h2 t ht⟩
    · obtain ⟨t, rfl, e⟩ := h3 (by omega)
      exact .inr ⟨t, rfl, by show 1 ≤ (lf t).xs.length; rw [e]; omega, h2 t (List.mem_singleton.2 rfl)⟩
theorem flats_up {h : Nat} {R : List (Tr (h + 1))} : flats (h + 1) R = flats h (R.flatMap fun t => (nd t).xs) := by
  induction R with
  | nil => rfl
  | cons r R ih => rw [flats_cons, List.flatMap_cons, flats_append, ih, flat_succ]
theorem inners_res {h m : Nat} {R : List (Tr (h + 1))} {K : List (Tr h)} (c : Cuts nd m R K) (hK : Res h K) : Res (h + 1) R ∧ flats (h + 1) R = flats h K := by
  refine ⟨?_, by rw [flats_up, c.all]⟩
  rcases Nat.eq_zero_or_pos K.length with h0 | h0
  · rw [c.none (List.eq_nil_of_length_eq_zero h0)]; exact .inl fun _ h => (List.not_mem_nil h).elim
  · obtain ⟨h1, h2, h3⟩ := c.sizes h0
    have hmem : ∀ t ∈ R, ∀ k ∈ (nd t).xs, k ∈ K := by
      intro t ht k hk
      rw [← c.all]; exact List.mem_flatMap.2 ⟨t, ht, hk⟩
    rcases hK with hK | ⟨k, rfl, hw⟩
    · by_cases h9 : 9 ≤ K.length
      · exact .inl fun t ht => ⟨⟨h1 h9 t ht, h2 t ht⟩, fun k hk => hK k (hmem t ht k hk)⟩
      · obtain ⟨t, rfl, e⟩ := h3 (by omega)
        exact .inr ⟨t, rfl, ⟨by rw [e]; omega, h2 t (List.mem_singleton.2 rfl)⟩, .inr fun k hk => hK k (hmem t (List.mem_singleton.2 rfl) k hk)⟩
    · obtain ⟨t, rfl, e⟩ := h3 (by simp)
      exact .inr ⟨t, rfl, ⟨by rw [e]; simp, h2 t (List.mem_singleton.2 rfl)⟩, .inl ⟨k, e, hw⟩⟩
/-- Two or more nodes that are none too small, cut into nodes: tops, or none too small. -/
theorem inners_top {h m : Nat} {R : List (Tr (h + 1))} {K : List (Tr h)} (c : Cuts nd m R K) (hK : ∀ k ∈ K, Ok h k) (h2 : 2 ≤ K.length) : (∀ t ∈ R, Top (h + 1) t) ∧ R ≠ [] ∧ R.length < K.length := by
  obtain ⟨h1, h8, h3⟩ := c.sizes (by omega)
  have hmem : ∀ t ∈ R, ∀ k ∈ (nd t).xs, k ∈ K := by
    intro t ht k hk
    rw [← c.all]; exact List.mem_flatMap.2 ⟨t, ht, hk⟩
  refine ⟨?_, c.some (by intro e; rw [e] at h2; simp at h2), by rw [c.len]; unfold cnt; omega⟩
  by_cases h9 : 9 ≤ K.length
  · exact fun t ht => ⟨⟨by have := h1 h9 t ht; omega, h8 t ht⟩, fun k hk => hK k (hmem t ht k hk)⟩
  · obtain ⟨t, rfl, e⟩ := h3 (by omega)
    intro u hu
    obtain rfl := List.mem_singleton.1 hu
    exact ⟨⟨by rw [e]; exact h2, h8 u hu⟩, fun k hk => hK k (hmem u hu k hk)⟩

/-- How many nodes are too small. -/
def smalls (h : Nat) (l : List (Tr h)) : Nat := (l.filter fun t => decide (size h t < 4)).length
theorem smalls_append (h : Nat) (a b : List (Tr h)) : smalls h (a ++ b) = smalls h a + smalls h b := by simp [smalls]
theorem smalls_ok {h : Nat} {l : List (Tr h)} (x : ∀ t ∈ l, Ok h t) : smalls h l = 0 := by
  unfold smalls
  rw [List.filter_eq_nil_iff.2]
  · rfl
  · intro t ht; have := (x t ht).size_ge; simp; omega
theorem smalls_one {h : Nat} (t : Tr h) : smalls h [t] ≤ 1 := by
  unfold smalls; exact List.length_filter_le _ _
theorem smalls_pos {h : Nat} {a b : Tr h} (x : size h a < 4 ∨ size h b < 4) : 1 ≤ smalls h [a, b] := by
  unfold smalls
  apply List.length_pos_iff.2
  intro e
  rw [List.filter_eq_nil_iff] at e
  rcases x with x | x
  · exact e a (by simp) (by simpa using x)
  · exact e b (by simp) (by simpa using x)
/-- Two nodes, one of them too small, joined: less is left to be mended. -/
theorem join_less {h : Nat} {X J Y : List (Tr h)} {a b : Tr h} (hJ : Res h J) (h2 : J.length ≤ 2) (hs : size h a < 4 ∨ size h b < 4) :
    (X ++ J ++ Y).length ≤ (X ++ [a, b] ++ Y).length ∧ (X ++ J ++ Y).length + smalls h (X ++ J ++ Y) + 1 ≤ (X ++ [a, b] ++ Y).length + smalls h (X ++ [a, b] ++ Y) := by
  have hp := smalls_pos (h := h) hs
  simp only [smalls_append, List.length_append, List.length_cons, List.length_nil]
  refine ⟨by omega, ?_⟩
  rcases hJ with hJ | ⟨t, rfl, hw⟩
  · rw [smalls_ok hJ]
    omega
  · have := smalls_one t
    simp only [List.length_cons, List.length_nil]; omega
end Go.Proofs.YtdjlflinepefbabGreat.TR

/- Small facts on memory: rows of the call's own, blocks that are known whole. No program. -/
namespace Go.Proofs.YtdjlflinepefbabGreat
namespace MM
open Go.RowKit
set_option linter.unusedVariables false

theorem drewN_below {B : Nat} {a w : World} (h : Below B a w) (n : Nat) : Below B a (w.drewN n) := ⟨h.os, h.tape, h.output, h.size, h.block⟩
theorem own_base {w : World} {base base' : Nat} {e : TypeId} {size : Nat} {v : Value} {n : Nat} {xs : List Value} (h : w.ownsRow base e size v n xs) (hb : base' ≤ base) : w.ownsRow base' e size v n xs := by
  obtain ⟨h1, h2⟩ := h
  refine ⟨h1, ?_⟩
  rcases h2 with h2 | ⟨g, cap, cur, hv, hg, r⟩
  · exact .inl h2
  · exact .inr ⟨g, cap, cur, hv, by omega, r⟩
theorem own_kept {w w' : World} {base : Nat} {e : TypeId} {size : Nat} {v : Value} {n : Nat} {xs : List Value} (h : w.ownsRow base e size v n xs) (hb : Below w.heap.size w w') : w'.ownsRow base e size v n xs :=
  h.kept (row := none) ⟨hb.os, hb.tape, hb.output, hb.size, fun k hk _ => hb.block k hk⟩ (by cases hv : v.ownBlock <;> simp)
theorem own_far {w : World} {base : Nat} {e : TypeId} {size : Nat} {v : Value} {n : Nat} {xs : List Value} (h : w.ownsRow base e size v n xs) {p : Addr} (hp : v.ownBlock ≠ some p.block) (u : Value) : (w.setCell p u).ownsRow base e size v n xs := by
  obtain ⟨h1, h2⟩ := h
  refine ⟨h1, ?_⟩
  rcases h2 with h2 | ⟨g, cap, cur, rfl, hg, hh, r⟩
  · exact .inl h2
  · exact .inr ⟨g, cap, cur, rfl, hg, by rw [Below.heap_setCell _ _ _ _ (fun e => hp (by simp [Value.ownBlock, e]))]; exact hh, r⟩
/-- A row of one element type and a block of another are not one. -/
theorem own_ne {w : World} {base : Nat} {e t : TypeId} {size : Nat} {v : Value} {n : Nat} {xs : List Value} {b : Nat} {cs : Array Value} {f : Nat × Nat} (h : w.ownsRow base e size v n xs) (hb : w.heap[b]? = some (.cells cs t f)) (hne : e ≠ t) : v.ownBlock ≠ some b := by
  rcases h.2 with ⟨rfl, _⟩ | ⟨g, cap, cur, rfl, hg, hh, r⟩
  · simp [Value.ownBlock]
  · intro hgb
    simp [Value.ownBlock] at hgb
    subst hgb
    rw [hh] at hb
    simp at hb
    exact hne hb.2.1
theorem new_cells (w : World) (cs : Array Value) (t : TypeId) : ∀ j u, cs.toList[j]? = some u → (w.alloc (.cells cs t)).cell? ((⟨w.heap.size, 0, none⟩ : Addr).add j) = some u := by
  intro j u h
  rw [show (⟨w.heap.size, 0, none⟩ : Addr).add j = ⟨w.heap.size, j, none⟩ from by unfold Addr.add; split <;> simp_all, cell_of_row _ _ _ _ _ _ (heap_alloc_new w _)]
  simpa using h

theorem new_cellsH (w : World) (cs : Array Value) (t : TypeId) (H : Nat) (hH : w.heap.size = H) : ∀ j u, cs.toList[j]? = some u → (w.alloc (.cells cs t)).cell? ((⟨H, 0, none⟩ : Addr).add j) = some u := by
  subst hH; exact new_cells w cs t

/-- A block that is known whole. -/
def Blk (w : World) (g : Nat) (t : TypeId) (cs : Array Value) : Prop := w.heap[g]? = some (.cells cs t (0, 0))
section
variable {w w' : World} {g : Nat} {t : TypeId} {cs : Array Value}
theorem Blk.lt (h : Blk w g t cs) : g < w.heap.size := by
  rcases Nat.lt_or_ge g w.heap.size with hlt | hge
  · exact hlt
  · unfold Blk at h; rw [Array.getElem?_eq_none hge] at h; cases h
theorem Blk.cell (h : Blk w g t cs) (i : Nat) : w.cell? ⟨g, i, none⟩ = cs[i]? := cell_of_row w g i cs t (0, 0) h
theorem Blk.frozen (h : Blk w g t cs) (i : Nat) : w.frozen? ⟨g, i, none⟩ = false := by
  unfold Blk at h
  simp [World.frozen?, h]
theorem Blk.new (w : World) (t : TypeId) (cs : Array Value) : Blk (w.alloc (.cells cs t)) w.heap.size t cs := heap_alloc_new w _
theorem Blk.alloc (h : Blk w g t cs) (o : Obj) : Blk (w.alloc o) g t cs := (Below.heap_alloc w o g h.lt).trans h
theorem Blk.set_ (h : Blk w g t cs) (i : Nat) (u : Value) : Blk (w.setCell ⟨g, i, none⟩ u) g t (cs.setIfInBounds i u) := by
  unfold Blk at h ⊢
  simp [World.setCell, Array.getElem?_modify, h]
theorem Blk.far (h : Blk w g t cs) {p : Addr} (hp : g ≠ p.block) (u : Value) : Blk (w.setCell p u) g t cs := (Below.heap_setCell w p u g hp).trans h
theorem Blk.below {B : Nat} (h : Blk w g t cs) (hb : Below B w w') (hg : g < B) : Blk w' g t cs := (hb.block g hg).trans h
theorem Blk.grown {row : Option Nat} (h : Blk w g t cs) (hb : w.grownBy w' row) (hg : some g ≠ row) : Blk w' g t cs := (hb.block g h.lt hg).trans h
theorem Blk.one {u : Value} (h : Blk w g t #[u]) (x : Value) : Blk (w.setCell ⟨g, 0, none⟩ x) g t #[x] := h.set_ 0 x
end
theorem own_form {w : World} {base : Nat} {e : TypeId} {size : Nat} {v : Value} {n : Nat} {xs : List Value} (h : w.ownsRow base e size v n xs) (hn : 0 < n) : ∃ g c, v = .slice (some ⟨g, 0, none⟩) n c ∧ base ≤ g ∧ g < w.heap.size := by
  rcases h.2 with ⟨_, h0⟩ | ⟨g, cap, cur, hv, hg, hh, _⟩
  · omega
  · exact ⟨g, cap, hv, hg, (Array.getElem?_eq_some_iff.1 hh).1⟩
theorem own_slice {w : World} {base : Nat} {e : TypeId} {size : Nat} {v : Value} {n : Nat} {xs : List Value} (h : w.ownsRow base e size v n xs) : ∃ A c, v = .slice A n c := by
  rcases h.2 with ⟨hv, h0⟩ | ⟨g, cap, cur, hv, _⟩
  · exact ⟨none, 0, by rw [hv, h0]⟩
  · exact ⟨_, _, hv⟩
theorem own_cells {w : World} {base : Nat} {e : TypeId} {n m : Nat} {g c : Nat} {xs : List Value} (h : w.ownsRow base e 1 (.slice (some ⟨g, 0, none⟩) m c) n xs) : ∀ j u, xs[j]? = some u → w.cell? ⟨g, j, none⟩ = some u := by
  intro j u hu
  have := h.cells (g := g) rfl j u hu
  rwa [show (⟨g, 0, none⟩ : Addr).add j = ⟨g, j, none⟩ from by unfold Addr.add; split <;> simp_all] at this
/-- A block that is there and is not the row that is written. -/
def Asd (w : World) (own : Option Nat) (b : Nat) : Prop := b < w.heap.size ∧ some b ≠ own
theorem asd_grown {w w' : World} {own own' : Option Nat} (hg : w.grownBy w' own) (ho : own' = own ∨ ∃ g, own' = some g ∧ w.heap.size ≤ g) :
    (∀ b, Asd w own b → Asd w' own' b) ∧ ∀ b, Asd w own b → w'.heap[b]? = w.heap[b]? := by
  refine ⟨fun b ⟨h1, h2⟩ => ⟨Nat.lt_of_lt_of_le h1 hg.size, ?_⟩, fun b ⟨h1, h2⟩ => hg.block b h1 h2⟩
  rcases ho with rfl | ⟨g, rfl, hl⟩
  · exact h2
  · intro e
    injection e with e
    omega
theorem asd_below {w w' : World} {own : Option Nat} (hb : Below w.heap.size w w') :
    (∀ b, Asd w own b → Asd w' own b) ∧ ∀ b, Asd w own b → w'.heap[b]? = w.heap[b]? :=
  ⟨fun b ⟨h1, h2⟩ => ⟨Nat.lt_of_lt_of_le h1 hb.size, h2⟩, fun b ⟨h1, h2⟩ => hb.block b h1⟩
end MM
end Go.Proofs.YtdjlflinepefbabGreat
