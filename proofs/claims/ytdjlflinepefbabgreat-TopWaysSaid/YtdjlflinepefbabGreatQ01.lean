/- Plain facts on extents and lists of them: which may be, what a list says of a sector, how extents are pushed behind a list, that there is one list only that says the same of all sectors. No program. -/

namespace Go.Proofs.YtdjlflinepefbabGreat.EX
set_option linter.unusedVariables false

/-- An extent. -/
structure Ext where
  from_ : Int
  n : Int
  kind : Int
  at_ : Int
deriving DecidableEq
def Ext.zero : Ext := ⟨0, 0, 0, 0⟩
instance : Inhabited Ext := ⟨Ext.zero⟩

/-- Which ranges may be, below a bound. -/
def Rng (f n b : Int) : Prop := 0 ≤ f ∧ 0 ≤ n ∧ n ≤ b - f
instance (f n b : Int) : Decidable (Rng f n b) := by unfold Rng; infer_instance
/-- Which extents may be. -/
def One (e : Ext) : Prop := (1 ≤ e.n ∧ 0 ≤ e.from_ ∧ e.n ≤ 16777216 - e.from_) ∧ ((e.kind = 1 ∧ e.at_ = 0) ∨ (e.kind = 2 ∧ 0 ≤ e.at_ ∧ e.n ≤ 2048 - e.at_))
instance (e : Ext) : Decidable (One e) := by unfold One; infer_instance
def fin (e : Ext) : Int := e.from_ + e.n
def page (e : Ext) (s : Int) : Int := if e.kind = 2 then e.at_ + s - e.from_ else 0
def stretch (e : Ext) (f n : Int) : Ext := ⟨f, n, e.kind, page e f⟩
/-- Two that go together. -/
def Tog (a b : Ext) : Prop := b.from_ = fin a ∧ a.kind = b.kind ∧ (a.kind = 2 → b.at_ = a.at_ + a.n)
instance (a b : Ext) : Decidable (Tog a b) := by unfold Tog; infer_instance
def join (a b : Ext) : Ext := ⟨a.from_, a.n + b.n, a.kind, a.at_⟩

theorem One.pos {e : Ext} (h : One e) : 1 ≤ e.n := h.1.1
theorem One.low {e : Ext} (h : One e) : 0 ≤ e.from_ := h.1.2.1
theorem One.high {e : Ext} (h : One e) : fin e ≤ 16777216 := by have := h.1.2.2; unfold fin; omega
theorem One.lt {e : Ext} (h : One e) : e.from_ < fin e := by have := h.1.1; unfold fin; omega
theorem One.kind_ne {e : Ext} (h : One e) : e.kind ≠ 0 := by rcases h.2 with h | h <;> omega
theorem tog_iff {a b : Ext} (ha : One a) (hb : One b) : Tog a b ↔ b = stretch a (fin a) b.n := by
  obtain ⟨f, n, k, t⟩ := a
  obtain ⟨f', n', k', t'⟩ := b
  unfold Tog stretch page
  simp only [Ext.mk.injEq, fin]
  have h1 := ha.2
  have h2 := hb.2
  simp only at h1 h2
  constructor
  · rintro ⟨e1, e2, e3⟩
    refine ⟨e1, trivial, e2.symm, ?_⟩
    split <;> omega
  · rintro ⟨e1, _, e2, e3⟩
    refine ⟨e1, e2.symm, fun h => ?_⟩
    rw [if_pos h] at e3
    omega
theorem join_stretch {a b : Ext} (ha : One a) : stretch a a.from_ (a.n + b.n) = join a b := by
  unfold stretch join page
  have := ha.2
  congr 1
  split <;> omega
theorem join_one {a b : Ext} (ha : One a) (hb : One b) (h : Tog a b) : One (join a b) := by
  obtain ⟨h1, h2, h3⟩ := h
  obtain ⟨⟨p1, p2, p3⟩, p4⟩ := ha
  obtain ⟨⟨q1, q2, q3⟩, q4⟩ := hb
  unfold fin at h1
  unfold One join
  simp only
  refine ⟨by omega, ?_⟩
  rcases p4 with p4 | p4
  · exact .inl p4
  · exact .inr ⟨p4.1, p4.2.1, by have := h3 p4.1; omega⟩
theorem fin_join (a b : Ext) (h : Tog a b) : fin (join a b) = fin b := by have := h.1; unfold fin at *; simp only [join]; omega

/-- What a list says of a sector. -/
def say : List Ext → Int → Int × Int
  | [], _ => (0, 0)
  | e :: t, s => if e.from_ ≤ s ∧ s < fin e then (e.kind, page e s) else say t s
def Bef (a b : Ext) : Prop := fin a ≤ b.from_
instance (a b : Ext) : Decidable (Bef a b) := by unfold Bef; infer_instance
/-- Extents that may be, one behind the other. -/
def WV (l : List Ext) : Prop := (∀ e ∈ l, One e) ∧ l.Pairwise Bef
/-- Lists that may be. -/
def Valid (l : List Ext) : Prop := (∀ e ∈ l, One e) ∧ l.Pairwise fun a b => Bef a b ∧ ¬ Tog a b
instance (l : List Ext) : Decidable (Valid l) := by unfold Valid; infer_instance
theorem Valid.wv {l : List Ext} (h : Valid l) : WV l := ⟨h.1, h.2.imp fun h => h.1⟩
theorem valid_nil : Valid [] := ⟨fun _ h => (List.not_mem_nil h).elim, List.Pairwise.nil⟩
theorem wv_nil : WV [] := valid_nil.wv
theorem say_none {l : List Ext} {s : Int} (h : ∀ e ∈ l, ¬ (e.from_ ≤ s ∧ s < fin e)) : say l s = (0, 0) := by
  induction l with
  | nil => rfl
  | cons a l ih =>
    rw [say, if_neg (h a (List.mem_cons_self ..))]
    exact ih fun e he => h e (List.mem_cons_of_mem _ he)
theorem say_some {l : List Ext} {s : Int} (h : (say l s).1 ≠ 0) : ∃ e ∈ l, e.from_ ≤ s ∧ s < fin e := by
  induction l with
  | nil => simp [say] at h
  | cons a l ih =>
    by_cases hc : a.from_ ≤ s ∧ s < fin a
    · exact ⟨a, List.mem_cons_self .., hc⟩
    · rw [say, if_neg hc] at h
      obtain ⟨e, he, hh⟩ := ih h
      exact ⟨e, List.mem_cons_of_mem _ he, hh⟩
theorem say_hole {l : List Ext} (ho : ∀ e ∈ l, One e) {s : Int} (h : (say l s).1 = 0) : say l s = (0, 0) ∧ ∀ e ∈ l, ¬ (e.from_ ≤ s ∧ s < fin e) := by
  induction l with
  | nil => exact ⟨rfl, fun _ h => (List.not_mem_nil h).elim⟩
  | cons a l ih =>
    have ha := ho a (List.mem_cons_self ..)
    by_cases hc : a.from_ ≤ s ∧ s < fin a
    · rw [say, if_pos hc] at h
      exact absurd h ha.kind_ne
    · rw [say, if_neg hc] at h
      obtain ⟨h1, h2⟩ := ih (fun e he => ho e (List.mem_cons_of_mem _ he)) h
      refine ⟨by rw [say, if_neg hc]; exact h1, fun e he => ?_⟩
      rcases List.mem_cons.1 he with rfl | he
      · exact hc
      · exact h2 e he
theorem say_append {x y : List Ext} (hx : ∀ e ∈ x, One e) (s : Int) : say (x ++ y) s = if (say x s).1 = 0 then say y s else say x s := by
  induction x with
  | nil => simp [say]
  | cons a x ih =>
    have ha := hx a (List.mem_cons_self ..)
    rw [List.cons_append, say, say]
    by_cases hc : a.from_ ≤ s ∧ s < fin a
    · rw [if_pos hc, if_pos hc, if_neg ha.kind_ne]
    · rw [if_neg hc, if_neg hc]
      exact ih fun e he => hx e (List.mem_cons_of_mem _ he)
theorem say_one (e : Ext) (s : Int) : say [e] s = if e.from_ ≤ s ∧ s < fin e then (e.kind, page e s) else (0, 0) := rfl
theorem say_mem {l : List Ext} (h : WV l) {e : Ext} (he : e ∈ l) {s : Int} (h1 : e.from_ ≤ s) (h2 : s < fin e) : say l s = (e.kind, page e s) := by
  induction l with
  | nil => exact (List.not_mem_nil he).elim
  | cons a l ih =>
    obtain ⟨ho, hp⟩ := h
    rw [List.pairwise_cons] at hp
    rcases List.mem_cons.1 he with rfl | he'
    · rw [say, if_pos ⟨h1, h2⟩]
    · have hb := hp.1 e he'
      unfold Bef at hb
      rw [say, if_neg (by omega)]
      exact ih ⟨fun x hx => ho x (List.mem_cons_of_mem _ hx), hp.2⟩ he'

/-- How many sectors a list has. -/
def count (l : List Ext) : Int := (l.map (·.n)).sum
theorem count_nil : count [] = 0 := rfl
theorem count_cons (a : Ext) (l : List Ext) : count (a :: l) = a.n + count l := by simp [count]
theorem count_append (x y : List Ext) : count (x ++ y) = count x + count y := by
  simp [count, List.sum_append]
theorem wv_bound {l : List Ext} (h : WV l) {a b : Int} (hab : a ≤ b) (h1 : ∀ e ∈ l, a ≤ e.from_) (h2 : ∀ e ∈ l, fin e ≤ b) : (l.length : Int) ≤ count l ∧ count l ≤ b - a := by
  induction l generalizing a with
  | nil => simp [count]; omega
  | cons x l ih =>
    obtain ⟨ho, hp⟩ := h
    rw [List.pairwise_cons] at hp
    have hx := ho x (List.mem_cons_self ..)
    have := hx.pos
    have e1 := h1 x (List.mem_cons_self ..)
    have e2 := h2 x (List.mem_cons_self ..)
    have := ih ⟨fun e he => ho e (List.mem_cons_of_mem _ he), hp.2⟩ e2 (fun e he => hp.1 e he) (fun e he => h2 e (List.mem_cons_of_mem _ he))
    rw [count_cons, List.length_cons]
    unfold fin at *
    omega
theorem wv_len {l : List Ext} (h : WV l) : (l.length : Int) ≤ count l ∧ count l ≤ 16777216 := by
  have := wv_bound h (a := 0) (b := 16777216) (by decide) (fun e he => (h.1 e he).low) (fun e he => (h.1 e he).high)
  omega
theorem WV.sub {l m : List Ext} (h : WV m) (s : l.Sublist m) : WV l := ⟨fun e he => h.1 e (s.subset he), h.2.sublist s⟩
theorem Valid.sub {l m : List Ext} (h : Valid m) (s : l.Sublist m) : Valid l := ⟨fun e he => h.1 e (s.subset he), h.2.sublist s⟩
theorem wv_append {x y : List Ext} : WV (x ++ y) ↔ WV x ∧ WV y ∧ ∀ a ∈ x, ∀ b ∈ y, fin a ≤ b.from_ := by
  unfold WV
  rw [List.pairwise_append]
  constructor
  · rintro ⟨h1, h2, h3, h4⟩
    exact ⟨⟨fun e he => h1 e (List.mem_append_left _ he), h2⟩, ⟨fun e he => h1 e (List.mem_append_right _ he), h3⟩, h4⟩
  · rintro ⟨⟨h1, h2⟩, ⟨h3, h4⟩, h5⟩
    exact ⟨fun e he => (List.mem_append.1 he).elim (h1 e) (h3 e), h2, h4, h5⟩

/-- An extent put behind a list. -/
def push (l : List Ext) (e : Ext) : List Ext :=
  match l.getLast? with
  | some a => if Tog a e then l.dropLast ++ [join a e] else l ++ [e]
  | none => [e]
theorem push_nil (e : Ext) : push [] e = [e] := rfl
theorem push_tog (l : List Ext) (a e : Ext) (h : Tog a e) : push (l ++ [a]) e = l ++ [join a e] := by
  unfold push; simp [h]
theorem push_far (l : List Ext) (a e : Ext) (h : ¬ Tog a e) : push (l ++ [a]) e = l ++ [a] ++ [e] := by
  unfold push; simp [h]
theorem snoc_cases (l : List Ext) : l = [] ∨ ∃ i a, l = i ++ [a] := by
  rcases List.eq_nil_or_concat l with h | ⟨i, a, h⟩
  · exact .inl h
  · exact .inr ⟨i, a, by simpa using h⟩
structure Pushed (l : List Ext) (e : List Ext) (r : List Ext) : Prop where
  valid : Valid r
  says : ∀ s, say r s = say (l ++ e) s
  counts : count r = count l + count e
  len : r.length ≤ l.length + e.length
  ends : ∀ b, (∀ x ∈ l, fin x ≤ b) → (∀ x ∈ e, fin x ≤ b) → ∀ x ∈ r, fin x ≤ b
theorem push_spec {l : List Ext} {e : Ext} (hl : Valid l) (he : One e) (hb : ∀ a ∈ l, fin a ≤ e.from_) : Pushed l [e] (push l e) := by
  rcases snoc_cases l with rfl | ⟨i, a, rfl⟩
  · rw [push_nil]
    exact ⟨⟨fun x hx => by rw [List.mem_singleton.1 hx]; exact he, List.pairwise_singleton _ _⟩, fun s => rfl, by simp [count], by simp, fun b h1 h2 => h2⟩
  · obtain ⟨ho, hp⟩ := hl
    have ha : One a := ho a (by simp)
    have hba := hb a (by simp)
    rw [List.pairwise_append] at hp
    obtain ⟨hp1, _, hp2⟩ := hp
    have hi : ∀ x ∈ i, One x := fun x hx => ho x (by simp [hx])
    have hia : ∀ x ∈ i, Bef x a ∧ ¬ Tog x a := fun x hx => hp2 x hx a (by simp)
    by_cases ht : Tog a e
    · rw [push_tog _ _ _ ht]
      have hj := join_one ha he ht
      refine ⟨⟨?_, ?_⟩, ?_, ?_, ?_, ?_⟩
      · intro x hx
        rcases List.mem_append.1 hx with hx | hx
        · exact hi x hx
        · rw [List.mem_singleton.1 hx]; exact hj
      · rw [List.pairwise_append]
        refine ⟨hp1, List.pairwise_singleton _ _, fun x hx y hy => ?_⟩
        obtain rfl := List.mem_singleton.1 hy
        obtain ⟨h1, h2⟩ := hia x hx
        exact ⟨h1, h2⟩
      · intro s
        have hi2 : ∀ x ∈ i ++ [a], One x := fun x hx => ho x (by simpa using hx)
        rw [say_append hi, say_append hi2, say_append hi]
        by_cases h0 : (say i s).1 = 0
        · rw [if_pos h0, if_pos h0, say_one, say_one, say_one]
          have h1 := ht.1
          have := ha.pos
          have := he.pos
          have hk := ha.kind_ne
          have hf := fin_join a e ht
          have hjf : (join a e).from_ = a.from_ := rfl
          have hjk : (join a e).kind = a.kind := rfl
          have hjp : page (join a e) s = page a s := rfl
          rw [hf, hjf, hjk, hjp]
          by_cases c1 : a.from_ ≤ s ∧ s < fin a
          · rw [if_pos c1, if_neg hk, if_pos (by unfold fin at *; omega)]
          · rw [if_neg c1, if_pos rfl]
            by_cases c2 : e.from_ ≤ s ∧ s < fin e
            · rw [if_pos c2, if_pos (by unfold fin at *; omega)]
              have h2 := ht.2.1
              have h3 := ht.2.2
              unfold page
              rw [h2]
              congr 1
              by_cases hk2 : e.kind = 2
              · rw [if_pos hk2, if_pos hk2, h3 (h2.trans hk2), h1]; unfold fin; omega
              · rw [if_neg hk2, if_neg hk2]
            · rw [if_neg c2, if_neg (by unfold fin at *; omega)]
        · rw [if_neg h0, if_neg h0, if_neg h0]
      · rw [count_append, count_append]
        simp [count, join]; omega
      · simp
      · intro b h1 h2 x hx
        rcases List.mem_append.1 hx with hx | hx
        · exact h1 x (by simp [hx])
        · rw [List.mem_singleton.1 hx, fin_join a e ht]; exact h2 e (by simp)
    · rw [push_far _ _ _ ht]
      refine ⟨⟨?_, ?_⟩, fun s => rfl, by rw [count_append], by simp, ?_⟩
      · intro x hx
        rcases List.mem_append.1 hx with hx | hx
        · exact ho x hx
        · rw [List.mem_singleton.1 hx]; exact he
      · rw [List.pairwise_append]
        refine ⟨by rw [List.pairwise_append]; exact ⟨hp1, List.pairwise_singleton _ _, hp2⟩, List.pairwise_singleton _ _, fun x hx y hy => ?_⟩
        obtain rfl := List.mem_singleton.1 hy
        refine ⟨hb x hx, fun hxy => ?_⟩
        rcases List.mem_append.1 hx with hx | hx
        · have h1 := (hia x hx).1
          have := ha.pos
          have := hxy.1
          unfold Bef at h1
          unfold fin at *
          omega
        · rw [List.mem_singleton.1 hx] at hxy; exact ht hxy
      · intro b h1 h2 x hx
        rcases List.mem_append.1 hx with hx | hx
        · exact h1 x hx
        · exact h2 x hx
def pushAll (l es : List Ext) : List Ext := es.foldl push l
theorem pushAll_append (l x y : List Ext) : pushAll l (x ++ y) = pushAll (pushAll l x) y := by simp [pushAll]
theorem pushAll_spec {es : List Ext} : ∀ {l : List Ext}, Valid l → WV es → (∀ a ∈ l, ∀ b ∈ es, fin a ≤ b.from_) → Pushed l es (pushAll l es) := by
  induction es with
  | nil =>
    intro l hl _ _
    exact ⟨hl, fun s => by simp [pushAll], by simp [pushAll, count], by simp [pushAll], fun b h1 h2 => h1⟩
  | cons e es ih =>
    intro l hl hw hb
    obtain ⟨ho, hp⟩ := hw
    rw [List.pairwise_cons] at hp
    have he := ho e (List.mem_cons_self ..)
    have h1 := push_spec hl he fun a ha => hb a ha e (List.mem_cons_self ..)
    have h2 := ih (l := push l e) h1.valid ⟨fun x hx => ho x (List.mem_cons_of_mem _ hx), hp.2⟩ (by
      intro a ha b hbm
      have h3 := hp.1 b hbm
      refine h1.ends b.from_ (fun x hx => hb x hx b (List.mem_cons_of_mem _ hbm)) (fun x hx => ?_) a ha
      rw [List.mem_singleton.1 hx]; exact h3)
    have e0 : pushAll l (e :: es) = pushAll (push l e) es := rfl
    rw [e0]
    refine ⟨h2.valid, fun s => ?_, ?_, ?_, fun b k1 k2 => ?_⟩
    · rw [h2.says s, say_append h1.valid.1, h1.says s]
      have hle : ∀ x ∈ l ++ [e], One x := by
        intro x hx
        rcases List.mem_append.1 hx with hx | hx
        · exact hl.1 x hx
        · rw [List.mem_singleton.1 hx]; exact he
      rw [show l ++ e :: es = (l ++ [e]) ++ es by simp, say_append hle]
    · rw [h2.counts, h1.counts]; simp [count]; omega
    · have := h2.len; have := h1.len; simp at *; omega
    · exact h2.ends b (h1.ends b k1 fun x hx => k2 x (by rw [List.mem_singleton.1 hx]; exact List.mem_cons_self ..)) fun x hx => k2 x (List.mem_cons_of_mem _ hx)

/-- What an extent has from a to b. -/
def lo (e : Ext) (a : Int) : Int := if e.from_ ≤ a then a else e.from_
def hi (e : Ext) (b : Int) : Int := if fin e ≤ b then fin e else b
def clip1 (e : Ext) (a b : Int) : List Ext := if lo e a < hi e b then [stretch e (lo e a) (hi e b - lo e a)] else []
def clips (l : List Ext) (a b : Int) : List Ext := l.flatMap fun e => clip1 e a b
theorem clips_cons (e : Ext) (l : List Ext) (a b : Int) : clips (e :: l) a b = clip1 e a b ++ clips l a b := rfl
theorem clips_append (x y : List Ext) (a b : Int) : clips (x ++ y) a b = clips x a b ++ clips y a b := by simp [clips]
theorem clip1_mem {e : Ext} (he : One e) {a b : Int} {x : Ext} (hx : x ∈ clip1 e a b) : One x ∧ a ≤ x.from_ ∧ fin x ≤ b ∧ e.from_ ≤ x.from_ ∧ fin x ≤ fin e := by
  unfold clip1 at hx
  split at hx
  · rename_i hlt
    obtain rfl := List.mem_singleton.1 hx
    obtain ⟨⟨p1, p2, p3⟩, p4⟩ := he
    have h1 : a ≤ lo e a ∧ e.from_ ≤ lo e a := by unfold lo; split <;> omega
    have h2 : hi e b ≤ b ∧ hi e b ≤ fin e := by unfold hi; split <;> omega
    have h3 : fin e = e.from_ + e.n := rfl
    unfold stretch fin One page
    simp only
    refine ⟨⟨by omega, ?_⟩, by omega, by omega, by omega, by omega⟩
    rcases p4 with p4 | p4
    · exact .inl ⟨p4.1, by rw [if_neg (by omega)]⟩
    · exact .inr ⟨p4.1, by rw [if_pos p4.1]; omega, by rw [if_pos p4.1]; omega⟩
  · exact (List.not_mem_nil hx).elim
theorem clip1_wv {e : Ext} (he : One e) (a b : Int) : WV (clip1 e a b) := by
  refine ⟨fun x hx => (clip1_mem he hx).1, ?_⟩
  unfold clip1
  split
  · exact List.pairwise_singleton _ _
  · exact List.Pairwise.nil
theorem clip1_say {e : Ext} (a b s : Int) : say (clip1 e a b) s = if a ≤ s ∧ s < b then say [e] s else (0, 0) := by
  have h1 : lo e a = if e.from_ ≤ a then a else e.from_ := rfl
  have h2 : hi e b = if fin e ≤ b then fin e else b := rfl
  rw [say_one]
  unfold clip1
  split
  · rename_i hlt
    rw [say_one]
    have e1 : (stretch e (lo e a) (hi e b - lo e a)).from_ = lo e a := rfl
    have e2 : fin (stretch e (lo e a) (hi e b - lo e a)) = hi e b := by unfold fin stretch; simp only; omega
    rw [e1, e2]
    have e3 : page (stretch e (lo e a) (hi e b - lo e a)) s = page e s := by
      unfold page stretch page; simp only; split <;> omega
    rw [e3]
    have e4 : (stretch e (lo e a) (hi e b - lo e a)).kind = e.kind := rfl
    rw [e4]
    have key : (lo e a ≤ s ∧ s < hi e b) ↔ ((a ≤ s ∧ s < b) ∧ (e.from_ ≤ s ∧ s < fin e)) := by
      split at h1 <;> split at h2 <;> omega
    by_cases c1 : a ≤ s ∧ s < b
    · by_cases c2 : e.from_ ≤ s ∧ s < fin e
      · rw [if_pos (key.2 ⟨c1, c2⟩), if_pos c1, if_pos c2]
      · rw [if_neg (fun h => c2 (key.1 h).2), if_pos c1, if_neg c2]
    · rw [if_neg (fun h => c1 (key.1 h).1), if_neg c1]
  · rename_i hlt
    rw [say]
    split at h1 <;> split at h2 <;> rw [h1, h2] at hlt
    all_goals
      by_cases c1 : a ≤ s ∧ s < b
      · rw [if_pos c1, if_neg (by omega)]
      · rw [if_neg c1]
theorem clips_mem {l : List Ext} (h : ∀ e ∈ l, One e) {a b : Int} {x : Ext} (hx : x ∈ clips l a b) : ∃ e ∈ l, One x ∧ a ≤ x.from_ ∧ fin x ≤ b ∧ e.from_ ≤ x.from_ ∧ fin x ≤ fin e := by
  obtain ⟨e, he, hxe⟩ := List.mem_flatMap.1 hx
  exact ⟨e, he, clip1_mem (h e he) hxe⟩
theorem clips_wv {l : List Ext} (h : WV l) (a b : Int) : WV (clips l a b) := by
  induction l with
  | nil => exact wv_nil
  | cons e l ih =>
    obtain ⟨ho, hp⟩ := h
    rw [List.pairwise_cons] at hp
    rw [clips_cons, wv_append]
    have hl : ∀ x ∈ l, One x := fun x hx => ho x (List.mem_cons_of_mem _ hx)
    refine ⟨clip1_wv (ho e (List.mem_cons_self ..)) a b, ih ⟨hl, hp.2⟩, fun x hx y hy => ?_⟩
    obtain ⟨_, _, _, _, k1⟩ := clip1_mem (ho e (List.mem_cons_self ..)) hx
    obtain ⟨e', he', _, _, _, k2, _⟩ := clips_mem hl hy
    have := hp.1 e' he'
    unfold Bef at this
    omega
theorem clips_say {l : List Ext} (h : ∀ e ∈ l, One e) (a b s : Int) : say (clips l a b) s = if a ≤ s ∧ s < b then say l s else (0, 0) := by
  induction l with
  | nil => simp [clips, say]
  | cons e l ih =>
    have he := h e (List.mem_cons_self ..)
    have hl : ∀ x ∈ l, One x := fun x hx => h x (List.mem_cons_of_mem _ hx)
    have e1 : e :: l = [e] ++ l := rfl
    rw [clips_cons, say_append (fun x hx => (clip1_mem he hx).1), clip1_say, ih hl, e1, say_append (by intro x hx; rw [List.mem_singleton.1 hx]; exact he)]
    by_cases c : a ≤ s ∧ s < b
    · simp [c]
    · simp [c]

/-- Cutting, laying over, clipping. -/
def cut (l : List Ext) (f n : Int) : List Ext := pushAll (pushAll [] (clips l 0 f)) (clips l (f + n) 16777216)
def over (l : List Ext) (e : Ext) : List Ext := pushAll (push (pushAll [] (clips l 0 e.from_)) e) (clips l (fin e) 16777216)
def clip (l : List Ext) (f n : Int) : List Ext := pushAll [] (clips l f (f + n))
theorem say_out {l : List Ext} (h : ∀ e ∈ l, One e) {s : Int} (hs : s < 0 ∨ 16777216 ≤ s) : say l s = (0, 0) := by
  refine say_none fun e he hh => ?_
  have := (h e he).low
  have := (h e he).high
  omega
theorem clip_spec {l : List Ext} (h : Valid l) (f n : Int) : Pushed [] (clips l f (f + n)) (clip l f n) :=
  pushAll_spec valid_nil (clips_wv h.wv f (f + n)) fun _ hx => (List.not_mem_nil hx).elim
theorem clip_say {l : List Ext} (h : Valid l) (f n s : Int) : say (clip l f n) s = if f ≤ s ∧ s < f + n then say l s else (0, 0) := by
  rw [(clip_spec h f n).says s, List.nil_append, clips_say h.1]
theorem cut_spec {l : List Ext} (h : Valid l) {f n : Int} (hn : 0 ≤ n) : Pushed [] (clips l 0 f ++ clips l (f + n) 16777216) (cut l f n) := by
  unfold cut
  rw [← pushAll_append]
  refine pushAll_spec valid_nil (wv_append.2 ⟨clips_wv h.wv _ _, clips_wv h.wv _ _, fun x hx y hy => ?_⟩) fun _ hx => (List.not_mem_nil hx).elim
  obtain ⟨_, _, _, _, k1, _⟩ := clips_mem h.1 hx
  obtain ⟨_, _, _, k2, _⟩ := clips_mem h.1 hy
  omega
theorem cut_say {l : List Ext} (h : Valid l) {f n : Int} (hf : 0 ≤ f) (hn : 0 ≤ n) (hfn : n ≤ 16777216 - f) (s : Int) : say (cut l f n) s = if f ≤ s ∧ s < f + n then (0, 0) else say l s := by
  rw [(cut_spec h hn).says s, List.nil_append, say_append (fun x hx => by obtain ⟨_, _, k, _⟩ := clips_mem h.1 hx; exact k), clips_say h.1, clips_say h.1]
  by_cases c1 : 0 ≤ s ∧ s < f
  · rw [if_pos c1, if_neg (show ¬ (f ≤ s ∧ s < f + n) by omega), if_neg (show ¬ (f + n ≤ s ∧ s < 16777216) by omega)]
    split
    · rename_i h0; exact (say_hole h.1 h0).1.symm
    · rfl
  · rw [if_neg c1, if_pos rfl]
    by_cases c2 : f + n ≤ s ∧ s < 16777216
    · rw [if_pos c2, if_neg (by omega)]
    · rw [if_neg c2]
      by_cases c3 : f ≤ s ∧ s < f + n
      · rw [if_pos c3]
      · rw [if_neg c3, say_out h.1 (by omega)]
theorem over_spec {l : List Ext} (h : Valid l) {e : Ext} (he : One e) : Pushed [] (clips l 0 e.from_ ++ [e] ++ clips l (fin e) 16777216) (over l e) := by
  unfold over
  have e1 : push (pushAll [] (clips l 0 e.from_)) e = pushAll [] (clips l 0 e.from_ ++ [e]) := by rw [pushAll_append]; rfl
  rw [e1, ← pushAll_append]
  have := he.lt
  refine pushAll_spec valid_nil (wv_append.2 ⟨wv_append.2 ⟨clips_wv h.wv _ _, ⟨fun x hx => by rw [List.mem_singleton.1 hx]; exact he, List.pairwise_singleton _ _⟩, fun x hx y hy => ?_⟩, clips_wv h.wv _ _, fun x hx y hy => ?_⟩) fun _ hx => (List.not_mem_nil hx).elim
  · obtain ⟨_, _, _, _, k1, _⟩ := clips_mem h.1 hx
    rw [List.mem_singleton.1 hy]; exact k1
  · obtain ⟨_, _, _, k2, _⟩ := clips_mem h.1 hy
    rcases List.mem_append.1 hx with hx | hx
    · obtain ⟨_, _, _, _, k1, _⟩ := clips_mem h.1 hx
      omega
    · rw [List.mem_singleton.1 hx]; exact k2
theorem over_say {l : List Ext} (h : Valid l) {e : Ext} (he : One e) (s : Int) : say (over l e) s = if e.from_ ≤ s ∧ s < fin e then (e.kind, page e s) else say l s := by
  have h1 : ∀ x ∈ clips l 0 e.from_, One x := fun x hx => by obtain ⟨_, _, k, _⟩ := clips_mem h.1 hx; exact k
  have h2 : ∀ x ∈ clips l 0 e.from_ ++ [e], One x := fun x hx => by
    rcases List.mem_append.1 hx with hx | hx
    · exact h1 x hx
    · rw [List.mem_singleton.1 hx]; exact he
  rw [(over_spec h he).says s, List.nil_append, say_append h2, say_append h1, clips_say h.1, clips_say h.1, say_one]
  have := he.lt
  have := he.low
  have := he.high
  have hk := he.kind_ne
  by_cases c1 : 0 ≤ s ∧ s < e.from_
  · have c2 : ¬ (e.from_ ≤ s ∧ s < fin e) := by omega
    have c3 : ¬ (fin e ≤ s ∧ s < 16777216) := by omega
    simp only [if_pos c1, if_neg c2, if_neg c3]
    by_cases h0 : (say l s).1 = 0
    · simp only [if_pos h0]; exact (say_hole h.1 h0).1.symm
    · simp only [if_neg h0]
  · simp only [if_neg c1]
    by_cases c2 : e.from_ ≤ s ∧ s < fin e
    · simp [if_pos c2, hk]
    · by_cases c3 : fin e ≤ s ∧ s < 16777216
      · simp [if_neg c2, if_pos c3]
      · simp [if_neg c2, say_out h.1 (show s < 0 ∨ 16777216 ≤ s by omega)]

/-- There is just one list that says the same of all sectors. -/
theorem uniq : ∀ {x y : List Ext}, Valid x → Valid y → (∀ s, say x s = say y s) → x = y
  | [], [], _, _, _ => rfl
  | [], b :: y, _, hy, h => by
    have hb := hy.1 b (List.mem_cons_self ..)
    have := h b.from_
    rw [say_mem hy.wv (List.mem_cons_self ..) (Int.le_refl _) hb.lt] at this
    exact absurd (congrArg Prod.fst this).symm hb.kind_ne
  | a :: x, [], hx, _, h => by
    have ha := hx.1 a (List.mem_cons_self ..)
    have := h a.from_
    rw [say_mem hx.wv (List.mem_cons_self ..) (Int.le_refl _) ha.lt] at this
    exact absurd (congrArg Prod.fst this) ha.kind_ne
  | a :: x, b :: y, hx, hy, h => by
    have ha := hx.1 a (List.mem_cons_self ..)
    have hb := hy.1 b (List.mem_cons_self ..)
    have hpx := hx.2
    have hpy := hy.2
    rw [List.pairwise_cons] at hpx hpy
    have hxt : Valid x := ⟨fun e he => hx.1 e (List.mem_cons_of_mem _ he), hpx.2⟩
    have hyt : Valid y := ⟨fun e he => hy.1 e (List.mem_cons_of_mem _ he), hpy.2⟩
    have low : ∀ {c : Ext} {z : List Ext}, Valid (c :: z) → ∀ s, (say (c :: z) s).1 ≠ 0 → c.from_ ≤ s := by
      intro c z hz s hs
      obtain ⟨e, he, h1, h2⟩ := say_some hs
      rcases List.mem_cons.1 he with rfl | he
      · exact h1
      · have := (List.pairwise_cons.1 hz.2).1 e he
        have := this.1
        have := (hz.1 c (List.mem_cons_self ..)).lt
        unfold Bef at *
        omega
    have sa := say_mem hx.wv (List.mem_cons_self ..) (Int.le_refl _) ha.lt
    have sb := say_mem hy.wv (List.mem_cons_self ..) (Int.le_refl _) hb.lt
    have l1 : b.from_ ≤ a.from_ := low hy _ (by rw [← h, sa]; exact ha.kind_ne)
    have l2 : a.from_ ≤ b.from_ := low hx _ (by rw [h, sb]; exact hb.kind_ne)
    have hf : a.from_ = b.from_ := by omega
    have hs : (a.kind, page a a.from_) = (b.kind, page b b.from_) := by rw [← sa, h a.from_, hf, sb]
    have hkind : a.kind = b.kind := congrArg Prod.fst hs
    have hpg : page a a.from_ = page b b.from_ := congrArg Prod.snd hs
    have hat : a.at_ = b.at_ := by
      unfold page at hpg
      have h1 := ha.2
      have h2 := hb.2
      split at hpg <;> split at hpg <;> omega
    -- where one is longer the other goes on
    have key : ∀ {c d : Ext} {z u : List Ext}, Valid (c :: z) → Valid (d :: u) → (∀ s, say (c :: z) s = say (d :: u) s) → c.from_ = d.from_ → c.kind = d.kind → c.at_ = d.at_ → ¬ c.n < d.n := by
      intro c d z u hz hu hh e1 e2 e3 hlt
      have hc := hz.1 c (List.mem_cons_self ..)
      have hd := hu.1 d (List.mem_cons_self ..)
      have hfc : fin c = c.from_ + c.n := rfl
      have hfd : fin d = d.from_ + d.n := rfl
      have hcn := hc.pos
      have s1 := say_mem hu.wv (List.mem_cons_self ..) (s := fin c) (by omega) (by omega)
      have s2 := (hh (fin c)).trans s1
      rw [say, if_neg (by omega)] at s2
      have hne : (say z (fin c)).1 ≠ 0 := by rw [s2]; exact hd.kind_ne
      obtain ⟨e, he, k1, k2⟩ := say_some hne
      obtain ⟨b1, b2⟩ := (List.pairwise_cons.1 hz.2).1 e he
      unfold Bef at b1
      have hzt : WV z := ⟨fun e he => hz.1 e (List.mem_cons_of_mem _ he), (List.pairwise_cons.1 hz.2).2.imp fun h => h.1⟩
      rw [say_mem hzt he k1 k2] at s2
      refine b2 ⟨by omega, ?_, fun hk => ?_⟩
      · have := congrArg Prod.fst s2
        simp only at this
        omega
      · have h3 := congrArg Prod.fst s2
        have h4 := congrArg Prod.snd s2
        simp only at h3 h4
        unfold page at h4
        rw [if_pos (by omega), if_pos (by omega)] at h4
        omega
    have n1 := key hx hy h hf hkind hat
    have n2 := key hy hx (fun s => (h s).symm) hf.symm hkind.symm hat.symm
    have hab : a = b := by
      obtain ⟨_, _, _, _⟩ := a
      obtain ⟨_, _, _, _⟩ := b
      simp only at hf hkind hat n1 n2
      simp only [Ext.mk.injEq]
      omega
    subst hab
    have ht : ∀ s, say x s = say y s := by
      intro s
      by_cases c : a.from_ ≤ s ∧ s < fin a
      · have hole : ∀ {z : List Ext}, (∀ e ∈ z, Bef a e ∧ ¬ Tog a e) → say z s = (0, 0) := by
          intro z hz
          refine say_none fun e he hh => ?_
          have := (hz e he).1
          unfold Bef at this
          omega
        rw [hole hpx.1, hole hpy.1]
      · have := h s
        rwa [say, say, if_neg c, if_neg c] at this
    rw [uniq hxt hyt ht]
end Go.Proofs.YtdjlflinepefbabGreat.EX
