/- Trees of extents as plain data, on: laying over and cutting are done where a list touches, the change from a list to another one, what a tree says of a sector. No program. -/
import Derived.Test.YtdjlflinepefbabGreatQ02

namespace Go.Proofs.YtdjlflinepefbabGreat.TR
open EX
set_option linter.unusedVariables false
set_option linter.unusedSimpArgs false

theorem valid_append {x y : List Ext} : Valid (x ++ y) ↔ Valid x ∧ Valid y ∧ ∀ a ∈ x, ∀ b ∈ y, Bef a b ∧ ¬ Tog a b := by
  unfold Valid
  rw [List.pairwise_append]
  constructor
  · rintro ⟨h1, h2, h3, h4⟩
    exact ⟨⟨fun e he => h1 e (List.mem_append_left _ he), h2⟩, ⟨fun e he => h1 e (List.mem_append_right _ he), h3⟩, h4⟩
  · rintro ⟨⟨h1, h2⟩, ⟨h3, h4⟩, h5⟩
    exact ⟨fun e he => (List.mem_append.1 he).elim (h1 e) (h3 e), h2, h4, h5⟩
/-- A list in whose middle something else is said: it may be. -/
theorem local_valid {A W B N : List Ext} {f g : Int} (hL : Valid (A ++ W ++ B)) (hN : Valid N) (hfg : f ≤ g) (hA : ∀ a ∈ A, fin a < f) (hB : ∀ b ∈ B, g < b.from_)
    (hs : ∀ s, (f ≤ s ∧ s < g) ∨ say N s = say W s) : Valid (A ++ N ++ B) := by
  obtain ⟨hAW, hBv, hAWB⟩ := valid_append.1 hL
  obtain ⟨hAv, hWv, hAW2⟩ := valid_append.1 hAW
  have from_ : ∀ x ∈ N, f ≤ x.from_ ∨ ∃ u ∈ W, u.from_ ≤ x.from_ ∧ u.kind = x.kind ∧ page u x.from_ = page x x.from_ := by
    intro x hx
    have ho := hN.1 x hx
    rcases hs x.from_ with h | h
    · exact .inl h.1
    · rw [say_mem hN.wv hx (Int.le_refl _) ho.lt] at h
      have hk : (say W x.from_).1 ≠ 0 := by rw [← h]; exact ho.kind_ne
      obtain ⟨u, hu, h1, h2⟩ := say_some hk
      rw [say_mem hWv.wv hu h1 h2] at h
      injection h with h3 h4
      exact .inr ⟨u, hu, h1, h3.symm, h4.symm⟩
  have to_ : ∀ x ∈ N, fin x ≤ g ∨ ∃ u ∈ W, fin x ≤ fin u ∧ u.kind = x.kind ∧ page u (fin x - 1) = page x (fin x - 1) := by
    intro x hx
    have ho := hN.1 x hx
    have hlt := ho.lt
    rcases hs (fin x - 1) with h | h
    · exact .inl (by omega)
    · rw [say_mem hN.wv hx (by omega) (by omega)] at h
      have hk : (say W (fin x - 1)).1 ≠ 0 := by rw [← h]; exact ho.kind_ne
      obtain ⟨u, hu, h1, h2⟩ := say_some hk
      rw [say_mem hWv.wv hu h1 h2] at h
      injection h with h3 h4
      exact .inr ⟨u, hu, by omega, h3.symm, h4.symm⟩
  have hAN : ∀ a ∈ A, ∀ x ∈ N, Bef a x ∧ ¬ Tog a x := by
    intro a ha x hx
    have h1 := hA a ha
    rcases from_ x hx with h | ⟨u, hu, h2, h3, h4⟩
    · exact ⟨by unfold Bef; omega, fun t => by have := t.1; omega⟩
    · obtain ⟨b1, b2⟩ := hAW2 a ha u hu
      unfold Bef at b1
      refine ⟨by unfold Bef; omega, fun t => b2 ?_⟩
      obtain ⟨t1, t2, t3⟩ := t
      have e1 : u.from_ = x.from_ := by omega
      refine ⟨by omega, t2.trans h3.symm, fun hk => ?_⟩
      have := t3 hk
      unfold page at h4
      rw [if_pos (by rw [h3, ← t2]; exact hk), if_pos (by rw [← t2]; exact hk)] at h4
      omega
  have hNB : ∀ x ∈ N, ∀ b ∈ B, Bef x b ∧ ¬ Tog x b := by
    intro x hx b hb
    have h1 := hB b hb
    rcases to_ x hx with h | ⟨u, hu, h2, h3, h4⟩
    · exact ⟨by unfold Bef; omega, fun t => by have := t.1; omega⟩
    · obtain ⟨b1, b2⟩ := hAWB u (List.mem_append_right _ hu) b hb
      unfold Bef at b1
      refine ⟨by unfold Bef; omega, fun t => b2 ?_⟩
      obtain ⟨t1, t2, t3⟩ := t
      have e1 : fin u = fin x := by omega
      refine ⟨by omega, h3.trans t2, fun hk => ?_⟩
      have := t3 (by rw [← h3]; exact hk)
      unfold page at h4
      rw [if_pos hk, if_pos (by rw [← h3]; exact hk)] at h4
      unfold fin at *
      omega
  rw [valid_append, valid_append]
  refine ⟨⟨hAv, hN, hAN⟩, hBv, fun a ha b hb => ?_⟩
  rcases List.mem_append.1 ha with ha | ha
  · exact hAWB a (List.mem_append_left _ ha) b hb
  · exact hNB a ha b hb
theorem local_say {A W B N : List Ext} {f g : Int} (hL : Valid (A ++ W ++ B)) (hN : Valid N) (hA : ∀ a ∈ A, fin a < f) (hB : ∀ b ∈ B, g < b.from_)
    (hs : ∀ s, (f ≤ s ∧ s < g) ∨ say N s = say W s) (s : Int) : say (A ++ N ++ B) s = if f ≤ s ∧ s < g then say N s else say (A ++ W ++ B) s := by
  obtain ⟨hAW, hBv, _⟩ := valid_append.1 hL
  obtain ⟨hAv, hWv, _⟩ := valid_append.1 hAW
  rw [List.append_assoc, List.append_assoc, say_append hAv.1, say_append hAv.1, say_append hN.1, say_append hWv.1]
  by_cases h : f ≤ s ∧ s < g
  · rw [if_pos h]
    have e1 : say A s = (0, 0) := say_none fun e he => by have := hA e he; omega
    have e2 : say B s = (0, 0) := say_none fun e he => by have := hB e he; omega
    rw [e1, if_pos rfl, e2]
    by_cases h0 : (say N s).1 = 0
    · rw [if_pos h0]; exact (say_hole hN.1 h0).1.symm
    · rw [if_neg h0]
  · rw [if_neg h]
    rcases hs s with h1 | h1
    · exact absurd h1 h
    · rw [h1]
theorem over_local {A W B : List Ext} {e : Ext} (hL : Valid (A ++ W ++ B)) (he : One e) (hA : ∀ a ∈ A, fin a < e.from_) (hB : ∀ b ∈ B, fin e < b.from_) : over (A ++ W ++ B) e = A ++ over W e ++ B := by
  have hW : Valid W := (valid_append.1 (valid_append.1 hL).1).2.1
  have hs : ∀ s, (e.from_ ≤ s ∧ s < fin e) ∨ say (over W e) s = say W s := by
    intro s
    rw [over_say hW he]
    by_cases h : e.from_ ≤ s ∧ s < fin e
    · exact .inl h
    · right; rw [if_neg h]
  refine uniq (over_ok hL he) (local_valid hL (over_ok hW he) (by have := he.lt; omega) hA hB hs) fun s => ?_
  rw [local_say hL (over_ok hW he) hA hB hs, over_say hL he, over_say hW he]
  by_cases h : e.from_ ≤ s ∧ s < fin e
  · simp only [if_pos h]
  · simp only [if_neg h]
theorem cut_local {A W B : List Ext} {f n : Int} (hL : Valid (A ++ W ++ B)) (f0 : 0 ≤ f) (n0 : 0 ≤ n) (n1 : n ≤ 16777216 - f) (hA : ∀ a ∈ A, fin a < f) (hB : ∀ b ∈ B, f + n < b.from_) : cut (A ++ W ++ B) f n = A ++ cut W f n ++ B := by
  have hW : Valid W := (valid_append.1 (valid_append.1 hL).1).2.1
  have hs : ∀ s, (f ≤ s ∧ s < f + n) ∨ say (cut W f n) s = say W s := by
    intro s
    rw [cut_say hW f0 n0 n1]
    by_cases h : f ≤ s ∧ s < f + n
    · exact .inl h
    · right; rw [if_neg h]
  refine uniq (cut_ok hL n0) (local_valid hL (cut_ok hW n0) (by omega) hA hB hs) fun s => ?_
  rw [local_say hL (cut_ok hW n0) hA hB hs, cut_say hL f0 n0 n1, cut_say hW f0 n0 n1]
  by_cases h : f ≤ s ∧ s < f + n
  · simp only [if_pos h]
  · simp only [if_neg h]
theorem clip1_out {e : Ext} {a b : Int} (h : fin e < a ∨ b < e.from_) (hab : a ≤ b) (ho : One e) : clip1 e a b = [] := by
  unfold clip1 lo hi
  have := ho.lt
  rw [if_neg]
  split <;> split <;> omega
theorem clips_out {l : List Ext} {a b : Int} (hab : a ≤ b) (ho : ∀ e ∈ l, One e) (h : ∀ e ∈ l, fin e < a ∨ b < e.from_) : clips l a b = [] := by
  induction l with
  | nil => rfl
  | cons e l ih => rw [clips_cons, clip1_out (h e List.mem_cons_self) hab (ho e List.mem_cons_self), ih (fun x hx => ho x (List.mem_cons_of_mem _ hx)) (fun x hx => h x (List.mem_cons_of_mem _ hx))]; rfl
theorem clip_local {A W B : List Ext} {f n : Int} (hL : Valid (A ++ W ++ B)) (n0 : 0 ≤ n) (hA : ∀ a ∈ A, fin a < f) (hB : ∀ b ∈ B, f + n < b.from_) : clip (A ++ W ++ B) f n = clip W f n := by
  obtain ⟨hAW, hBv, _⟩ := valid_append.1 hL
  obtain ⟨hAv, hWv, _⟩ := valid_append.1 hAW
  unfold clip
  rw [clips_append, clips_append, clips_out (by omega) hAv.1 (fun e he => .inl (hA e he)), clips_out (by omega) hBv.1 (fun e he => .inr (hB e he))]
  simp

/-- What a range touches stands side by side. -/
theorem split_touch {L : List Ext} (hv : WV L) (a b : Int) (hab : a ≤ b + 1) : ∃ A B, L = A ++ touch L a b ++ B ∧ (∀ x ∈ A, fin x < a) ∧ ∀ x ∈ B, b < x.from_ := by
  induction L with
  | nil => exact ⟨[], [], rfl, fun _ h => (List.not_mem_nil h).elim, fun _ h => (List.not_mem_nil h).elim⟩
  | cons e L ih =>
    obtain ⟨ho, hp⟩ := hv
    rw [List.pairwise_cons] at hp
    obtain ⟨A, B, h1, h2, h3⟩ := ih ⟨fun x hx => ho x (List.mem_cons_of_mem _ hx), hp.2⟩
    have hlt := (ho e List.mem_cons_self).lt
    by_cases c1 : fin e < a
    · refine ⟨e :: A, B, ?_, fun x hx => ?_, h3⟩
      · have e1 : touch (e :: L) a b = touch L a b := by
          unfold touch; rw [List.filter_cons_of_neg]; simp; omega
        rw [e1, List.cons_append, List.cons_append, ← h1]
      · rcases List.mem_cons.1 hx with rfl | hx
        · exact c1
        · exact h2 x hx
    · by_cases c2 : e.from_ ≤ b
      · have hA : A = [] := by
          rcases List.eq_nil_or_concat A with h | ⟨i, x, h⟩
          · exact h
          · have hx : x ∈ L := by rw [h1, h]; simp
            have b1 := hp.1 x hx
            have b2 := h2 x (by rw [h]; simp)
            have b3 := (ho x (List.mem_cons_of_mem _ hx)).lt
            unfold Bef at b1; omega
        subst hA
        refine ⟨[], B, ?_, fun _ h => (List.not_mem_nil h).elim, h3⟩
        have e1 : touch (e :: L) a b = e :: touch L a b := by
          unfold touch; rw [List.filter_cons_of_pos]; simp; omega
        rw [e1]
        conv => lhs; rw [h1]
        simp
      · refine ⟨[], e :: L, ?_, fun _ h => (List.not_mem_nil h).elim, fun x hx => ?_⟩
        · rw [touch_none (l := e :: L)]
          · rfl
          · intro x hx
            rcases List.mem_cons.1 hx with rfl | hx
            · exact .inr (by omega)
            · have := hp.1 x hx; unfold Bef at this; exact .inr (by omega)
        · rcases List.mem_cons.1 hx with rfl | hx
          · omega
          · have := hp.1 x hx; unfold Bef at this; omega

/-- The change from a list to another one: what both have ahead and behind stays. -/
structure Chg (was now : List Ext) (a b : Int) (E : List Ext) : Prop where
  parts : ∃ P W S, was = P ++ W ++ S ∧ now = P ++ E ++ S ∧ ((W ≠ [] ∧ a = (W.headD Ext.zero).from_ ∧ b = (W.getLastD Ext.zero).from_) ∨ (W = [] ∧ E ≠ [] ∧ a = (E.headD Ext.zero).from_ ∧ b = a))
theorem wv_last_le {l : List Ext} (h : WV l) : ∀ x ∈ l, x.from_ ≤ (l.getLastD Ext.zero).from_ := by
  intro x hx
  rcases List.eq_nil_or_concat l with rfl | ⟨i, e, rfl⟩
  · simp at hx
  · have e1 : (i.concat e).getLastD Ext.zero = e := by simp
    rw [e1]
    rw [List.concat_eq_append] at h hx
    rcases List.mem_append.1 hx with hx | hx
    · have h2 := (wv_append.1 h).2.2 x hx e (by simp)
      have := (h.1 x (List.mem_append_left _ hx)).lt
      omega
    · rw [List.mem_singleton.1 hx]; exact Int.le_refl _
theorem wv_first_le {l : List Ext} (h : WV l) : ∀ x ∈ l, (l.headD Ext.zero).from_ ≤ x.from_ := by
  intro x hx
  cases l with
  | nil => simp at hx
  | cons e r => exact wv_head_le h x hx
theorem head_mem {l : List Ext} (h : l ≠ []) : l.headD Ext.zero ∈ l := by
  cases l with
  | nil => exact absurd rfl h
  | cons e r => simp
theorem last_mem {l : List Ext} (h : l ≠ []) : l.getLastD Ext.zero ∈ l := by
  rcases List.eq_nil_or_concat l with rfl | ⟨i, e, rfl⟩
  · exact absurd rfl h
  · simp
theorem chg_repl {A was B now E : List Ext} {a b : Int} (hc : Chg was now a b E) (hL : WV (A ++ was ++ B)) (hN : WV (A ++ now ++ B)) : a ≤ b ∧ repl (A ++ was ++ B) a b E = A ++ now ++ B := by
  obtain ⟨P, W, S, rfl, rfl, h⟩ := hc.parts
  have e1 : A ++ (P ++ W ++ S) ++ B = (A ++ P) ++ W ++ (S ++ B) := by simp [List.append_assoc]
  have e2 : A ++ (P ++ E ++ S) ++ B = (A ++ P) ++ E ++ (S ++ B) := by simp [List.append_assoc]
  rw [e1] at hL ⊢
  rw [e2] at hN ⊢
  obtain ⟨hXW, hY, hXWY⟩ := wv_append.1 hL
  obtain ⟨hX, hW, hXW2⟩ := wv_append.1 hXW
  obtain ⟨hXE, _, hXEY⟩ := wv_append.1 hN
  obtain ⟨_, hE, hXE2⟩ := wv_append.1 hXE
  rcases h with ⟨h0, ha, hb⟩ | ⟨h0, h1, ha, hb⟩
  · have hh := head_mem h0
    have hl := last_mem h0
    have hab : a ≤ b := by rw [ha, hb]; exact wv_last_le hW _ hh
    refine ⟨hab, ?_⟩
    rw [repl_mid hab]
    · have : repl W a b E = E := by
        unfold repl
        rw [filt_none (l := W) (p := fun e => decide (e.from_ < a)) (fun e he => by have := wv_first_le hW e he; rw [← ha] at this; simp; omega), filt_none (l := W) (p := fun e => decide (b < e.from_)) (fun e he => by have := wv_last_le hW e he; rw [← hb] at this; simp; omega)]
        simp
      rw [this]
    · intro x hx
      have h2 := hXW2 x hx _ hh
      have := (hX.1 x hx).lt
      rw [ha]; omega
    · intro y hy
      have h2 := hXWY _ (List.mem_append_right _ hl) y hy
      have := (hW.1 _ hl).lt
      rw [hb]; omega
  · subst h0
    have hh := head_mem h1
    have hab : a ≤ b := by omega
    refine ⟨hab, ?_⟩
    rw [repl_mid hab]
    · simp [repl]
    · intro x hx
      have h2 := hXE2 x hx _ hh
      have := (hX.1 x hx).lt
      rw [ha]; omega
    · intro y hy
      have h2 := hXEY _ (List.mem_append_right _ hh) y hy
      have := (hE.1 _ hh).lt
      rw [hb, ha]; omega
theorem chg_none {A was B : List Ext} : A ++ was ++ B = A ++ was ++ B := rfl

/-- Of a sector a node says what the kid says under which it stands. -/
theorem say_kids {h : Nat} {ks : List (Tr h)} (hv : WV (flats h ks)) (hn : ∀ k ∈ ks, flat h k ≠ []) (s : Int) (i : Nat) (hi : i = und (keys h ks) s ks.length) {k : Tr h} (hk : ks[i]? = some k) : say (flats h ks) s = say (flat h k) s := by
  have hil : i < ks.length := by
    rcases Nat.lt_or_ge i ks.length with h0 | h0
    · exact h0
    · rw [List.getElem?_eq_none h0] at hk; cases hk
  have hk' : ks[i] = k := by rw [List.getElem?_eq_getElem hil] at hk; exact Option.some.inj hk
  have e1 : ks = ks.take i ++ (k :: ks.drop (i + 1)) := by rw [← hk', List.getElem_cons_drop hil, List.take_append_drop]
  have t1 : say (flats h (ks.take i)) s = (0, 0) := by
    apply say_none
    intro e he
    have := ahead_of hv hn hil e he
    rcases und_key (keys h ks) s ks.length with h2 | h2
    · rw [← hi] at h2; subst h2; simp [flats] at he
    · rw [← hi] at h2; omega
  have t2 : say (flats h (ks.drop (i + 1))) s = (0, 0) := by
    apply say_none
    intro e he
    by_cases h0 : i + 1 < ks.length
    · have := behind_of hv hn h0 e he
      have := und_over (keys h ks) s ks.length (i + 1) (by rw [← hi]; omega) h0
      omega
    · rw [List.drop_eq_nil_of_le (by omega)] at he; simp [flats] at he
  have ho := hv.1
  rw [e1, flats_append, flats_cons] at ho
  conv => lhs; rw [e1]
  rw [flats_append, flats_cons, say_append (fun e he => ho e (List.mem_append_left _ he)), t1, if_pos rfl, say_append (fun e he => ho e (List.mem_append_right _ (List.mem_append_left _ he))), t2]
  by_cases h0 : (say (flat h k) s).1 = 0
  · rw [if_pos h0]; exact (say_hole (fun e he => ho e (List.mem_append_right _ (List.mem_append_left _ he))) h0).1.symm
  · rw [if_neg h0]

/-- Two or more kids: the first and the last one keep what is ahead and behind. -/
theorem repl_two {h : Nat} {a b : Int} {x : Tr h} {m : List (Tr h)} {y : Tr h} (E1 E2 : List Ext) (hx : ∀ e ∈ flat h x, e.from_ ≤ b) (hm : ∀ e ∈ flats h m, a ≤ e.from_ ∧ e.from_ ≤ b) (hy : ∀ e ∈ flat h y, a ≤ e.from_) :
    repl (flats h (x :: (m ++ [y]))) a b (E1 ++ E2) = repl (flat h x) a b E1 ++ repl (flat h y) a b E2 := by
  unfold repl
  rw [flats_cons, flats_append, flats_one]
  simp only [List.filter_append]
  rw [filt_none (l := flats h m) (p := fun e => decide (e.from_ < a)) (fun e he => by have := (hm e he).1; simp; omega), filt_none (l := flat h y) (p := fun e => decide (e.from_ < a)) (fun e he => by have := hy e he; simp; omega), filt_none (l := flats h m) (p := fun e => decide (b < e.from_)) (fun e he => by have := (hm e he).2; simp; omega), filt_none (l := flat h x) (p := fun e => decide (b < e.from_)) (fun e he => by have := hx e he; simp; omega)]
  simp [List.append_assoc]

/-- Into how many parts a list is cut, and where each begins. -/
def cnt (n : Nat) : Nat := (n + 7) / 8
def at' (n i : Nat) : Nat := n * i / cnt n
theorem at_zero (n : Nat) : at' n 0 = 0 := by unfold at'; simp
theorem cnt_pos {n : Nat} (h : 1 ≤ n) : 1 ≤ cnt n := by unfold cnt; omega
theorem at_last {n : Nat} (h : 1 ≤ n) : at' n (cnt n) = n := by unfold at'; exact Nat.mul_div_cancel _ (cnt_pos h)
theorem at_step {n : Nat} (h : 1 ≤ n) (i : Nat) : at' n (i + 1) ≤ at' n i + 8 := by
  unfold at'
  have hc := cnt_pos h
  have : n * (i + 1) ≤ n * i + 8 * cnt n := by rw [Nat.mul_succ]; unfold cnt; omega
  calc n * (i + 1) / cnt n ≤ (n * i + 8 * cnt n) / cnt n := Nat.div_le_div_right this
    _ = n * i / cnt n + 8 := Nat.add_mul_div_right _ _ hc
theorem at_grows {n : Nat} (h : 9 ≤ n) (i : Nat) : at' n i + 4 ≤ at' n (i + 1) := by
  unfold at'
  have hc := cnt_pos (n := n) (by omega)
  have : n * i + 4 * cnt n ≤ n * (i + 1) := by rw [Nat.mul_succ]; unfold cnt; omega
  calc n * i / cnt n + 4 = (n * i + 4 * cnt n) / cnt n := (Nat.add_mul_div_right _ _ hc).symm
    _ ≤ n * (i + 1) / cnt n := Nat.div_le_div_right this
theorem at_mono (n : Nat) {i j : Nat} (h : i ≤ j) : at' n i ≤ at' n j := Nat.div_le_div_right (Nat.mul_le_mul_left _ h)
theorem at_le {n : Nat} (h : 1 ≤ n) {i : Nat} (hi : i ≤ cnt n) : at' n i ≤ n := by
  have := at_mono n hi
  rwa [at_last h] at this
/-- The i-th part. -/
def part {X : Type} (l : List X) (i : Nat) : List X := (l.drop (at' l.length i)).take (at' l.length (i + 1) - at' l.length i)
theorem part_len {X : Type} (l : List X) (i : Nat) (hi : i < cnt l.length) (h : 1 ≤ l.length) : (part l i).length = at' l.length (i + 1) - at' l.length i := by
  unfold part
  have := at_le h (i := i + 1) hi
  rw [List.length_take, List.length_drop]; omega
theorem parts_take {X : Type} (l : List X) (h : 1 ≤ l.length) : ∀ k, k ≤ cnt l.length → (List.range k).flatMap (part l) = l.take (at' l.length k) := by
  intro k
  induction k with
  | zero => intro _; rw [at_zero]; rfl
  | succ k ih =>
    intro hk
    rw [List.range_succ, List.flatMap_append, ih (by omega)]
    simp only [List.flatMap_cons, List.flatMap_nil, List.append_nil]
    have h1 : at' l.length k ≤ at' l.length (k + 1) := at_mono l.length (Nat.le_succ k)
    rw [show at' l.length (k + 1) = at' l.length k + (at' l.length (k + 1) - at' l.length k) from by omega, List.take_add]
    unfold part; rfl
theorem parts_all {X : Type} (l : List X) (h : 1 ≤ l.length) : (List.range (cnt l.length)).flatMap (part l) = l := by
  rw [parts_take l h _ (Nat.le_refl _), at_last h, List.take_length]
theorem part_size {X : Type} (l : List X) (h : 1 ≤ l.length) (i : Nat) (hi : i < cnt l.length) : (9 ≤ l.length → 4 ≤ (part l i).length) ∧ (part l i).length ≤ 8 ∧ (l.length ≤ 8 → part l i = l) := by
  rw [part_len l i hi h]
  refine ⟨fun h9 => ?_, ?_, fun h8 => ?_⟩
  · have := at_grows h9 i; omega
  · have := at_step h i; omega
  · have hc : cnt l.length = 1 := by unfold cnt; omega
    obtain rfl : i = 0 := by omega
    have h1 := at_last h
    rw [hc] at h1
    unfold part
    rw [at_zero, h1]; simp
end Go.Proofs.YtdjlflinepefbabGreat.TR
