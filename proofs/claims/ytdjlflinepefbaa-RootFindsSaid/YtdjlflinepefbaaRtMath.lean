/- Plain facts on root records: which may be, their bytes, how bytes are read. A namespace is four numbers (its number, its size, its top, its height), written as an extent's four. No program. -/
import Derived.Test.YtdjlflinepefbaaLfMath
namespace Go.Proofs.Ytdjlflinepefbaa.RT
open FM EX LF
set_option linter.unusedVariables false
set_option linter.unusedSimpArgs false

/-- A namespace but for its number. -/
def SpRest (e : Ext) : Prop := (0 ≤ e.n ∧ e.n ≤ 16777216) ∧ (0 ≤ e.at_ ∧ e.at_ ≤ 6) ∧ ((e.at_ = 0 ∧ e.kind = -1) ∨ (e.at_ ≠ 0 ∧ 0 ≤ e.kind ∧ e.kind ≤ 2047))
instance (e : Ext) : Decidable (SpRest e) := by unfold SpRest; infer_instance
/-- The number of the namespace ahead. -/
def lst (L : List Ext) : Nat → Int
  | 0 => 0
  | k + 1 => (L.getD k Ext.zero).from_
def OkAt (L : List Ext) (k : Nat) : Prop := (lst L k + 1 ≤ (L.getD k Ext.zero).from_ ∧ (L.getD k Ext.zero).from_ ≤ 65535) ∧ SpRest (L.getD k Ext.zero)
instance (L : List Ext) (k : Nat) : Decidable (OkAt L k) := by unfold OkAt; infer_instance
def Spaces (L : List Ext) : Prop := L.length ≤ 8 ∧ ∀ k, k < L.length → OkAt L k
instance (L : List Ext) : Decidable (Spaces L) := by unfold Spaces; infer_instance
/-- Which generation and namespaces may be a root record. -/
def Recd (gen : Int) (L : List Ext) : Prop := (0 ≤ gen ∧ gen ≤ 1099511627775) ∧ Spaces L
instance (gen : Int) (L : List Ext) : Decidable (Recd gen L) := by unfold Recd; infer_instance
theorem getD_at {L : List Ext} {k : Nat} {e : Ext} (h : L[k]? = some e) : L.getD k Ext.zero = e := by rw [List.getD_eq_getElem?_getD, h]; rfl
theorem lst_succ {L : List Ext} {k : Nat} {e : Ext} (h : L[k]? = some e) : lst L (k + 1) = e.from_ := by
  show (L.getD k Ext.zero).from_ = _
  rw [getD_at h]
theorem ok_at {L : List Ext} {k : Nat} {e : Ext} (h : L[k]? = some e) : OkAt L k ↔ (lst L k + 1 ≤ e.from_ ∧ e.from_ ≤ 65535) ∧ SpRest e := by
  unfold OkAt; rw [getD_at h]
theorem lst_low {L : List Ext} : ∀ k, (∀ i, i < k → OkAt L i) → 0 ≤ lst L k ∧ lst L k ≤ 65535
  | 0, _ => by show (0 : Int) ≤ 0 ∧ (0 : Int) ≤ 65535; omega
  | k + 1, h => by
    have h1 := lst_low k (fun i hi => h i (by omega))
    have h2 := (h k (by omega)).1
    show 0 ≤ (L.getD k Ext.zero).from_ ∧ _
    exact ⟨by omega, h2.2⟩
theorem Spaces.id {L : List Ext} (h : Spaces L) {k : Nat} {e : Ext} (he : L[k]? = some e) : 1 ≤ e.from_ ∧ e.from_ ≤ 65535 := by
  have hk : k < L.length := by
    rcases Nat.lt_or_ge k L.length with h | h
    · exact h
    · rw [List.getElem?_eq_none h] at he; cases he
  have h1 := (lst_low (L := L) k (fun i hi => h.2 i (by omega))).1
  have h2 := ((ok_at he).1 (h.2 k hk)).1
  exact ⟨by omega, h2.2⟩
theorem Spaces.rest {L : List Ext} (h : Spaces L) {k : Nat} {e : Ext} (he : L[k]? = some e) : SpRest e := by
  have hk : k < L.length := by
    rcases Nat.lt_or_ge k L.length with h | h
    · exact h
    · rw [List.getElem?_eq_none h] at he; cases he
  exact ((ok_at he).1 (h.2 k hk)).2

/-- The row of a namespace, and a record's bytes. -/
def sB (e : Ext) : List UInt8 := fb e.from_.toNat 2 ++ (fb e.n.toNat 4 ++ (fb e.kind.toNat 2 ++ fb e.at_.toNat 1))
def headB (gen : Int) (n : Nat) : List UInt8 := fb gen.toNat 5 ++ fb n 1
def recB (gen : Int) (L : List Ext) : List UInt8 := headB gen L.length ++ L.flatMap sB
def decS (l : List UInt8) : Ext := ⟨(val (l.take 2) : Nat), (val ((l.drop 2).take 4) : Nat), if val ((l.drop 8).take 1) = 0 ∧ val ((l.drop 6).take 2) = 0 then -1 else (val ((l.drop 6).take 2) : Nat), (val ((l.drop 8).take 1) : Nat)⟩
theorem sB_len (e : Ext) : (sB e).length = 9 := by simp [sB, fb_length]
theorem headB_len (g : Int) (n : Nat) : (headB g n).length = 6 := by simp [headB, fb_length]
theorem recB_len (g : Int) (L : List Ext) : (recB g L).length = 6 + 9 * L.length := by
  unfold recB; rw [List.length_append, headB_len, flat_len sB 9 sB_len]

/-- Namespaces that fit their rows. -/
def FitS (e : Ext) : Prop := (0 ≤ e.from_ ∧ e.from_ < 65536) ∧ (0 ≤ e.n ∧ e.n < 4294967296) ∧ (0 ≤ e.at_ ∧ e.at_ < 256) ∧ ((e.at_ = 0 ∧ e.kind = -1) ∨ (e.at_ ≠ 0 ∧ 0 ≤ e.kind ∧ e.kind < 65536))
theorem Spaces.fit {L : List Ext} (h : Spaces L) : ∀ e ∈ L, FitS e := by
  intro e he
  obtain ⟨k, hk⟩ := List.mem_iff_getElem?.1 he
  have h1 := h.id hk
  obtain ⟨h2, h3, h4⟩ := h.rest hk
  unfold FitS
  refine ⟨⟨by omega, by omega⟩, ⟨by omega, by omega⟩, ⟨by omega, by omega⟩, ?_⟩
  rcases h4 with h4 | h4
  · exact .inl h4
  · exact .inr ⟨h4.1, h4.2.1, by omega⟩
theorem dec_sB {e : Ext} (h : FitS e) (r : List UInt8) : decS (sB e ++ r) = e := by
  obtain ⟨h1, h2, h3, h4⟩ := h
  have e1 : (sB e ++ r) = fb e.from_.toNat 2 ++ (fb e.n.toNat 4 ++ (fb e.kind.toNat 2 ++ (fb e.at_.toNat 1 ++ r))) := by simp [sB, List.append_assoc]
  have d3 := drop_fb e.from_.toNat 2 (fb e.n.toNat 4 ++ (fb e.kind.toNat 2 ++ (fb e.at_.toNat 1 ++ r)))
  have d7 := drop_more (sB e ++ r) 2 4
  have d8 := drop_more (sB e ++ r) 6 2
  rw [e1] at d7 d8
  rw [d3, drop_fb] at d7
  rw [d7, drop_fb] at d8
  unfold decS
  rw [e1, d3, take_fb, take_fb, d7, take_fb, d8, take_fb, val_of h1.1 (by simpa using h1.2), val_of h2.1 (by simpa using h2.2), val_of h3.1 (by simpa using h3.2)]
  obtain ⟨i, n, t, a⟩ := e
  simp only at h3 h4 ⊢
  rcases h4 with ⟨rfl, rfl⟩ | ⟨ha, hk⟩
  · rfl
  · have hv : val (fb a.toNat 1) = a.toNat := by rw [val_fb, Nat.mod_eq_of_lt (by omega)]
    rw [if_neg (by rw [hv]; omega), val_of hk.1 (by simpa using hk.2)]
theorem sB_dec (l : List UInt8) (h : 9 ≤ l.length) : sB (decS l) = l.take 9 := by
  have hk : ((decS l).kind).toNat = val ((l.drop 6).take 2) := by
    unfold decS
    simp only
    split
    · rename_i h; rw [h.2]; rfl
    · exact Int.toNat_natCast _
  unfold sB
  rw [hk]
  unfold decS
  simp only [Int.toNat_natCast]
  rw [fb_take l 2 (by omega), fb_take (l.drop 2) 4 (by rw [List.length_drop]; omega), fb_take (l.drop 6) 2 (by rw [List.length_drop]; omega), fb_take (l.drop 8) 1 (by rw [List.length_drop]; omega)]
  rw [show (9 : Nat) = 2 + 7 from rfl, take_split l 2 7, show (7 : Nat) = 4 + 3 from rfl, take_split (l.drop 2) 4 3, List.drop_drop, show (3 : Nat) = 2 + 1 from rfl, take_split (l.drop (2 + 4)) 2 1, List.drop_drop]

/-- Bytes that say a record. -/
def Says (s : List UInt8) (gen : Int) (L : List Ext) : Prop := Recd gen L ∧ recB gen L = s
/-- The record that bytes ask for. -/
def genOf (s : List UInt8) : Nat := val (s.take 5)
def cntOf (s : List UInt8) : Nat := val ((s.drop 5).take 1)
theorem head_gen {g : Int} (n : Nat) (h0 : 0 ≤ g) (h : g ≤ 1099511627775) (r : List UInt8) : ((genOf (headB g n ++ r) : Nat) : Int) = g := by
  unfold genOf headB
  rw [List.append_assoc, take_fb, val_of h0 (by simp; omega)]
theorem head_cnt (g : Int) {n : Nat} (h : n < 256) (r : List UInt8) : cntOf (headB g n ++ r) = n := by
  unfold cntOf headB
  rw [List.append_assoc, drop_fb, take_fb, val_fb, Nat.mod_eq_of_lt (by omega)]
theorem head_drop (g : Int) (n : Nat) (r : List UInt8) : (headB g n ++ r).drop 6 = r := by
  unfold headB
  rw [List.append_assoc, show 6 = 5 + 1 from rfl, drop_more, drop_fb, drop_fb]
theorem head_back (s : List UInt8) (h : 6 ≤ s.length) : headB (genOf s : Nat) (cntOf s) = s.take 6 := by
  unfold headB genOf cntOf
  rw [Int.toNat_natCast, fb_take s 5 (by omega), fb_take (s.drop 5) 1 (by rw [List.length_drop]; omega), show (6 : Nat) = 5 + 1 from rfl, take_split s 5 1]
theorem says_iff (s : List UInt8) (gen : Int) (L : List Ext) :
    Says s gen L ↔ 6 ≤ s.length ∧ (s.drop 6).length = 9 * cntOf s ∧ L = decs decS 9 (cntOf s) (s.drop 6) ∧ gen = (genOf s : Nat) ∧ Recd gen L := by
  constructor
  · rintro ⟨h, rfl⟩
    have h8 := h.2.1
    have hc : cntOf (recB gen L) = L.length := head_cnt gen (by omega) _
    have hd : (recB gen L).drop 6 = L.flatMap sB := head_drop _ _ _
    refine ⟨by rw [recB_len]; omega, ?_, ?_, (head_gen _ h.1.1 h.1.2 _).symm, h⟩
    · rw [hd, hc, flat_len sB 9 sB_len]
    · rw [hd, hc]
      have := decs_flat decS sB 9 sB_len L (fun x hx r => dec_sB (h.2.fit x hx) r) []
      rw [List.append_nil] at this
      exact this.symm
  · rintro ⟨h6, hr, hL, hg, h⟩
    refine ⟨h, ?_⟩
    have hl : L.length = cntOf s := by rw [hL, decs_len]
    have e1 : L.flatMap sB = s.drop 6 := by
      rw [hL, flat_decs decS sB 9 sB_dec (s.drop 6) _ (by omega), List.take_of_length_le (by omega)]
    unfold recB
    rw [e1, hl, hg, head_back s h6, List.take_append_drop]
theorem says_one {s : List UInt8} {g g' : Int} {L M : List Ext} (h1 : Says s g L) (h2 : Says s g' M) : g = g' ∧ L = M := by
  obtain ⟨_, _, e1, e2, _⟩ := (says_iff s g L).1 h1
  obtain ⟨_, _, e1', e2', _⟩ := (says_iff s g' M).1 h2
  exact ⟨by rw [e2, e2'], by rw [e1, e1']⟩
theorem says_len {s : List UInt8} {g : Int} {L : List Ext} (h : Says s g L) : s.length = 6 + 9 * L.length ∧ L.length ≤ 8 := by
  obtain ⟨h1, rfl⟩ := h
  exact ⟨recB_len _ _, h1.2.1⟩
/-- Two records have the same bytes just if they are the same. -/
theorem rec_inj {g g' : Int} {L M : List Ext} (h1 : Recd g L) (h2 : Recd g' M) : recB g L = recB g' M ↔ g = g' ∧ L = M := by
  constructor
  · intro h
    exact says_one (s := recB g L) ⟨h1, rfl⟩ ⟨h2, h.symm⟩
  · rintro ⟨rfl, rfl⟩; rfl
end Go.Proofs.Ytdjlflinepefbaa.RT
