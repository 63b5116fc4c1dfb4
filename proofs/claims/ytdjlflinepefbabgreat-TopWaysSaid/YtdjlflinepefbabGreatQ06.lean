/- 3 texts laid together: each says at its head what it proves. No condition but those that each theorem names. -/
import Derived.WalkKit
import Derived.Test.YtdjlflinepefbabGreatQ01
import Derived.Test.YtdjlflinepefbabGreatQ04

/- Plain facts on the bytes of a number, the lowest first: how many, which number they make, and that each number below 256^w has just one such text. No conditions but those that each theorem names. -/
namespace Go.Proofs.YtdjlflinepefbabGreat.FM

/-- The w lowest bytes of n, the lowest first. -/
def fb : Nat → Nat → List UInt8
  | _, 0 => []
  | n, w + 1 => UInt8.ofNat (n % 256) :: fb (n / 256) w
/-- The number of bytes, the lowest first. -/
def val : List UInt8 → Nat
  | [] => 0
  | b :: l => b.toNat + 256 * val l
/-- A list of bytes as a string. -/
def str (l : List UInt8) : ByteArray := ⟨l.toArray⟩

theorem str_toList (l : List UInt8) : (str l).toList = l := by
  rw [ByteArray.toList_eq]; simp [str]
theorem str_size (l : List UInt8) : (str l).size = l.length := by simp [str, ByteArray.size]
theorem str_inj {a b : List UInt8} (h : str a = str b) : a = b := by
  have := congrArg ByteArray.toList h; simpa [str_toList] using this

theorem fb_length (n w : Nat) : (fb n w).length = w := by
  induction w generalizing n with
  | zero => rfl
  | succ w ih => simp [fb, ih]

theorem val_fb (n w : Nat) : val (fb n w) = n % 256 ^ w := by
  induction w generalizing n with
  | zero => simp [fb, val, Nat.mod_one]
  | succ w ih =>
    simp only [fb, val, ih]
    rw [Nat.pow_succ, Nat.mul_comm (256 ^ w) 256, Nat.mod_mul]
    simp

theorem val_lt (l : List UInt8) : val l < 256 ^ l.length := by
  induction l with
  | nil => simp [val]
  | cons b l ih =>
    have := b.toNat_lt
    simp only [val, List.length_cons, Nat.pow_succ]
    omega

theorem fb_val (l : List UInt8) : fb (val l) l.length = l := by
  induction l with
  | nil => rfl
  | cons b l ih =>
    have := b.toNat_lt
    have e1 : val (b :: l) % 256 = b.toNat := by simp only [val]; omega
    have e2 : val (b :: l) / 256 = val l := by simp only [val]; omega
    simp only [List.length_cons, fb, e1, e2, ih]
    simp

theorem fb_snoc (n w : Nat) : fb n (w + 1) = fb n w ++ [UInt8.ofNat (n / 256 ^ w % 256)] := by
  induction w generalizing n with
  | zero => simp [fb]
  | succ w ih =>
    rw [fb, ih (n / 256)]
    simp only [fb, List.cons_append]
    rw [Nat.div_div_eq_div_mul, Nat.pow_succ, Nat.mul_comm 256]

theorem val_append (a b : List UInt8) : val (a ++ b) = val a + 256 ^ a.length * val b := by
  induction a with
  | nil => simp [val]
  | cons x a ih =>
    simp only [List.cons_append, val, ih, List.length_cons, Nat.pow_succ]
    rw [Nat.mul_add, Nat.mul_comm (256 ^ a.length) 256, Nat.mul_assoc]; omega
end Go.Proofs.YtdjlflinepefbabGreat.FM

/- Plain facts on the bytes of nodes: how extents and kids stand in them, which may be a node's. No program. -/
namespace Go.Proofs.YtdjlflinepefbabGreat.LF
open FM EX
set_option linter.unusedVariables false
set_option linter.unusedSimpArgs false

/-- A kid: the first sector, and the page. -/
structure Kid where
  key : Int
  at_ : Int
deriving DecidableEq
instance : Inhabited Kid := ⟨⟨0, 0⟩⟩

/-- The row of an extent, and of a kid. -/
def eB (e : Ext) : List UInt8 := fb e.from_.toNat 3 ++ (fb e.n.toNat 4 ++ (fb e.kind.toNat 1 ++ fb e.at_.toNat 2))
def kB (k : Kid) : List UInt8 := fb k.key.toNat 3 ++ fb k.at_.toNat 2
/-- A node's bytes. -/
def nodeB {T : Type} (row : T → List UInt8) (L : List T) : List UInt8 := fb L.length 1 ++ L.flatMap row
def decE (l : List UInt8) : Ext := ⟨(val (l.take 3) : Nat), (val ((l.drop 3).take 4) : Nat), (val ((l.drop 7).take 1) : Nat), (val ((l.drop 8).take 2) : Nat)⟩
def decK (l : List UInt8) : Kid := ⟨(val (l.take 3) : Nat), (val ((l.drop 3).take 2) : Nat)⟩
/-- The first k things of some bytes, each of so many bytes. -/
def decs {T : Type} (dec : List UInt8 → T) (wd k : Nat) (l : List UInt8) : List T := (List.range k).map fun i => dec (l.drop (wd * i))
theorem decs_zero {T : Type} (dec : List UInt8 → T) (wd : Nat) (l : List UInt8) : decs dec wd 0 l = [] := rfl
theorem decs_snoc {T : Type} (dec : List UInt8 → T) (wd k : Nat) (l : List UInt8) : decs dec wd (k + 1) l = decs dec wd k l ++ [dec (l.drop (wd * k))] := by simp [decs, List.range_succ]
theorem decs_len {T : Type} (dec : List UInt8 → T) (wd k : Nat) (l : List UInt8) : (decs dec wd k l).length = k := by simp [decs]

theorem eB_len (e : Ext) : (eB e).length = 10 := by simp [eB, fb_length]
theorem kB_len (k : Kid) : (kB k).length = 5 := by simp [kB, fb_length]

theorem take_fb (n w : Nat) (r : List UInt8) : (fb n w ++ r).take w = fb n w := by
  have h := fb_length n w
  rw [List.take_append_of_le_length (by omega)]
  exact List.take_of_length_le (by omega)
theorem drop_fb (n w : Nat) (r : List UInt8) : (fb n w ++ r).drop w = r := by
  have h := fb_length n w
  rw [List.drop_append_of_le_length (by omega), List.drop_eq_nil_of_le (by omega)]; rfl
theorem val_of {x : Int} {w : Nat} (h0 : 0 ≤ x) (h : x < ((256 ^ w : Nat) : Int)) : ((val (fb x.toNat w) : Nat) : Int) = x := by
  rw [val_fb, Nat.mod_eq_of_lt (by omega)]; omega
theorem drop_more (l : List UInt8) (a b : Nat) : l.drop (a + b) = (l.drop a).drop b := by rw [List.drop_drop]

/-- Extents and kids that fit their rows. -/
def FitE (e : Ext) : Prop := (0 ≤ e.from_ ∧ e.from_ < 16777216) ∧ (0 ≤ e.n ∧ e.n < 4294967296) ∧ (0 ≤ e.kind ∧ e.kind < 256) ∧ (0 ≤ e.at_ ∧ e.at_ < 65536)
def InK (k : Kid) : Prop := (0 ≤ k.key ∧ k.key ≤ 16777215) ∧ (0 ≤ k.at_ ∧ k.at_ ≤ 2047)
instance (k : Kid) : Decidable (InK k) := by unfold InK; infer_instance
theorem One.fit {e : Ext} (h : One e) : FitE e := by
  obtain ⟨⟨h1, h2, h3⟩, h4⟩ := h
  unfold FitE
  rcases h4 with h4 | h4 <;> omega
theorem One.at_lt {e : Ext} (h : One e) : e.at_ ≤ 2047 := by
  obtain ⟨⟨h1, h2, h3⟩, h4⟩ := h
  rcases h4 with h4 | h4 <;> omega

theorem dec_eB {e : Ext} (h : FitE e) (r : List UInt8) : decE (eB e ++ r) = e := by
  obtain ⟨h1, h2, h3, h4⟩ := h
  have e1 : (eB e ++ r) = fb e.from_.toNat 3 ++ (fb e.n.toNat 4 ++ (fb e.kind.toNat 1 ++ (fb e.at_.toNat 2 ++ r))) := by simp [eB, List.append_assoc]
  have d3 := drop_fb e.from_.toNat 3 (fb e.n.toNat 4 ++ (fb e.kind.toNat 1 ++ (fb e.at_.toNat 2 ++ r)))
  have d7 := drop_more (eB e ++ r) 3 4
  have d8 := drop_more (eB e ++ r) 7 1
  rw [e1] at d7 d8
  rw [d3, drop_fb] at d7
  rw [d7, drop_fb] at d8
  unfold decE
  rw [e1, d3, take_fb, take_fb, d7, take_fb, d8, take_fb, val_of h1.1 (by simpa using h1.2), val_of h2.1 (by simpa using h2.2), val_of h3.1 (by simpa using h3.2), val_of h4.1 (by simpa using h4.2)]
theorem dec_kB {k : Kid} (h : InK k) (r : List UInt8) : decK (kB k ++ r) = k := by
  obtain ⟨h1, h2⟩ := h
  have e1 : (kB k ++ r) = fb k.key.toNat 3 ++ (fb k.at_.toNat 2 ++ r) := by simp [kB, List.append_assoc]
  unfold decK
  rw [e1, drop_fb, take_fb, take_fb, val_of h1.1 (by have := h1.2; simp; omega), val_of h2.1 (by have := h2.2; simp; omega)]

theorem fb_take (l : List UInt8) (w : Nat) (h : w ≤ l.length) : fb (val (l.take w)) w = l.take w := by
  have e : (l.take w).length = w := by rw [List.length_take]; omega
  have := fb_val (l.take w)
  rwa [e] at this
theorem take_split (l : List UInt8) (a b : Nat) : l.take (a + b) = l.take a ++ (l.drop a).take b := List.take_add
theorem eB_dec (l : List UInt8) (h : 10 ≤ l.length) : eB (decE l) = l.take 10 := by
  unfold eB decE
  simp only [Int.toNat_natCast]
  rw [fb_take l 3 (by omega), fb_take (l.drop 3) 4 (by rw [List.length_drop]; omega), fb_take (l.drop 7) 1 (by rw [List.length_drop]; omega), fb_take (l.drop 8) 2 (by rw [List.length_drop]; omega)]
  rw [show (10 : Nat) = 3 + 7 from rfl, take_split l 3 7, show (7 : Nat) = 4 + 3 from rfl, take_split (l.drop 3) 4 3, List.drop_drop, show (3 : Nat) = 1 + 2 from rfl, take_split (l.drop (1 + 2 + 4)) 1 2, List.drop_drop]
theorem kB_dec (l : List UInt8) (h : 5 ≤ l.length) : kB (decK l) = l.take 5 := by
  unfold kB decK
  simp only [Int.toNat_natCast]
  rw [fb_take l 3 (by omega), fb_take (l.drop 3) 2 (by rw [List.length_drop]; omega)]
  rw [show (5 : Nat) = 3 + 2 from rfl, take_split l 3 2]

/-- What stands in so many bytes is put there again as it stood. -/
theorem flat_decs {T : Type} (dec : List UInt8 → T) (row : T → List UInt8) (wd : Nat) (hd : ∀ l : List UInt8, wd ≤ l.length → row (dec l) = l.take wd) (l : List UInt8) :
    ∀ k, wd * k ≤ l.length → (decs dec wd k l).flatMap row = l.take (wd * k) := by
  intro k
  induction k with
  | zero => intro h; simp [decs]
  | succ k ih =>
    intro h
    rw [Nat.mul_succ] at h
    rw [decs_snoc, List.flatMap_append, ih (by omega), Nat.mul_succ, take_split]
    simp only [List.flatMap_cons, List.flatMap_nil, List.append_nil]
    rw [hd _ (by rw [List.length_drop]; omega)]
/-- What was put is what stands there. -/
theorem decs_flat {T : Type} (dec : List UInt8 → T) (row : T → List UInt8) (wd : Nat) (hw : ∀ x, (row x).length = wd) (L : List T) (hd : ∀ x ∈ L, ∀ r, dec (row x ++ r) = x) :
    ∀ r, decs dec wd L.length (L.flatMap row ++ r) = L := by
  induction L with
  | nil => intro r; rfl
  | cons a L ih =>
    intro r
    have h1 := ih (fun x hx => hd x (List.mem_cons_of_mem _ hx)) r
    have e : decs dec wd (a :: L).length ((a :: L).flatMap row ++ r) = dec (row a ++ (L.flatMap row ++ r)) :: decs dec wd L.length (L.flatMap row ++ r) := by
      unfold decs
      rw [List.length_cons, List.range_succ_eq_map, List.map_cons, List.map_map]
      simp only [List.flatMap_cons, List.append_assoc, Nat.mul_zero, List.drop_zero, List.cons.injEq, true_and]
      apply List.map_congr_left
      intro i _
      show dec (List.drop (wd * (i + 1)) _) = _
      rw [Nat.mul_succ, Nat.add_comm, ← List.drop_drop]
      congr 2
      rw [List.drop_append_of_le_length (by rw [hw]; exact Nat.le_refl _), List.drop_eq_nil_of_le (by rw [hw]; exact Nat.le_refl _)]; rfl
    rw [e, h1, hd a List.mem_cons_self]
theorem flat_len {T : Type} (row : T → List UInt8) (wd : Nat) (hw : ∀ x, (row x).length = wd) (L : List T) : (L.flatMap row).length = wd * L.length := by
  induction L with
  | nil => simp
  | cons a L ih => rw [List.flatMap_cons, List.length_append, hw, ih, List.length_cons, Nat.mul_succ]; omega
theorem fb_one (n : Nat) (h : n < 256) : fb n 1 = [UInt8.ofNat n] := by
  simp [fb, Nat.mod_eq_of_lt h]
theorem nodeB_cons {T : Type} (row : T → List UInt8) (L : List T) : nodeB row L = UInt8.ofNat (L.length % 256) :: L.flatMap row := by
  simp [nodeB, fb]
theorem nodeB_len {T : Type} (row : T → List UInt8) (wd : Nat) (hw : ∀ x, (row x).length = wd) (L : List T) : (nodeB row L).length = 1 + wd * L.length := by
  rw [nodeB_cons, List.length_cons, flat_len row wd hw]; omega

/-- Which extents, and which kids, may be a node's. -/
def Leafy (L : List Ext) : Prop := (1 ≤ L.length ∧ L.length ≤ 8) ∧ Valid L
instance (L : List Ext) : Decidable (Leafy L) := by unfold Leafy; infer_instance
/-- May the i-th kid stand behind those ahead of it? -/
def OkAt (K : List Kid) (i : Nat) : Prop := InK (K.getD i default) ∧ (0 < i → (K.getD (i - 1) default).key < (K.getD i default).key) ∧ ∀ j, j < i → (K.getD j default).at_ ≠ (K.getD i default).at_
instance (K : List Kid) (i : Nat) : Decidable (OkAt K i) := by unfold OkAt; infer_instance
def Kids (K : List Kid) : Prop := ∀ i, i < K.length → OkAt K i
instance (K : List Kid) : Decidable (Kids K) := by unfold Kids; infer_instance
def Kidy (K : List Kid) : Prop := (2 ≤ K.length ∧ K.length ≤ 8) ∧ Kids K
instance (K : List Kid) : Decidable (Kidy K) := by unfold Kidy; infer_instance
theorem Kids.ink {K : List Kid} (h : Kids K) : ∀ k ∈ K, InK k := by
  intro k hk
  obtain ⟨i, hi, rfl⟩ := List.mem_iff_getElem.1 hk
  have := (h i hi).1
  rwa [List.getD_eq_getElem?_getD, List.getElem?_eq_getElem hi] at this

/-- What bytes say, as a node of rows of so many bytes that may be. -/
structure Nodes (T : Type) where
  row : T → List UInt8
  dec : List UInt8 → T
  wd : Nat
  ok : List T → Prop
  pos : 0 < wd
  hw : ∀ x, (row x).length = wd
  back : ∀ L, ok L → ∀ x ∈ L, ∀ r, dec (row x ++ r) = x
  put : ∀ l : List UInt8, wd ≤ l.length → row (dec l) = l.take wd
  short : ∀ L, ok L → L.length ≤ 8
def nE : Nodes Ext := ⟨eB, decE, 10, Leafy, by decide, eB_len, fun L h x hx r => dec_eB (One.fit (h.2.1 x hx)) r, eB_dec, fun L h => h.1.2⟩
def nK : Nodes Kid := ⟨kB, decK, 5, Kidy, by decide, kB_len, fun L h x hx r => dec_kB (h.2.ink x hx) r, kB_dec, fun L h => h.1.2⟩

/-- Bytes that say a node: so many as the first one asks for, and what stands there may be. -/
theorem says_iff {T : Type} (X : Nodes T) (s : List UInt8) (L : List T) :
    (X.ok L ∧ nodeB X.row L = s) ↔ ∃ c r, s = c :: r ∧ r.length = X.wd * c.toNat ∧ L = decs X.dec X.wd c.toNat r ∧ X.ok L := by
  constructor
  · rintro ⟨h, rfl⟩
    have h8 := X.short L h
    have hc : (UInt8.ofNat (L.length % 256)).toNat = L.length := by simp; omega
    refine ⟨_, _, nodeB_cons _ _, ?_, ?_, h⟩
    · rw [hc, flat_len X.row X.wd X.hw]
    · rw [hc]
      have := decs_flat X.dec X.row X.wd X.hw L (X.back L h) []
      rw [List.append_nil] at this
      exact this.symm
  · rintro ⟨c, r, rfl, hr, hL, h⟩
    refine ⟨h, ?_⟩
    have hl : L.length = c.toNat := by rw [hL, decs_len]
    have e1 : L.flatMap X.row = r := by
      rw [hL, flat_decs X.dec X.row X.wd X.put r _ (by omega), List.take_of_length_le (by omega)]
    rw [nodeB_cons, e1, hl]
    congr 1
    have := c.toNat_lt
    rw [Nat.mod_eq_of_lt (by omega)]
    simp
theorem says_one {T : Type} (X : Nodes T) {s : List UInt8} {L M : List T} (h1 : X.ok L ∧ nodeB X.row L = s) (h2 : X.ok M ∧ nodeB X.row M = s) : L = M := by
  obtain ⟨c, r, e1, _, e2, _⟩ := (says_iff X s L).1 h1
  obtain ⟨c', r', e1', _, e2', _⟩ := (says_iff X s M).1 h2
  rw [e1] at e1'
  injection e1' with a b
  subst a b
  rw [e2, e2']
end Go.Proofs.YtdjlflinepefbabGreat.LF

/- Rows of kids in memory: one that is read, one of the call's own. No program. -/
namespace Go.Proofs.YtdjlflinepefbabGreat
open Go.RowKit
namespace LF
open MM
set_option linter.unusedVariables false
set_option linter.unusedSimpArgs false

/-- A kid's two cells, from a place on. -/
def Cells2 (w : World) (b o : Nat) (e : Kid) : Prop := w.cell? ⟨b, o, none⟩ = some (.int .i64 e.key) ∧ w.cell? ⟨b, o + 1, none⟩ = some (.int .i64 e.at_)
/-- A slice that reads as a list; nothing is said of an empty one's address. -/
def Kds (w : World) (a : Option Addr) (l : List Kid) : Prop := l = [] ∨ ∃ b off, a = some ⟨b, off, none⟩ ∧ b < w.heap.size ∧ ∀ (i : Nat) (e : Kid), l[i]? = some e → Cells2 w b (off + i * 2) e
theorem Cells2.kept {w w' : World} {b o B : Nat} {e : Kid} (h : Cells2 w b o e) (hb : Below B w w') (hB : b < B) : Cells2 w' b o e := by
  obtain ⟨h0, h1⟩ := h
  exact ⟨(hb.cell (p := ⟨b, o, none⟩) hB).trans h0, (hb.cell (p := ⟨b, o + 1, none⟩) hB).trans h1⟩
theorem Kds.kept {w w' : World} {a : Option Addr} {l : List Kid} {B : Nat} (h : Kds w a l) (hb : Below B w w') (hB : w.heap.size ≤ B) : Kds w' a l := by
  rcases h with h | ⟨b, off, rfl, hlt, hc⟩
  · exact .inl h
  · exact .inr ⟨b, off, rfl, Nat.lt_of_lt_of_le hlt hb.size, fun i e hi => (hc i e hi).kept hb (Nat.lt_of_lt_of_le hlt hB)⟩
theorem Kds.below {w w' : World} {a : Option Addr} {l : List Kid} (h : Kds w a l) (hb : Below w.heap.size w w') : Kds w' a l := h.kept hb (Nat.le_refl _)

def kdCells (l : List Kid) : List Value := l.flatMap fun e => [.int .i64 e.key, .int .i64 e.at_]
theorem kdCells_snoc (l : List Kid) (e : Kid) : kdCells l ++ [.int .i64 e.key, .int .i64 e.at_] = kdCells (l ++ [e]) := by
  simp [kdCells, List.flatMap_append]
theorem kdCells_len (l : List Kid) : (kdCells l).length = l.length * 2 := by
  induction l with
  | nil => rfl
  | cons a l ih =>
    have e : kdCells (a :: l) = .int .i64 a.key :: .int .i64 a.at_ :: kdCells l := by simp [kdCells]
    rw [e]; simp only [List.length_cons]; omega
theorem kdCells_get : ∀ (l : List Kid) (j : Nat) (e : Kid), l[j]? = some e → (kdCells l)[j * 2]? = some (.int .i64 e.key) ∧ (kdCells l)[j * 2 + 1]? = some (.int .i64 e.at_) := by
  intro l
  induction l with
  | nil => intro j p h; simp at h
  | cons a l ih =>
    intro j p h
    have e : kdCells (a :: l) = .int .i64 a.key :: .int .i64 a.at_ :: kdCells l := by simp [kdCells]
    cases j with
    | zero => simp at h; subst h; rw [e]; exact ⟨rfl, rfl⟩
    | succ j =>
      rw [List.getElem?_cons_succ] at h
      have := ih j p h
      rw [e, show (j + 1) * 2 = j * 2 + 1 + 1 from by omega]
      simpa using this
/-- A row of the call's own reads as its list. -/
theorem own_kds {w : World} {base : Nat} {e : TypeId} {v : Value} {l : List Kid} (h : w.ownsRow base e 2 v l.length (kdCells l)) :
    ∃ A c, v = .slice A l.length c ∧ Kds w A l := by
  rcases h.2 with ⟨hv, h0⟩ | ⟨g, cap, cur, hv, hg, hh, r⟩
  · refine ⟨none, 0, by rw [hv, h0], .inl (List.eq_nil_of_length_eq_zero h0)⟩
  · refine ⟨_, _, hv, .inr ⟨g, 0, rfl, (Array.getElem?_eq_some_iff.1 hh).1, fun i x hi => ?_⟩⟩
    have cell : ∀ j u, (kdCells l)[j]? = some u → w.cell? ⟨g, j, none⟩ = some u := by
      intro j u hu
      have := h.cells (g := g) (by rw [hv]; rfl) j u hu
      rwa [show (⟨g, 0, none⟩ : Addr).add j = ⟨g, j, none⟩ from by unfold Addr.add; split <;> simp_all] at this
    obtain ⟨e0, e1⟩ := kdCells_get l i x hi
    rw [Nat.zero_add]
    exact ⟨cell _ _ e0, cell _ _ e1⟩
theorem kds_get {w : World} {A : Option Addr} {l : List Kid} (h : Kds w A l) {k : Nat} {x : Kid} (hx : l[k]? = some x) : ∃ b off, A = some ⟨b, off, none⟩ ∧ b < w.heap.size ∧ ∀ (i : Nat) (x : Kid), l[i]? = some x → Cells2 w b (off + i * 2) x := by
  rcases h with rfl | ⟨b, off, hA, hb, hc⟩
  · simp at hx
  · exact ⟨b, off, hA, hb, hc⟩
end LF
end Go.Proofs.YtdjlflinepefbabGreat
