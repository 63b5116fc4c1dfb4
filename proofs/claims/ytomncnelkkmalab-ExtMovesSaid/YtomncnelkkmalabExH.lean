/- What scorialaw07.holds answers where a list says what it must. No condition but those that each theorem names. -/
import Derived.Test.YtomncnelkkmalabExR4
import Derived.Laws.AppendOwnNone
namespace Go.Proofs.Ytomncnelkkmalab
open Go.RowKit
namespace EX
open MM
set_option linter.unusedVariables false
set_option linter.unusedSimpArgs false

/-- What is wanted of a sector, in a block of its own. -/
structure Hd (wa : World) (X : Nat) (T1 T2 : Int) (w' : World) : Prop where
  blk : Blk w' X 43 #[.int .i64 T1, .int .i64 T2]
  le : wa.heap.size ≤ X
  bel : Below wa.heap.size wa w'
theorem Hd.below {wa : World} {X : Nat} {T1 T2 : Int} {w1 w2 : World} (h : Hd wa X T1 T2 w1) (hb : Below w1.heap.size w1 w2) : Hd wa X T1 T2 w2 :=
  ⟨h.blk.below hb h.blk.lt, h.le, h.bel.trans (hb.mono (Nat.le_trans h.le (Nat.le_of_lt h.blk.lt)))⟩
theorem hd_s {wa : World} {X : Nat} {T1 T2 : Int} {w' : World} (h : Hd wa X T1 T2 w') : w'.cell? ⟨X, 0, none⟩ = some (.int .i64 T1) ∧ w'.cell? ⟨X, 1, none⟩ = some (.int .i64 T2) ∧ Hd wa X T1 T2 w' := ⟨h.blk.cell 0, h.blk.cell 1, h⟩
theorem hd_of {wa : World} {X : Nat} {T1 T2 : Int} {w' : World} (h : w'.cell? ⟨X, 0, none⟩ = some (.int .i64 T1) ∧ w'.cell? ⟨X, 1, none⟩ = some (.int .i64 T2) ∧ Hd wa X T1 T2 w') : Hd wa X T1 T2 w' := h.2.2
theorem ins_app {w : World} {base : Nat} {e : TypeId} {v : Value} {l : List Int} (h : w.ownsRow base e 1 v l.length (inCells l)) : ∃ A c, v = .slice A l.length c ∧ Ins w A l := by
  obtain ⟨A, c, h1, _, h3⟩ := own_ins h
  exact ⟨A, c, h1, h3⟩

theorem wpList_append_both {P : Program} {w : World} {ops : Array Oper} {rest : List Oper} {o : Oper} {a : Act} {Q : Exit → Act → World → Prop} (hgd : o.guard = none) (s x : Operand) (t : TypeId)
    (ho : o.op = .call { callee := .builtin .append, args := #[s, x], argTypes := #[t, t] }) (base : Nat) (e : TypeId) (i : TypeInfo) (z : Value) (bytes : Nat) (ht : P.underlying t = some (.slice e)) (hi : P.info? e = some i) (hz : i.zero = some z)
    (hsize : i.size = 1) (hby : i.bytes = bytes) (hzs : z.cells.size = 1) (v : Value) (n : Nat) (xs : List Value) (hs : a.eval s = v) (hown : w.ownsRow base e 1 v n xs)
    (v2 : Value) (m : Nat) (news : List Value) (base2 : Nat) (hx : a.eval x = v2) (hown2 : w.ownsRow base2 e 1 v2 m news) (h1 : ∀ u ∈ news, u.oneCell' = true) (h63 : n + m ≤ maxLen) (hbytes : (n + m) * bytes ≤ 140737488355328) (hbase : base ≤ w.heap.size)
    (h : ∀ v' w', w'.ownsRow base e 1 v' (n + m) (xs ++ news) → w.grownBy w' v.ownBlock → wpList P ops Q rest (a.put o.dst v') w') : wpList P ops Q (o :: rest) a w := by
  rcases hown2.2 with ⟨rfl, h0⟩ | ⟨g, cap, cur, rfl, _⟩
  · have hn : news = [] := List.eq_nil_of_length_eq_zero (by rw [hown2.1, h0, Nat.zero_mul])
    subst hn h0
    exact wpList_append_own_none hgd s x t ho base e i 1 ht hi v n xs hs hown hx (h v w (by rw [List.append_nil]; exact hown) ⟨rfl, rfl, rfl, Nat.le_refl _, fun _ _ _ => rfl⟩)
  · exact wpList_append_own w hgd s x t ho base e i z 1 bytes ht hi hz hsize hby hzs (by decide) v n xs hs hown ⟨g, 0, none⟩ m cap news hx hown2.1 (hown2.cells (g := g) rfl) h1 h63 hbytes hbase (fun v' w' h2 h3 _ => h v' w' h2 h3)
def marks (O L : List Ext) (f n : Int) : List Int := edges O ++ edges L ++ [f - 1, f, f + n - 1, f + n, 0, 16777215, 16777216]
theorem marks_len (O L : List Ext) (f n : Int) : (marks O L f n).length = O.length * 4 + L.length * 4 + 7 := by simp [marks, edges_len]; omega
theorem marks_bound {O L : List Ext} {f n : Int} (hO : ∀ e ∈ O, One e) (hL : ∀ e ∈ L, One e) (h0 : 0 ≤ f) (h1 : 0 ≤ n) (h2 : n ≤ 16777216 - f) : ∀ x ∈ marks O L f n, -1 ≤ x ∧ x ≤ 16777216 := by
  intro x hx
  unfold marks at hx
  rcases List.mem_append.1 hx with hx | hx
  · rcases List.mem_append.1 hx with hx | hx
    · exact edges_bound hO x hx
    · exact edges_bound hL x hx
  · simp at hx; omega

set_option maxHeartbeats 4000000 in
theorem holds_yes (O L I B : List Ext) (lo co ll cl li ci lb cb : Nat) (h1 : lo = O.length) (h2 : ll = L.length) (h3 : li = I.length) (h4 : lb = B.length) (m1 : lo ≤ 1000) (m2 : ll ≤ 1000) (m3 : li ≤ 1000) (m4 : lb ≤ 1000)
    (ao al ai ab : Option Addr) (f n : Int) (g0 : 0 ≤ f) (g1 : 0 ≤ n) (g2 : n ≤ 16777216 - f) (w : World) (r1 : Exs w ao O) (r2 : Exs w al L) (r3 : Exs w ai I) (r4 : Exs w ab B)
    (hO : Valid O) (hL : ∀ e ∈ L, One e) (hI : ∀ e ∈ I, One e) (hB : ∀ e ∈ B, One e) (hs : ∀ s, say O s = if f ≤ s ∧ s < f + n then say I s else say B s) :
    Calls Try.prog 21 #[.slice ao lo co, .slice al ll cl, .int .i64 f, .int .i64 n, .slice ai li ci, .slice ab lb cb] w fun r w' => r = .returned (.bool true) ∧ Below w.heap.size w w' := by
  obtain ⟨i0, hi, hz0, hz1, hz2⟩ := info_parts info_int
  have R1 := Lib.hid r1
  have R2 := Lib.hid r2
  have R3 := Lib.hid r3
  have R4 := Lib.hid r4
  have H1 := Lib.hid h1
  have H2 := Lib.hid h2
  have H3 := Lib.hid h3
  have H4 := Lib.hid h4
  have HO := Lib.hid hO
  have HL := Lib.hid hL
  have HI := Lib.hid hI
  have HB := Lib.hid hB
  have HS := Lib.hid hs
  have e1 : IntKind.i64.wrap (f - 1) = f - 1 := IntWalk.i64_in _ (by omega)
  have e2 : IntKind.i64.wrap (f + n) = f + n := IntWalk.i64_in _ (by omega)
  have e3 : IntKind.i64.wrap (f + n - 1) = f + n - 1 := IntWalk.i64_in _ (by omega)
  clear r1 r2 r3 r4 h1 h2 h3 h4 hO hL hI hB hs
  go_enter Try.func21, Try.ntmps21
  go_wp2_with fail
  refine (refs_any O lo co H1.out (by omega) ao w R1.out).mono ?_
  rintro r w1 ⟨A1, n1, c1, rfl, hn1, hx1, hb1⟩
  have N1 := Lib.hid hn1
  have hm1 : n1 ≤ 1000 := by rw [hn1, ← H1.out]; exact m1
  have HC1 := Lib.hid (rcheck_any O n1 c1 hn1 (by unfold maxLen; omega) A1 w1 hx1)
  rw [decide_eq_true HO.out] at HC1
  have B1 := Lib.hid hb1
  clear hn1 hx1 hb1
  go_wp2_with fail
  refine HC1.out.mono ?_
  rintro r w2 ⟨rfl, hb2⟩
  have B2 := Lib.hid (below_kept B1.out hb2)
  clear hb2 HC1
  go_wp2_with fail
  refine (refs_any O lo co H1.out (by omega) ao w2 (R1.out.below B2.out)).mono ?_
  rintro r w3 ⟨A3, n3, c3, rfl, hn3, hx3, hb3⟩
  have hm3 : n3 ≤ 1000 := by rw [hn3, ← H1.out]; exact m1
  have HE3 := Lib.hid (edges_any O n3 c3 hn3 (by omega) A3 w3 hx3 HO.out.1)
  have B3 := Lib.hid (below_kept B2.out hb3)
  clear hn3 hx3 hb3
  go_wp2_with fail
  refine HE3.out.mono ?_
  rintro r w4 ⟨v4, rfl, own4, hb4⟩
  have O4 := Lib.hid (own_base own4 B3.out.size)
  have B4 := Lib.hid (below_kept B3.out hb4)
  clear own4 hb4 HE3
  go_wp2_with fail
  refine (refs_any L ll cl H2.out (by omega) al w4 (R2.out.below B4.out)).mono ?_
  rintro r w5 ⟨A5, n5, c5, rfl, hn5, hx5, hb5⟩
  have hm5 : n5 ≤ 1000 := by rw [hn5, ← H2.out]; exact m2
  have HE5 := Lib.hid (edges_any L n5 c5 hn5 (by omega) A5 w5 hx5 HL.out)
  have O5 := Lib.hid (own_kept O4.out hb5)
  have B5 := Lib.hid (below_kept B4.out hb5)
  clear hn5 hx5 hb5 O4
  go_wp2_with fail
  refine HE5.out.mono ?_
  rintro r w6 ⟨v6, rfl, own6, hb6⟩
  have O6 := Lib.hid (own_kept O5.out hb6)
  have P6 := Lib.hid own6
  have B6 := Lib.hid (below_kept B5.out hb6)
  have hl4 : (edges O).length ≤ 4000 := by rw [edges_len, ← H1.out]; omega
  have hl6 : (edges L).length ≤ 4000 := by rw [edges_len, ← H2.out]; omega
  obtain ⟨N4, hN4⟩ : ∃ N, N = (edges O).length := ⟨_, rfl⟩
  obtain ⟨N6, hN6⟩ : ∃ N, N = (edges L).length := ⟨_, rfl⟩
  rw [← hN4] at O6 hl4
  rw [← hN6] at P6 hl6
  have HN4 := Lib.hid hN4
  have HN6 := Lib.hid hN6
  clear own6 hb6 HE5 O5 hN4 hN6
  obtain ⟨A4, k4, rfl⟩ := own_slice O6.out
  obtain ⟨v6', hv6⟩ : ∃ v, v = v6 := ⟨_, rfl⟩
  go_wp2_with (at_builtin; refine wpList_append_both rfl _ _ 67 rfl w.heap.size 3 i0 (.int .i64 0) 8 Try.underlying67 hi hz0 hz1 hz2 rfl _ _ _ rfl O6.out _ N6 (inCells (edges L)) w5.heap.size rfl P6.out (by intro u hu; simp [inCells] at hu; obtain ⟨x, _, rfl⟩ := hu; rfl) (by unfold maxLen; omega) (by omega) (B6.out.size) ?_)
  intro v7 w7 own7 hgrow7
  have O7 : Hid (w7.ownsRow w.heap.size 3 1 v7 (N4 + N6) (inCells (edges O ++ edges L))) := by
    show World.ownsRow _ _ _ _ _ _ _
    have e9 : inCells (edges O ++ edges L) = inCells (edges O) ++ inCells (edges L) := by simp [inCells]
    rw [e9]; exact own7
  have B7 := Lib.hid (B6.out.grown hgrow7 B6.out.size (fun j hj => (O6.out.lt j hj).1))
  obtain ⟨A7, k7, rfl⟩ := own_slice O7.out
  clear own7 hgrow7 hv6 v6'
  obtain ⟨wv, hwv⟩ : ∃ wv : World, wv = w7 := ⟨_, rfl⟩
  go_wp2_with (at_builtin; refine wpList_append_own _ rfl _ _ 67 rfl w.heap.size 3 i0 (.int .i64 0) 1 8 Try.underlying67 hi hz0 hz1 hz2 rfl (by decide) _ _ _ rfl (O7.out.alloc _) ⟨w7.heap.size, 0, none⟩ 7 7 [.int .i64 (f - 1), .int .i64 f, .int .i64 (f + n - 1), .int .i64 (f + n), .int .i64 0, .int .i64 16777215, .int .i64 16777216] rfl rfl (new_cells _ _ _) (by intro u hu; simp at hu; rcases hu with rfl | rfl | rfl | rfl | rfl | rfl | rfl <;> rfl) (by unfold maxLen; omega) (by omega) (by have := B7.out.size; simp; omega) ?_)
  intro v8 w8 own8 hgrow8 _
  have O8 : w8.ownsRow w.heap.size 3 1 v8 (marks O L f n).length (inCells (marks O L f n)) := by
    rw [marks_len]
    have e10 : O.length * 4 + L.length * 4 + 7 = N4 + N6 + 7 := by have h5 := edges_len O; have h6 := edges_len L; have h7 := HN4.out; have h8 := HN6.out; omega
    rw [e10]
    have e11 : inCells (marks O L f n) = inCells (edges O ++ edges L) ++ [.int .i64 (f - 1), .int .i64 f, .int .i64 (f + n - 1), .int .i64 (f + n), .int .i64 0, .int .i64 16777215, .int .i64 16777216] := by simp [marks, inCells]
    rw [e11]; exact own8
  have B8 := Lib.hid ((B7.out.alloc B7.out.size _).grown hgrow8 (by have := B7.out.size; simp; omega) (fun j hj => (O7.out.lt j hj).1))
  obtain ⟨A8, k8, rfl, hx8⟩ := ins_app O8
  obtain ⟨N, hN⟩ : ∃ N, N = (marks O L f n).length := ⟨_, rfl⟩
  rw [← hN]
  have hN9 : N ≤ 9000 := by rw [hN, marks_len, ← H1.out, ← H2.out]; omega
  have X8 := Lib.hid hx8
  have HN := Lib.hid hN
  clear own8 hgrow8 O8 hx8 hN hwv wv
  go_wp2
  go_loopw [14, 15, 16] (fun i _ _ wr => ∃ k : Nat, k ≤ N ∧ i = .int .i64 k ∧ Below w8.heap.size w8 wr) (fun i _ _ _ => N - (intOf i).toNat)
  case atStart => exact ⟨0, Nat.zero_le _, rfl, Below.refl _ _⟩
  case round =>
    obtain ⟨k, hk, rfl, hbel⟩ := hrel
    have BL := Lib.hid hbel
    have BW := Lib.hid (below_kept B8.out hbel)
    by_cases hlt : k < N
    · obtain ⟨s, hsk⟩ : ∃ s, (marks O L f n)[k]? = some s := ⟨_, List.getElem?_eq_getElem (by rw [← HN.out]; exact hlt)⟩
      obtain ⟨s0, s1⟩ := marks_bound HO.out.1 HL.out g0 g1 g2 s (List.mem_of_getElem? hsk)
      rcases X8.out with h0 | ⟨b, off, rfl, hb, hc⟩
      · rw [h0] at hsk; simp at hsk
      · have q0 := (hbel.cell (p := ⟨b, off + k, none⟩) hb).trans (hc k s hsk)
        obtain ⟨T1, T2, hT⟩ : ∃ T1 T2, say O s = (T1, T2) := ⟨_, _, rfl⟩
        obtain ⟨U1, U2, hU⟩ : ∃ U1 U2, say B s = (U1, U2) := ⟨_, _, rfl⟩
        have hsay := HS.out s
        have HFB := Lib.hid (rfind_any B lb cb H4.out (by omega) ab s wr (R4.out.below BW.out) HB.out (by omega))
        rw [hU] at HFB
        have HT := Lib.hid hT
        have HFO : Hid (∀ (w1 : World) (A : Option Addr) (n1 c1 : Nat), n1 = O.length → Exs w1 A O → Calls Try.prog 43 #[.slice A n1 c1, .int .i64 s] w1 fun r w' => r = .returned (.agg #[.int .i64 T1, .int .i64 T2]) ∧ Below w1.heap.size w1 w') := Lib.hid fun w1 A n1 c1 h5 h6 => by have h7 := rfind_any O n1 c1 h5 (by rw [h5, ← H1.out]; omega) A s w1 h6 HO.out.1 (by omega); rw [HT.out] at h7; exact h7
        have t1 : (k : Int) < (N : Int) := by omega
        have t2 : (0 : Int) ≤ (k : Int) := by omega
        have u3 : IntKind.i64.wrap (s - f) = s - f := IntWalk.i64_in _ (by omega)
        have HBO := Lib.hid (fun w1 (h : Below w.heap.size w w1) => refs_any O lo co H1.out (by omega) ao w1 (R1.out.below h))
        have HBB : Hid (Below w.heap.size w w8) := B8
        clear hc hsk hT hbel
        by_cases c1 : f ≤ s
        · have d1 : decide (f ≤ s) = true := decide_eq_true c1
          by_cases c2 : s - f < n
          · have d2 : decide (s - f < n) = true := decide_eq_true c2
            rw [if_pos ⟨c1, by omega⟩, HT.out] at hsay
            have HFI := Lib.hid (fun w1 (h : Below w.heap.size w w1) => rfind_any I li ci H3.out (by omega) ai s w1 (R3.out.below h) HI.out (by omega))
            rw [← hsay] at HFI
            clear hU hsay
            go_wp2_with fail
            refine HFB.out.mono ?_
            rintro r w9 ⟨rfl, hb9⟩
            have B9 := Lib.hid (below_kept BL.out hb9)
            clear hb9 HFB
            go_wp2_with fail
            refine (HFI.out _ (below_kept HBB.out ((B9.out).trans ((below_box w9 _).mono B9.out.size)))).mono ?_
            rintro r w10 ⟨rfl, hb10⟩
            have hz : Blk w10 w9.heap.size 43 #[.int .i64 U1, .int .i64 U2] := (Blk.new w9 _ _).below hb10 (Blk.new w9 43 #[.int .i64 U1, .int .i64 U2]).lt
            have hb910 : Below w9.heap.size w9 w10 := (below_box w9 _).trans (hb10.mono (by simp))
            obtain ⟨z0, z1⟩ : _ ∧ _ := ⟨hz.cell 0, hz.cell 1⟩
            obtain ⟨y0, y1⟩ : _ ∧ _ := ⟨hz.frozen 0, hz.frozen 1⟩
            have BK := Lib.hid (stored2 hz (.int .i64 T1) (.int .i64 T2))
            have B10 := Lib.hid (stored2_below (below_kept B9.out hb910) (g := w9.heap.size) B9.out.size (.int .i64 T1) (.int .i64 T2))
            clear hb10 hz hb910
            go_wp2
            obtain ⟨wx, hwx⟩ : ∃ wx, wx = (w10.setCell ⟨w9.heap.size, 0, none⟩ (.int .i64 T1)).setCell ⟨w9.heap.size, 1, none⟩ (.int .i64 T2) := ⟨_, rfl⟩
            rw [← hwx] at BK B10 ⊢
            clear hwx z0 z1 y0 y1
            obtain ⟨X, hX⟩ : ∃ X, X = w9.heap.size := ⟨_, rfl⟩
            have hXle : w8.heap.size ≤ X := by rw [hX]; exact B9.out.size
            rw [← hX] at BK ⊢
            have hI : Hd w8 X T1 T2 wx.drew := ⟨BK.out, hXle, B10.out.drew⟩
            have HSX := Lib.hid (hd_s hI)
            have k0 := BK.out.cell 0
            have k1 := BK.out.cell 1
            clear hI hX hXle
            go_region_held3 (fun w' => w'.cell? ⟨X, 0, none⟩ = some (.int .i64 T1) ∧ w'.cell? ⟨X, 1, none⟩ = some (.int .i64 T2) ∧ Hd w8 X T1 T2 w') (first | with_reducible exact HSX.out | with_reducible assumption) (first | (go_at_call 17; refine (HBO.out _ (below_kept HBB.out (hd_of (by assumption)).bel)).mono ?_; rintro r w11 ⟨A11, n11, c11, rfl, hn11, hx11, hb11⟩; have HN11 := Lib.hid hn11; clear hn11; have hS11 := hd_s ((hd_of (by assumption)).below hb11)) | (go_at_call 43; (with_reducible refine (HFO.out _ _ _ _ HN11.out hx11).mono ?_); rintro r w12 ⟨rfl, hb12⟩; have hS12 := hd_s ((hd_of (by assumption)).below hb12)))
            have HE12 := Lib.hid hS12.2.2.bel
            clear HN11 hx11 hb11 hS11 hb12 hS12 HSX k0 k1
            go_wp2
            go_roundw
            case rel => exact ⟨k + 1, by omega, by go_num, HE12.out⟩
            case measure => simp [intOf]; omega
          · have d2 : decide (s - f < n) = false := decide_eq_false c2
            rw [if_neg (by omega), HT.out, hU] at hsay
            injection hsay with hu1 hu2
            subst hu1 hu2
            clear hU
            go_wp2_with fail
            refine HFB.out.mono ?_
            rintro r w9 ⟨rfl, hb9⟩
            have B9 := Lib.hid (below_kept BL.out hb9)
            clear hb9 HFB
            have BK : Hid (Blk (w9.alloc (.cells #[.int .i64 T1, .int .i64 T2] 43)) w9.heap.size 43 #[.int .i64 T1, .int .i64 T2]) := Lib.hid (Blk.new w9 _ _)
            have B10 := Lib.hid (below_kept B9.out (below_box w9 (.cells #[.int .i64 T1, .int .i64 T2] 43)))
            go_wp2
            obtain ⟨wx, hwx⟩ : ∃ wx, wx = w9.alloc (.cells #[.int .i64 T1, .int .i64 T2] 43) := ⟨_, rfl⟩
            rw [← hwx] at BK B10 ⊢
            clear hwx
            obtain ⟨X, hX⟩ : ∃ X, X = w9.heap.size := ⟨_, rfl⟩
            have hXle : w8.heap.size ≤ X := by rw [hX]; exact B9.out.size
            rw [← hX] at BK ⊢
            have hI : Hd w8 X T1 T2 wx.drew := ⟨BK.out, hXle, B10.out.drew⟩
            have HSX := Lib.hid (hd_s hI)
            have k0 := BK.out.cell 0
            have k1 := BK.out.cell 1
            clear hI hX hXle
            go_region_held3 (fun w' => w'.cell? ⟨X, 0, none⟩ = some (.int .i64 T1) ∧ w'.cell? ⟨X, 1, none⟩ = some (.int .i64 T2) ∧ Hd w8 X T1 T2 w') (first | with_reducible exact HSX.out | with_reducible assumption) (first | (go_at_call 17; refine (HBO.out _ (below_kept HBB.out (hd_of (by assumption)).bel)).mono ?_; rintro r w11 ⟨A11, n11, c11, rfl, hn11, hx11, hb11⟩; have HN11 := Lib.hid hn11; clear hn11; have hS11 := hd_s ((hd_of (by assumption)).below hb11)) | (go_at_call 43; (with_reducible refine (HFO.out _ _ _ _ HN11.out hx11).mono ?_); rintro r w12 ⟨rfl, hb12⟩; have hS12 := hd_s ((hd_of (by assumption)).below hb12)))
            have HE12 := Lib.hid hS12.2.2.bel
            clear HN11 hx11 hb11 hS11 hb12 hS12 HSX k0 k1
            go_wp2
            go_roundw
            case rel => exact ⟨k + 1, by omega, by go_num, HE12.out⟩
            case measure => simp [intOf]; omega
        · have d1 : decide (f ≤ s) = false := decide_eq_false c1
          rw [if_neg (by omega), HT.out, hU] at hsay
          injection hsay with hu1 hu2
          subst hu1 hu2
          clear hU
          go_wp2_with fail
          refine HFB.out.mono ?_
          rintro r w9 ⟨rfl, hb9⟩
          have B9 := Lib.hid (below_kept BL.out hb9)
          clear hb9 HFB
          have BK : Hid (Blk (w9.alloc (.cells #[.int .i64 T1, .int .i64 T2] 43)) w9.heap.size 43 #[.int .i64 T1, .int .i64 T2]) := Lib.hid (Blk.new w9 _ _)
          have B10 := Lib.hid (below_kept B9.out (below_box w9 (.cells #[.int .i64 T1, .int .i64 T2] 43)))
          go_wp2
          obtain ⟨wx, hwx⟩ : ∃ wx, wx = w9.alloc (.cells #[.int .i64 T1, .int .i64 T2] 43) := ⟨_, rfl⟩
          rw [← hwx] at BK B10 ⊢
          clear hwx
          obtain ⟨X, hX⟩ : ∃ X, X = w9.heap.size := ⟨_, rfl⟩
          have hXle : w8.heap.size ≤ X := by rw [hX]; exact B9.out.size
          rw [← hX] at BK ⊢
          have hI : Hd w8 X T1 T2 wx.drew := ⟨BK.out, hXle, B10.out.drew⟩
          have HSX := Lib.hid (hd_s hI)
          have k0 := BK.out.cell 0
          have k1 := BK.out.cell 1
          clear hI hX hXle
          go_region_held3 (fun w' => w'.cell? ⟨X, 0, none⟩ = some (.int .i64 T1) ∧ w'.cell? ⟨X, 1, none⟩ = some (.int .i64 T2) ∧ Hd w8 X T1 T2 w') (first | with_reducible exact HSX.out | with_reducible assumption) (first | (go_at_call 17; refine (HBO.out _ (below_kept HBB.out (hd_of (by assumption)).bel)).mono ?_; rintro r w11 ⟨A11, n11, c11, rfl, hn11, hx11, hb11⟩; have HN11 := Lib.hid hn11; clear hn11; have hS11 := hd_s ((hd_of (by assumption)).below hb11)) | (go_at_call 43; (with_reducible refine (HFO.out _ _ _ _ HN11.out hx11).mono ?_); rintro r w12 ⟨rfl, hb12⟩; have hS12 := hd_s ((hd_of (by assumption)).below hb12)))
          have HE12 := Lib.hid hS12.2.2.bel
          clear HN11 hx11 hb11 hS11 hb12 hS12 HSX k0 k1
          go_wp2
          go_roundw
          case rel => exact ⟨k + 1, by omega, by go_num, HE12.out⟩
          case measure => simp [intOf]; omega
    · obtain rfl : k = N := by omega
      have i0' : ¬ (k : Int) < (k : Int) := by omega
      clear hbel
      go_wp2
      go_ret
      exact ⟨rfl, BW.out⟩
end EX
end Go.Proofs.Ytomncnelkkmalab
