/- 3 texts laid together: each says at its head what it proves. No condition but those that each theorem names. -/
import Derived.Test.YtdjlflinepefbabGreatQ36
import Derived.Deep.RegionHeld3
import Derived.Deep.RegionWith
import Derived.Defers
import Derived.Recover

/- What the array's methods do that change it: what a mishap does, a block's pages filled, a page programmed, a block erased. -/
namespace Go.Proofs.YtdjlflinepefbabGreat
namespace ND
open Go.RowKit MM
set_option linter.unusedVariables false
set_option linter.unusedSimpArgs false

theorem is_at (c x : Int) (w : World) (hc : (Lit.int .i64 c).wf = true) :
    Calls Tryz.prog 181 #[.iface 51 (.int .i64 c), .iface 51 (.int .i64 x)] w fun e w' => e = .returned (.bool (c == x)) ∧ w = w' :=
  ER.Is_num (.num c) _ x w w.heap.size ⟨rfl, hc⟩

theorem suffer_any {w : World} {r : Ref} {d : Nd} (h : NandAt w r d) (b : Nat) (hb : b < d.B) (c : Int) (hc : c = 0 ∨ c = 9 ∨ c = 41) :
    Calls Tryz.prog 143 #[(.pointer (some ⟨r.pb, 0, none⟩)), .int .i64 b, errV c] w fun e w' => e = .returned (.tuple #[]) ∧ NandAt w' r (d.suffer b c) ∧ Mod r.has w w' := by
  rcases hc with rfl | rfl | rfl
  · have H := Lib.hid h
    have E : errV 0 = .nilIface := rfl
    rw [E]
    clear h E
    go_enter Tryz.func143, Tryz.ntmps143
    go_wp2_with fail
    refine (ER.Is_nil 9 _).mono ?_
    rintro e w1 ⟨rfl, rfl⟩
    go_wp2_with fail
    refine (ER.Is_nil 41 _).mono ?_
    rintro e w1 ⟨rfl, rfl⟩
    go_wp2
    simp [bodyPost, results, Tryz.results143, go_sem]
    exact ⟨H.out, Mod.refl _ _⟩
  · have H := Lib.hid h
    have E : errV 9 = .iface 51 (.int .i64 9) := rfl
    rw [E]
    obtain ⟨_, _, _, _, _, _, _, c7⟩ := h.cells
    have z7 := h.fz 7
    clear h E
    go_enter Tryz.func143, Tryz.ntmps143
    go_wp2_with fail
    refine (is_at 9 9 _ rfl).mono ?_
    rintro e w1 ⟨rfl, rfl⟩
    go_wp2
    simp [bodyPost, results, Tryz.results143, go_sem]
    exact ⟨H.out.setDown true, (Mod.refl _ _).setCell (.inl rfl) _⟩
  · have H := Lib.hid h
    have E : errV 41 = .iface 51 (.int .i64 41) := rfl
    rw [E]
    obtain ⟨_, _, _, c3, _⟩ := h.cells
    obtain ⟨_, _, c5⟩ := h.blocks.cell hb
    have z5 := h.blocks.frozen (b * 3 + 2)
    have e1 : (0 : Int) ≤ (b : Int) := by omega
    have e2 : (b : Int) < (d.B : Int) := by omega
    clear h E
    go_enter Tryz.func143, Tryz.ntmps143
    go_wp2_with fail
    refine (is_at 41 9 _ rfl).mono ?_
    rintro e w1 ⟨rfl, rfl⟩
    go_wp2_with fail
    refine (is_at 41 41 _ rfl).mono ?_
    rintro e w1 ⟨rfl, rfl⟩
    go_wp2
    simp [bodyPost, results, Tryz.results143, go_sem]
    exact ⟨H.out.setBad b true, (Mod.refl _ _).setCell (.inr (.inr (.inl rfl))) _⟩

def Nd.filled (d : Nd) (b j : Nat) (s : ByteArray) : Nd := { d with txt := fun k => if b * d.P ≤ k ∧ k < b * d.P + j then s else d.txt k }
theorem filled_zero (d : Nd) (b : Nat) (s : ByteArray) : d.filled b 0 s = d := by
  unfold Nd.filled
  have : (fun k => if b * d.P ≤ k ∧ k < b * d.P + 0 then s else d.txt k) = d.txt := by
    funext k; rw [if_neg (by omega)]
  rw [this]
theorem filled_all (d : Nd) (b : Nat) (s : ByteArray) (hP : 0 < d.P) : d.filled b d.P s = d.fill b s := by
  unfold Nd.filled Nd.fill
  have : (fun k => if b * d.P ≤ k ∧ k < b * d.P + d.P then s else d.txt k) = fun k => if k / d.P = b then s else d.txt k := by
    funext k
    have e : (b * d.P ≤ k ∧ k < b * d.P + d.P) ↔ k / d.P = b := by
      rw [Nat.div_eq_iff hP]
      constructor
      · intro h; omega
      · intro h; have := h.1; have := h.2; omega
    by_cases hk : k / d.P = b
    · rw [if_pos hk, if_pos (e.2 hk)]
    · rw [if_neg hk, if_neg fun h => hk (e.1 h)]
  rw [this]
theorem filled_put (d : Nd) (b j : Nat) (s : ByteArray) : { d.filled b j s with txt := put (d.filled b j s).txt (b * d.P + j) s } = d.filled b (j + 1) s := by
  unfold Nd.filled put
  have : (fun k => if k = b * d.P + j then s else if b * d.P ≤ k ∧ k < b * d.P + j then s else d.txt k) = fun k => if b * d.P ≤ k ∧ k < b * d.P + (j + 1) then s else d.txt k := by
    funext k
    by_cases h1 : k = b * d.P + j
    · rw [if_pos h1, if_pos (by omega)]
    · rw [if_neg h1]
      by_cases h2 : b * d.P ≤ k ∧ k < b * d.P + j
      · rw [if_pos h2, if_pos (by omega)]
      · rw [if_neg h2, if_neg (by omega)]
  simp only [this]

theorem misV_eq (m : Mis) : misV m = .agg #[.int .i64 m.at_, .int .i64 m.kind, .int .i64 m.keep, .string m.junk] := rfl
theorem brings_some (m : Mis) (f : Int) : brings m f = 0 ∨ brings m f = 9 ∨ brings m f = 41 := by
  unfold brings
  split
  · exact .inr (.inl rfl)
  · split
    · exact .inr (.inr rfl)
    · exact .inl rfl
theorem errV_ne {c : Int} (h : c ≠ 0) : errV c = .iface 51 (.int .i64 c) := if_neg h

set_option maxHeartbeats 2000000 in
set_option maxRecDepth 100000 in
/-- Where nothing is wrong, and no mishap waits. -/
theorem program_ok {w : World} {r : Ref} {d : Nd} (h : NandAt w r d) (ok : d.Ok) (hops : d.ops ≤ 4611686018427387904) (p : Int) (s : ByteArray) (hmay : d.mayProgram p s = 0) (hbr : brings d.mis 2 = 0) :
    Calls Tryz.prog 97 #[(.pointer (some ⟨r.pb, 0, none⟩)), .int .i64 p, .string s] w fun e w' => e = .returned .nilIface ∧ NandAt w' r ((d.counted).wrote p.toNat s) ∧ Mod r.has w w' := by
  have HMP := Lib.hid (mayProgram_any h ok p s)
  rw [hmay] at HMP
  have E0 : errV 0 = .nilIface := rfl
  rw [E0] at HMP
  obtain ⟨hd, hp, hs, hbad, hnx⟩ := may_zero hmay
  obtain ⟨q, rfl, hq, hq2, hP0, hb, hrep⟩ := page_facts ok hp
  rw [hrep] at hbad hnx ⊢
  have H := Lib.hid h
  have OK := Lib.hid ok
  have HBR := Lib.hid hbr
  have HOPS := Lib.hid hops
  clear h ok hmay hd hp hbad hrep E0 hbr hops
  go_enter Tryz.func97, Tryz.ntmps97
  go_wp2_with fail
  refine HMP.out.mono ?_
  rintro e w1 ⟨rfl, hb1⟩
  have h1 := H.out.below hb1
  have HC := Lib.hid (count_any h1 OK.out HOPS.out 2)
  rw [HBR.out] at HC
  have HB1 := Lib.hid hb1
  clear h1 hb1
  go_wp2_with fail
  refine HC.out.mono ?_
  rintro e w2 ⟨rfl, h2, hm2⟩
  have E0 : errV 0 = .nilIface := rfl
  rw [E0]
  have H2 := Lib.hid h2
  have HM2 := Lib.hid hm2
  clear h2 hm2 E0
  obtain ⟨mv, hmv⟩ : ∃ m, m = d.mis := ⟨_, rfl⟩
  rw [← hmv, misV_eq]
  clear hmv
  go_wp2_with fail
  obtain ⟨W3, hW3⟩ : ∃ W3, W3 = w2.alloc (.cells #[.int .i64 mv.at_, .int .i64 mv.kind, .int .i64 mv.keep, .string mv.junk] 224) := ⟨_, rfl⟩
  rw [← hW3]
  have h3 : NandAt W3 r d.counted := by rw [hW3]; exact H2.out.alloc _
  have m3 : Mod r.has w1 W3 := by rw [hW3]; exact HM2.out.alloc _
  have HPL : Hid (Calls Tryz.prog 141 #[(.pointer (some ⟨r.pb, 0, none⟩)), .int .i64 q] W3 fun e w' => e = .returned (.tuple #[.int .i64 (q / d.P : Nat), .int .i64 (q % d.P : Nat)]) ∧ Below W3.heap.size W3 w') := place_any h3 hP0 q hq2
  have H3 := Lib.hid h3
  have M3 := Lib.hid m3
  clear hW3 h3 m3
  obtain ⟨b, hbq⟩ : ∃ b, b = q / d.P := ⟨_, rfl⟩
  obtain ⟨m, hmq⟩ : ∃ m, m = q % d.P := ⟨_, rfl⟩
  rw [← hbq] at hb HPL
  rw [← hmq] at HPL
  have HBQ := Lib.hid hbq
  have HNX := Lib.hid hnx
  clear hbq hmq hnx
  refine HPL.out.mono ?_
  rintro e w4 ⟨rfl, hb4⟩
  have h4 := H3.out.below hb4
  have m4 := M3.out.trans (Mod.of_below hb4)
  have c2 := h4.cells.2.2.1
  have ez : ((d.counted).B * (d.counted).P : Nat) = d.B * d.P := rfl
  rw [ez] at c2
  obtain ⟨N, hN⟩ : ∃ N, N = d.B * d.P := ⟨_, rfl⟩
  have c6 := h4.pages.cell (i := q) hq
  have z6 := h4.pages.frozen q
  rw [← hN] at c2 hq
  have e1 : (0 : Int) ≤ (q : Int) := by omega
  have e2 : (q : Int) < (N : Int) := by omega
  have l1 := h4.own.lt
  have l2 := h4.pages.lt
  have HCL := Lib.hid (clone_any s w4.drew (by omega))
  have H4 := Lib.hid h4
  have M4 := Lib.hid m4
  obtain ⟨old, hold⟩ : ∃ t, t = Value.string (d.counted.txt q) := ⟨_, rfl⟩
  rw [← hold] at c6
  clear hold hb4 h4 m4 ez hN
  go_wp2
  go_region_with (go_at_call 142; refine HCL.out.mono ?_; rintro e w5 ⟨rfl, hb5⟩; have d2 := (hb5.cell (p := ⟨r.pb, 2, none⟩) l1).trans c2; have d6 := (hb5.cell (p := ⟨r.gp, q, none⟩) l2).trans c6; have y6 : w5.frozen? ⟨r.gp, q, none⟩ = false := (H4.out.drew.below hb5).pages.frozen q)
  all_goals
    have h6 := (H4.out.drew.below hb5).setTxt q s
    have m6 : Mod r.has w1 (w5.setCell ⟨r.gp, q, none⟩ (.string s)) := (M4.out.drew.trans (Mod.of_below hb5)).setCell (.inr (.inl rfl)) _
    obtain ⟨W6, hW6⟩ : ∃ W6, W6 = w5.setCell ⟨r.gp, q, none⟩ (.string s) := ⟨_, rfl⟩
    rw [← hW6] at h6 m6 ⊢
    clear d2 d6 y6 hb5 hW6
    have c3 := h6.cells.2.2.2.1
    obtain ⟨c4, _, _⟩ := h6.blocks.cell hb
    have z4 := h6.blocks.frozen (b * 3)
    have hnb := OK.out.next b
    have hp2 := OK.out.p2
    have r0 : IntKind.i64.wrap ((d.next b : Int) + 1) = (d.next b : Int) + 1 := IntWalk.i64_in _ (by omega)
    have e3 : (0 : Int) ≤ (b : Int) := by omega
    have e4 : (b : Int) < (d.B : Int) := by omega
    have c3' : W6.cell? ⟨r.pb, 3, none⟩ = some (.slice (some ⟨r.gb, 0, none⟩) d.B d.B) := c3
    have c4' : W6.cell? ⟨r.gb, b * 3, none⟩ = some (.int .i64 (d.next b)) := c4
    have H6 := Lib.hid h6
    have M6 := Lib.hid m6
    clear h6 m6 c3 c4 hnb hp2
    go_wp2_with fail
    obtain ⟨W7, hW7⟩ : ∃ W7, W7 = W6.setCell ⟨r.gb, b * 3, none⟩ (.int .i64 ((d.next b : Int) + 1)) := ⟨_, rfl⟩
    rw [← hW7]
    have h7 : NandAt W7 r (d.counted.wrote q s) := by
      rw [hW7]
      have := H6.out.setNext b (d.next b + 1)
      rw [HBQ.out] at this ⊢
      exact this
    have m7 : Mod r.has w1 W7 := by rw [hW7]; exact M6.out.setCell (.inr (.inr (.inl rfl))) _
    refine (suffer_any h7 b hb 0 (.inl rfl)).mono ?_
    rintro e w8 ⟨rfl, h8, m8⟩
    have H8 := Lib.hid h8
    have M8 := Lib.hid (m7.trans m8)
    clear h8 m8 h7 m7 hW7
    go_wp2
    go_ret
    exact ⟨rfl, H8.out, (Mod.of_below HB1.out).trans M8.out⟩
set_option maxHeartbeats 2000000 in
set_option maxRecDepth 100000 in
/-- Where nothing is wrong, and a mishap waits. -/
theorem program_hit {w : World} {r : Ref} {d : Nd} (h : NandAt w r d) (ok : d.Ok) (hops : d.ops ≤ 4611686018427387904) (p : Int) (s : ByteArray) (hmay : d.mayProgram p s = 0) (c : Int) (hbr : brings d.mis 2 = c) (hc : c ≠ 0) :
    Calls Tryz.prog 97 #[(.pointer (some ⟨r.pb, 0, none⟩)), .int .i64 p, .string s] w fun e w' => e = .returned (.iface 51 (.int .i64 c)) ∧ NandAt w' r (((d.counted).wrote p.toNat (spoilt d.mis s)).suffer (p.toNat / d.P) c) ∧ Mod r.has w w' := by
  have HMP := Lib.hid (mayProgram_any h ok p s)
  rw [hmay] at HMP
  have E0 : errV 0 = .nilIface := rfl
  rw [E0] at HMP
  obtain ⟨hd, hp, hs, hbad, hnx⟩ := may_zero hmay
  obtain ⟨q, rfl, hq, hq2, hP0, hb, hrep⟩ := page_facts ok hp
  rw [hrep] at hbad hnx ⊢
  have H := Lib.hid h
  have OK := Lib.hid ok
  have HBR := Lib.hid hbr
  have hc2 : c = 0 ∨ c = 9 ∨ c = 41 := hbr ▸ brings_some d.mis 2
  have HC2 := Lib.hid hc2
  have HC0 := Lib.hid hc
  have hjunk := ok.mis
  have HOPS := Lib.hid hops
  clear h ok hmay hd hp hbad hrep E0 hbr hops hc2 hc
  go_enter Tryz.func97, Tryz.ntmps97
  go_wp2_with fail
  refine HMP.out.mono ?_
  rintro e w1 ⟨rfl, hb1⟩
  have h1 := H.out.below hb1
  have HC := Lib.hid (count_any h1 OK.out HOPS.out 2)
  rw [HBR.out] at HC
  have HB1 := Lib.hid hb1
  clear h1 hb1
  go_wp2_with fail
  refine HC.out.mono ?_
  rintro e w2 ⟨rfl, h2, hm2⟩
  rw [errV_ne HC0.out]
  have H2 := Lib.hid h2
  have HM2 := Lib.hid hm2
  clear h2 hm2
  obtain ⟨mv, hmv⟩ : ∃ m, m = d.mis := ⟨_, rfl⟩
  rw [← hmv] at hjunk
  rw [← hmv, misV_eq]
  have HMV := Lib.hid hmv
  clear hmv
  have E9 : Hid (errV c = .iface 51 (.int .i64 c)) := errV_ne HC0.out
  go_wp2_with fail
  obtain ⟨W3, hW3⟩ : ∃ W3, W3 = w2.alloc (.cells #[.int .i64 mv.at_, .int .i64 mv.kind, .int .i64 mv.keep, .string mv.junk] 224) := ⟨_, rfl⟩
  rw [← hW3]
  have h3 : NandAt W3 r d.counted := by rw [hW3]; exact H2.out.alloc _
  have m3 : Mod r.has w1 W3 := by rw [hW3]; exact HM2.out.alloc _
  have H3 := Lib.hid h3
  have M3 := Lib.hid m3
  clear hW3 h3 m3
  have HSP : Hid (Calls Tryz.prog 140 #[.agg #[.int .i64 mv.at_, .int .i64 mv.kind, .int .i64 mv.keep, .string mv.junk], .string s] W3 fun e w' => e = .returned (.string (spoilt mv s)) ∧ Below W3.heap.size W3 w') := spoilt_any mv s W3 hjunk hs
  refine HSP.out.mono ?_
  rintro e w3 ⟨rfl, hb3⟩
  obtain ⟨T, hT⟩ : ∃ T, T = spoilt mv s := ⟨_, rfl⟩
  have hTs : T.size ≤ 128 := by rw [hT]; exact spoilt_size _ _
  rw [← hT]
  have H3' := Lib.hid (H3.out.below hb3)
  have M3' := Lib.hid (M3.out.trans (Mod.of_below hb3))
  have HPL : Hid (Calls Tryz.prog 141 #[(.pointer (some ⟨r.pb, 0, none⟩)), .int .i64 q] w3 fun e w' => e = .returned (.tuple #[.int .i64 (q / d.P : Nat), .int .i64 (q % d.P : Nat)]) ∧ Below w3.heap.size w3 w') := place_any H3'.out hP0 q hq2
  have HT := Lib.hid hT
  clear hb3 hT
  go_wp2_with fail
  obtain ⟨b, hbq⟩ : ∃ b, b = q / d.P := ⟨_, rfl⟩
  obtain ⟨m, hmq⟩ : ∃ m, m = q % d.P := ⟨_, rfl⟩
  rw [← hbq] at hb HPL
  rw [← hmq] at HPL
  have HBQ := Lib.hid hbq
  have HNX := Lib.hid hnx
  clear hbq hmq hnx
  refine HPL.out.mono ?_
  rintro e w4 ⟨rfl, hb4⟩
  have h4 := H3'.out.below hb4
  have m4 := M3'.out.trans (Mod.of_below hb4)
  have c2 := h4.cells.2.2.1
  have ez : ((d.counted).B * (d.counted).P : Nat) = d.B * d.P := rfl
  rw [ez] at c2
  obtain ⟨N, hN⟩ : ∃ N, N = d.B * d.P := ⟨_, rfl⟩
  have c6 := h4.pages.cell (i := q) hq
  have z6 := h4.pages.frozen q
  rw [← hN] at c2 hq
  have e1 : (0 : Int) ≤ (q : Int) := by omega
  have e2 : (q : Int) < (N : Int) := by omega
  have l1 := h4.own.lt
  have l2 := h4.pages.lt
  have HCL := Lib.hid (clone_any T w4.drew (by omega))
  have H4 := Lib.hid h4
  have M4 := Lib.hid m4
  obtain ⟨old, hold⟩ : ∃ t, t = Value.string (d.counted.txt q) := ⟨_, rfl⟩
  rw [← hold] at c6
  clear hold hb4 h4 m4 ez hN
  go_wp2
  go_region_with (go_at_call 142; refine HCL.out.mono ?_; rintro e w5 ⟨rfl, hb5⟩; have d2 := (hb5.cell (p := ⟨r.pb, 2, none⟩) l1).trans c2; have d6 := (hb5.cell (p := ⟨r.gp, q, none⟩) l2).trans c6; have y6 : w5.frozen? ⟨r.gp, q, none⟩ = false := (H4.out.drew.below hb5).pages.frozen q)
  all_goals
    have h6 := (H4.out.drew.below hb5).setTxt q T
    have m6 : Mod r.has w1 (w5.setCell ⟨r.gp, q, none⟩ (.string T)) := (M4.out.drew.trans (Mod.of_below hb5)).setCell (.inr (.inl rfl)) _
    obtain ⟨W6, hW6⟩ : ∃ W6, W6 = w5.setCell ⟨r.gp, q, none⟩ (.string T) := ⟨_, rfl⟩
    rw [← hW6] at h6 m6 ⊢
    clear d2 d6 y6 hb5 hW6
    have c3 := h6.cells.2.2.2.1
    obtain ⟨c4, _, _⟩ := h6.blocks.cell hb
    have z4 := h6.blocks.frozen (b * 3)
    have hnb := OK.out.next b
    have hp2 := OK.out.p2
    have r0 : IntKind.i64.wrap ((d.next b : Int) + 1) = (d.next b : Int) + 1 := IntWalk.i64_in _ (by omega)
    have e3 : (0 : Int) ≤ (b : Int) := by omega
    have e4 : (b : Int) < (d.B : Int) := by omega
    have c3' : W6.cell? ⟨r.pb, 3, none⟩ = some (.slice (some ⟨r.gb, 0, none⟩) d.B d.B) := c3
    have c4' : W6.cell? ⟨r.gb, b * 3, none⟩ = some (.int .i64 (d.next b)) := c4
    have H6 := Lib.hid h6
    have M6 := Lib.hid m6
    clear h6 m6 c3 c4 hnb hp2
    go_wp2_with fail
    obtain ⟨W7, hW7⟩ : ∃ W7, W7 = W6.setCell ⟨r.gb, b * 3, none⟩ (.int .i64 ((d.next b : Int) + 1)) := ⟨_, rfl⟩
    rw [← hW7]
    have h7 : NandAt W7 r (d.counted.wrote q T) := by
      rw [hW7]
      have := H6.out.setNext b (d.next b + 1)
      rw [HBQ.out] at this ⊢
      exact this
    have m7 : Mod r.has w1 W7 := by rw [hW7]; exact M6.out.setCell (.inr (.inr (.inl rfl))) _
    rw [← E9.out]
    refine (suffer_any h7 b hb c HC2.out).mono ?_
    rintro e w8 ⟨rfl, h8, m8⟩
    have H8 := Lib.hid h8
    have M8 := Lib.hid (m7.trans m8)
    clear h8 m8 h7 m7 hW7
    go_wp2
    rw [E9.out]
    go_ret
    have hh := H8.out
    rw [HT.out, HMV.out, HBQ.out] at hh
    exact ⟨rfl, hh, (Mod.of_below HB1.out).trans M8.out⟩
/-- What the unexported program does, whatever is asked of whichever array. -/
theorem program_in {w : World} {r : Ref} {d : Nd} (h : NandAt w r d) (ok : d.Ok) (hops : d.ops ≤ 4611686018427387904) (p : Int) (s : ByteArray) :
    Calls Tryz.prog 97 #[(.pointer (some ⟨r.pb, 0, none⟩)), .int .i64 p, .string s] w fun e w' => e = .returned (errV (d.program p s).2) ∧ NandAt w' r (d.program p s).1 ∧ Mod r.has w w' := by
  unfold Nd.program
  by_cases hmay : d.mayProgram p s = 0
  · rw [if_neg (by simpa using hmay)]
    by_cases hbr : brings d.mis 2 = 0
    · refine (program_ok h ok hops p s hmay hbr).mono ?_
      rintro e w' ⟨rfl, h1, h2⟩
      rw [hbr]
      refine ⟨rfl, ?_, h2⟩
      unfold Nd.takes
      rw [if_pos hbr]
      exact h1
    · refine (program_hit h ok hops p s hmay _ rfl hbr).mono ?_
      rintro e w' ⟨rfl, h1, h2⟩
      refine ⟨by rw [errV_ne hbr], ?_, h2⟩
      unfold Nd.takes
      rw [if_neg hbr]
      exact h1
  · rw [if_pos hmay]
    have HMP := Lib.hid (mayProgram_any h ok p s)
    rw [errV_ne hmay] at HMP
    show Calls _ _ _ _ fun e w' => e = .returned (errV (d.mayProgram p s)) ∧ NandAt w' r d ∧ Mod r.has w w'
    rw [errV_ne hmay]
    have H := Lib.hid h
    obtain ⟨c, hc⟩ : ∃ c, c = d.mayProgram p s := ⟨_, rfl⟩
    rw [← hc] at HMP ⊢
    clear h ok hops hmay hc
    go_enter Tryz.func97, Tryz.ntmps97
    go_wp2_with fail
    refine HMP.out.mono ?_
    rintro e w1 ⟨rfl, hb1⟩
    have HB1 := Lib.hid hb1
    clear hb1
    go_wp2
    go_ret
    exact ⟨rfl, H.out.below HB1.out, Mod.of_below HB1.out⟩
end ND
end Go.Proofs.YtdjlflinepefbabGreat

/- What fault.Wrap and fault.Code answer, whatever tree the error is. -/
namespace Go.Proofs.YtdjlflinepefbabGreat
namespace ER
open Go.RowKit Go.Extern.Stop Go.Stop Go.Extern
set_option linter.unusedVariables false
set_option linter.unusedSimpArgs false

theorem wrap_nil (op : ByteArray) (n : Int) (w : World) : Calls Tryz.prog 43 #[.string op, .int .i64 n, .nilIface] w fun e w' => e = .returned .nilIface ∧ w = w' := by
  go_enter Tryz.func43, Tryz.ntmps43
  go_wp2
  go_ret
  exact ⟨rfl, rfl⟩
theorem wrap_run (op : ByteArray) (n : Int) (t : TypeId) (x : Value) (w : World) : Calls Tryz.prog 43 #[.string op, .int .i64 n, .iface t x] w fun e w' => e = .returned (.iface 136 (.pointer (some ⟨w.heap.size, 0, none⟩))) ∧ w.alloc (.cells #[.string op, .int .i64 n, .iface t x] 140) = w' := by
  go_enter Tryz.func43, Tryz.ntmps43
  go_wp2
  go_ret
  exact ⟨rfl, rfl⟩
theorem wrapped {w : World} {op : ByteArray} {n : Int} {E : Er} {v : Value} (hE : IsErr w w.heap.size E v) (hn : (Lit.int .i64 n).wf = true) (ho : op.size ≤ maxLen) :
    IsErr (w.alloc (.cells #[.string op, .int .i64 n, v] 140)) (w.heap.size + 1) (.fault op n E) (.iface 136 (.pointer (some ⟨w.heap.size, 0, none⟩))) :=
  ⟨w.heap.size, v, rfl, Nat.lt_succ_self _, heap_alloc_new w _, hn, ho, (hE.below ((Below.refl _ _).alloc (Nat.le_refl _) _)).more (Nat.le_succ _)⟩
/-- fault.Wrap of an error. -/
theorem wrap_any (op : ByteArray) (n : Int) (E : Er) (v : Value) (w : World) (hE : IsErr w w.heap.size E v) (hn : (Lit.int .i64 n).wf = true) (ho : op.size ≤ maxLen) :
    Calls Tryz.prog 43 #[.string op, .int .i64 n, v] w fun e w' => e = .returned (.iface 136 (.pointer (some ⟨w.heap.size, 0, none⟩))) ∧ w.alloc (.cells #[.string op, .int .i64 n, v] 140) = w' := by
  obtain ⟨t, x, rfl⟩ := hE.iface
  exact wrap_run op n t x w
end ER
end Go.Proofs.YtdjlflinepefbabGreat

/- What Erase, inside, does. -/
namespace Go.Proofs.YtdjlflinepefbabGreat
namespace ND
open Go.RowKit MM
set_option linter.unusedVariables false
set_option linter.unusedSimpArgs false

theorem spoilt_none (m : Mis) : spoilt m ByteArray.empty = spoilt m ⟨#[]⟩ := rfl

/-- What an error is that came by one step: none, or the number, wrapped once. -/
def ErrIs (w : World) (op : ByteArray) (p c : Int) (v : Value) : Prop :=
  (c = 0 ∧ v = .nilIface) ∨ (c ≠ 0 ∧ ∃ b, v = .iface 136 (.pointer (some ⟨b, 0, none⟩)) ∧ Blk w b 140 #[.string op, .int .i64 p, .iface 51 (.int .i64 c)] ∧ (Lit.int .i64 p).wf = true ∧ (Lit.int .i64 c).wf = true ∧ op.size ≤ maxLen)
theorem Mod.more {S S' : Nat → Prop} {a w : World} (h : Mod S a w) (hS : ∀ k, S k → S' k) : Mod S' a w := h.mono fun k _ => hS k
theorem wrap_errV (op : ByteArray) (p c : Int) (w : World) (hp : (Lit.int .i64 p).wf = true) (hc : (Lit.int .i64 c).wf = true) (ho : op.size ≤ maxLen) :
    Calls Tryz.prog 43 #[.string op, .int .i64 p, errV c] w fun e w' => ∃ v, e = .returned v ∧ ErrIs w' op p c v ∧ Below w.heap.size w w' := by
  by_cases h : c = 0
  · subst h
    refine (ER.wrap_nil op p w).mono ?_
    rintro e w' ⟨rfl, rfl⟩
    exact ⟨_, rfl, .inl ⟨rfl, rfl⟩, Below.refl _ _⟩
  · rw [errV_ne h]
    have h0 : ER.IsErr w w.heap.size (.num c) (.iface 51 (.int .i64 c)) := ⟨rfl, hc⟩
    refine (ER.wrap_any op p (.num c) _ w h0 hp ho).mono ?_
    rintro e w' ⟨rfl, rfl⟩
    exact ⟨_, rfl, .inr ⟨h, _, rfl, Blk.new w _ _, hp, hc, ho⟩, (Below.refl _ _).alloc (Nat.le_refl _) _⟩
theorem ErrIs.isErr {w : World} {op : ByteArray} {p c : Int} {v : Value} (h : ErrIs w op p c v) (hc : c ≠ 0) : ER.IsErr w w.heap.size (.fault op p (.num c)) v := by
  rcases h with ⟨rfl, _⟩ | ⟨_, b, rfl, hb, h1, h2, h3⟩
  · exact absurd rfl hc
  · exact ⟨b, _, rfl, hb.lt, hb, h1, h3, rfl, h2⟩
theorem ErrIs.none {w : World} {op : ByteArray} {p c : Int} {v : Value} (h : ErrIs w op p c v) (hc : c = 0) : v = .nilIface := by
  rcases h with h | ⟨h, _⟩
  · exact h.2
  · exact absurd hc h
theorem ErrIs.some {w : World} {op : ByteArray} {p c : Int} {v : Value} (h : ErrIs w op p c v) (hc : c ≠ 0) : ∃ t x, v = .iface t x := by
  rcases h with h | ⟨h, b, rfl, _⟩
  · exact absurd h.1 hc
  · exact ⟨_, _, rfl⟩
/-- Blocks of types that no array is made of stay as they are. -/
def Other (T : TypeId) : Bool := T != 170 && T != 9 && T != 229
def Errs (w w' : World) : Prop := ∀ b T cs, Other T = true → Blk w b T cs → Blk w' b T cs
theorem ErrIs.keep {w w' : World} {op : ByteArray} {p c : Int} {v : Value} (h : ErrIs w op p c v) (hk : Errs w w') : ErrIs w' op p c v := by
  rcases h with h | ⟨h, b, rfl, hb, hr⟩
  · exact .inl h
  · exact .inr ⟨h, b, rfl, hk _ _ _ rfl hb, hr⟩

theorem may_wf (d : Nd) (p : Int) (s : ByteArray) : (Lit.int .i64 (d.program p s).2).wf = true := by
  unfold Nd.program
  split
  · show (Lit.int .i64 (d.mayProgram p s)).wf = true
    unfold Nd.mayProgram
    repeat' split
    all_goals rfl
  · rcases brings_some d.mis 2 with h | h | h <;> (show (Lit.int .i64 (brings d.mis 2)).wf = true; rw [h]; rfl)
theorem mayE_wf (d : Nd) (p : Int) : (Lit.int .i64 (d.erase p).2).wf = true := by
  unfold Nd.erase
  split
  · show (Lit.int .i64 (d.mayErase p)).wf = true
    unfold Nd.mayErase
    repeat' split
    all_goals rfl
  · rcases brings_some d.mis 3 with h | h | h <;> (show (Lit.int .i64 (brings d.mis 3)).wf = true; rw [h]; rfl)
theorem read_wf (d : Nd) (p : Int) : (Lit.int .i64 (d.read p).2).wf = true := by
  unfold Nd.read
  repeat' split
  all_goals rfl

abbrev opProgram : ByteArray := ⟨#[112, 114, 111, 103, 114, 97, 109]⟩
abbrev opErase : ByteArray := ⟨#[101, 114, 97, 115, 101]⟩
abbrev opRead : ByteArray := ⟨#[114, 101, 97, 100]⟩
abbrev opNew : ByteArray := ⟨#[110, 101, 119]⟩

theorem program_any {w : World} {r : Ref} {d : Nd} (h : NandAt w r d) (ok : d.Ok) (hops : d.ops ≤ 4611686018427387904) (p : Int) (hp : (Lit.int .i64 p).wf = true) (s : ByteArray) :
    Calls Tryz.prog 66 #[(.pointer (some ⟨r.pb, 0, none⟩)), .int .i64 p, .string s] w fun e w' => ∃ v, e = .returned v ∧ ErrIs w' opProgram p (d.program p s).2 v ∧ NandAt w' r (d.program p s).1 ∧ Mod r.has w w' := by
  have HP := Lib.hid (program_in h ok hops p s)
  have HW := Lib.hid (fun w => wrap_errV opProgram p (d.program p s).2 w hp (may_wf d p s) (by decide))
  obtain ⟨c, hc⟩ : ∃ c, c = (d.program p s).2 := ⟨_, rfl⟩
  obtain ⟨d', hd'⟩ : ∃ d', d' = (d.program p s).1 := ⟨_, rfl⟩
  rw [← hc, ← hd'] at HP
  rw [← hc] at HW
  rw [← hc, ← hd']
  clear h ok hops hp hc hd'
  go_enter Tryz.func66, Tryz.ntmps66
  go_wp2_with fail
  refine HP.out.mono ?_
  rintro e w1 ⟨rfl, h1, m1⟩
  have H1 := Lib.hid h1
  have M1 := Lib.hid m1
  clear h1 m1
  go_wp2_with fail
  refine (HW.out _).mono ?_
  rintro e w2 ⟨v, rfl, he, hb⟩
  have HE := Lib.hid he
  have HB := Lib.hid hb
  clear he hb
  go_wp2
  go_ret
  exact ⟨_, rfl, HE.out, H1.out.below HB.out, M1.out.trans (Mod.of_below HB.out)⟩
theorem readX_any {w : World} {r : Ref} {d : Nd} (h : NandAt w r d) (ok : d.Ok) (p : Int) (hp : (Lit.int .i64 p).wf = true) :
    Calls Tryz.prog 67 #[(.pointer (some ⟨r.pb, 0, none⟩)), .int .i64 p] w fun e w' => ∃ v, e = .returned (.tuple #[.string (d.read p).1, v]) ∧ ErrIs w' opRead p (d.read p).2 v ∧ Below w.heap.size w w' := by
  have HP := Lib.hid (read_any h ok p)
  have HW := Lib.hid (fun w => wrap_errV opRead p (d.read p).2 w hp (read_wf d p) (by decide))
  obtain ⟨c, hc⟩ : ∃ c, c = (d.read p).2 := ⟨_, rfl⟩
  obtain ⟨d', hd'⟩ : ∃ d', d' = (d.read p).1 := ⟨_, rfl⟩
  rw [← hc, ← hd'] at HP
  rw [← hc] at HW
  rw [← hc, ← hd']
  clear h ok hp hc hd'
  go_enter Tryz.func67, Tryz.ntmps67
  go_wp2_with fail
  refine HP.out.mono ?_
  rintro e w1 ⟨rfl, hb1⟩
  have HB1 := Lib.hid hb1
  clear hb1
  go_wp2_with fail
  refine (HW.out _).mono ?_
  rintro e w2 ⟨v, rfl, he, hb⟩
  have HE := Lib.hid he
  have HB := Lib.hid hb
  clear he hb
  go_wp2
  go_ret2
  exact ⟨_, rfl, HE.out, HB1.out.trans (HB.out.mono HB1.out.size)⟩
end ND
end Go.Proofs.YtdjlflinepefbabGreat
