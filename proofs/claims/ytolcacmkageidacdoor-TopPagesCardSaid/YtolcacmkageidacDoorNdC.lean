/- What the array's methods do that change it: what a mishap does, a block's pages filled, a page programmed, a block erased. -/
import Derived.Test.YtolcacmkageidacDoorNdB
import Derived.Test.YtolcacmkageidacDoorClone
import Derived.Deep.RegionHeld3
import Derived.Deep.RegionWith
namespace Go.Proofs.YtolcacmkageidacDoor
namespace ND
open Go.RowKit MM
set_option linter.unusedVariables false
set_option linter.unusedSimpArgs false

theorem is_at (c x : Int) (w : World) (hc : (Lit.int .i64 c).wf = true) :
    Calls Tryd.prog 58 #[.iface 26 (.int .i64 c), .iface 26 (.int .i64 x)] w fun e w' => e = .returned (.bool (c == x)) ∧ w = w' :=
  ER.Is_num (.num c) _ x w w.heap.size ⟨rfl, hc⟩

theorem suffer_any {w : World} {r : Ref} {d : Nd} (h : NandAt w r d) (b : Nat) (hb : b < d.B) (c : Int) (hc : c = 0 ∨ c = 9 ∨ c = 41) :
    Calls Tryd.prog 46 #[(.pointer (some ⟨r.pb, 0, none⟩)), .int .i64 b, errV c] w fun e w' => e = .returned (.tuple #[]) ∧ NandAt w' r (d.suffer b c) ∧ Mod r.has w w' := by
  rcases hc with rfl | rfl | rfl
  · have H := Lib.hid h
    have E : errV 0 = .nilIface := rfl
    rw [E]
    clear h E
    go_enter Tryd.func46, Tryd.ntmps46
    go_wp2_with fail
    refine (ER.Is_nil 9 _).mono ?_
    rintro e w1 ⟨rfl, rfl⟩
    go_wp2_with fail
    refine (ER.Is_nil 41 _).mono ?_
    rintro e w1 ⟨rfl, rfl⟩
    go_wp2
    simp [bodyPost, results, Tryd.results46, go_sem]
    exact ⟨H.out, Mod.refl _ _⟩
  · have H := Lib.hid h
    have E : errV 9 = .iface 26 (.int .i64 9) := rfl
    rw [E]
    obtain ⟨_, _, _, _, _, _, _, c7⟩ := h.cells
    have z7 := h.fz 7
    clear h E
    go_enter Tryd.func46, Tryd.ntmps46
    go_wp2_with fail
    refine (is_at 9 9 _ rfl).mono ?_
    rintro e w1 ⟨rfl, rfl⟩
    go_wp2
    simp [bodyPost, results, Tryd.results46, go_sem]
    exact ⟨H.out.setDown true, (Mod.refl _ _).setCell (.inl rfl) _⟩
  · have H := Lib.hid h
    have E : errV 41 = .iface 26 (.int .i64 41) := rfl
    rw [E]
    obtain ⟨_, _, _, c3, _⟩ := h.cells
    obtain ⟨_, _, c5⟩ := h.blocks.cell hb
    have z5 := h.blocks.frozen (b * 3 + 2)
    have e1 : (0 : Int) ≤ (b : Int) := by omega
    have e2 : (b : Int) < (d.B : Int) := by omega
    clear h E
    go_enter Tryd.func46, Tryd.ntmps46
    go_wp2_with fail
    refine (is_at 41 9 _ rfl).mono ?_
    rintro e w1 ⟨rfl, rfl⟩
    go_wp2_with fail
    refine (is_at 41 41 _ rfl).mono ?_
    rintro e w1 ⟨rfl, rfl⟩
    go_wp2
    simp [bodyPost, results, Tryd.results46, go_sem]
    exact ⟨H.out.setBad b true, (Mod.refl _ _).setCell (.inr (.inr (.inl rfl))) _⟩

def Nd.filled (d : Nd) (b j : Nat) (s : ByteArray) : Nd := { d with txt := fun k => if b * d.P ≤ k ∧ k < b * d.P + j then s else d.txt k }
theorem filled_zero (d : Nd) (b : Nat) (s : ByteArray) : d.filled b 0 s = d := by
  unfold Nd.filled
  have : (fun k => if b * d.P ≤ k ∧ k < b * d.P + 0 then s else d.txt k) = d.txt := by
    funext k; rw [if_neg (by omega)]
  rw [this]
theorem filled_all (d : Nd) (b : Nat) (s : ByteArray) (hP : 0 < d.P) : d.filled b d.P s = d.fill b s := by
  unfold Nd.filled Nd.fill
  have : (fun k => if b * d.P ≤ k ∧ k < b * d.P + d.P then s else d.txt k) = fun k => if k / d.P = b then s else d.txt k := by
    funext k
    have e : (b * d.P ≤ k ∧ k < b * d.P + d.P) ↔ k / d.P = b := by
      rw [Nat.div_eq_iff hP]
      constructor
      · intro h; omega
      · intro h; have := h.1; have := h.2; omega
    by_cases hk : k / d.P = b
    · rw [if_pos hk, if_pos (e.2 hk)]
    · rw [if_neg hk, if_neg fun h => hk (e.1 h)]
  rw [this]
theorem filled_put (d : Nd) (b j : Nat) (s : ByteArray) : { d.filled b j s with txt := put (d.filled b j s).txt (b * d.P + j) s } = d.filled b (j + 1) s := by
  unfold Nd.filled put
  have : (fun k => if k = b * d.P + j then s else if b * d.P ≤ k ∧ k < b * d.P + j then s else d.txt k) = fun k => if b * d.P ≤ k ∧ k < b * d.P + (j + 1) then s else d.txt k := by
    funext k
    by_cases h1 : k = b * d.P + j
    · rw [if_pos h1, if_pos (by omega)]
    · rw [if_neg h1]
      by_cases h2 : b * d.P ≤ k ∧ k < b * d.P + j
      · rw [if_pos h2, if_pos (by omega)]
      · rw [if_neg h2, if_neg (by omega)]
  simp only [this]

set_option maxHeartbeats 1000000 in
theorem fill_any {w : World} {r : Ref} {d : Nd} (h : NandAt w r d) (ok : d.Ok) (b : Nat) (hb : b < d.B) (s : ByteArray) :
    Calls Tryd.prog 57 #[(.pointer (some ⟨r.pb, 0, none⟩)), .int .i64 b, .string s] w fun e w' => e = .returned (.tuple #[]) ∧ NandAt w' r (d.fill b s) ∧ Mod r.has w w' := by
  have c1 := h.cells.2.1
  have hP0 : 0 < d.P := by have := ok.p1; omega
  have hP2 := ok.p2
  have hB2 := ok.b2
  have hbp : b * d.P + d.P ≤ d.B * d.P := by
    have := Nat.mul_le_mul_right d.P (Nat.succ_le_of_lt hb)
    rw [Nat.succ_mul] at this; exact this
  have hBP : d.B * d.P ≤ 2048 := Nat.mul_le_mul hB2 hP2
  have hw : wrap64 ((b : Int) * (d.P : Int)) = ((b * d.P : Nat) : Int) := by
    rw [← Int.natCast_mul]
    have aux : ∀ q : Nat, q ≤ 2048 → wrap64 (q : Int) = q := by intro q hq; unfold wrap64; omega
    exact aux _ (by omega)
  have H := Lib.hid h
  obtain ⟨F, hF⟩ : ∃ F, F = b * d.P := ⟨_, rfl⟩
  obtain ⟨N, hN⟩ : ∃ N, N = d.B * d.P := ⟨_, rfl⟩
  obtain ⟨n, hn⟩ : ∃ n, n = d.P := ⟨_, rfl⟩
  have HF := Lib.hid hF
  have HN := Lib.hid hN
  have Hn := Lib.hid hn
  rw [← hF] at hw
  rw [← hn] at hw c1
  have hFn : F + n ≤ N := by rw [hF, hn, hN]; exact hbp
  have hN2 : N ≤ 2048 := by rw [hN]; exact hBP
  clear h hF hN hn hbp hBP hB2 hP2 hP0
  go_enter Tryd.func57, Tryd.ntmps57
  go_wp2
  rw [hw]
  clear hw
  go_loopw [20] (fun i wr => ∃ k : Nat, k ≤ n ∧ i = .int .i64 k ∧ NandAt wr r (d.filled b k s) ∧ Mod r.has w wr) (fun i _ => n - (intOf i).toNat)
  case atStart => exact ⟨0, Nat.zero_le _, rfl, by rw [filled_zero]; exact H.out, Mod.refl _ _⟩
  case round =>
    obtain ⟨k, hk, rfl, hat, hmod⟩ := hrel
    have d2 := hat.cells.2.2.1
    have ND := Lib.hid hat
    have HM := Lib.hid hmod
    have ez : ((d.filled b k s).B * (d.filled b k s).P : Nat) = N := HN.out.symm
    rw [ez] at d2
    obtain ⟨K, hK⟩ : ∃ K, K = F + k := ⟨_, rfl⟩
    have hwk : IntKind.i64.wrap ((F : Int) + (k : Int)) = (K : Int) := (IntWalk.i64_in _ (by omega)).trans (by omega)
    have hw1 : IntKind.i64.wrap ((k : Int) + 1) = (k : Int) + 1 := IntWalk.i64_in _ (by omega)
    have HK := Lib.hid hK
    by_cases hlt : k < n
    · have hKN : K < N := by omega
      have d6 := hat.pages.cell (i := K) (by rw [ez]; exact hKN)
      have z6 := hat.pages.frozen K
      obtain ⟨old, hold⟩ : ∃ t, t = Value.string ((d.filled b k s).txt K) := ⟨_, rfl⟩
      rw [← hold] at d6
      have e1 : (0 : Int) ≤ (K : Int) := by omega
      have e2 : (K : Int) < (N : Int) := by omega
      clear hK hat hmod ez hold
      go_wp2
      go_roundw
      case measure => show n - ((k : Int) + 1).toNat < n - ((k : Int)).toNat; omega
      case rel =>
        refine ⟨k + 1, by omega, rfl, ?_, HM.out.setCell (.inr (.inl rfl)) _⟩
        have hh := ND.out.setTxt K s
        rw [HK.out, HF.out, filled_put] at hh
        rw [HK.out, HF.out]
        exact hh
    · obtain rfl : k = n := by omega
      clear hK hat hmod ez
      go_wp2
      simp [bodyPost, results, Tryd.results57, go_sem]
      have hh := ND.out
      rw [Hn.out, filled_all _ _ _ (by have := ok.p1; omega)] at hh
      exact ⟨hh, HM.out⟩
theorem misV_eq (m : Mis) : misV m = .agg #[.int .i64 m.at_, .int .i64 m.kind, .int .i64 m.keep, .string m.junk] := rfl
theorem brings_some (m : Mis) (f : Int) : brings m f = 0 ∨ brings m f = 9 ∨ brings m f = 41 := by
  unfold brings
  split
  · exact .inr (.inl rfl)
  · split
    · exact .inr (.inr rfl)
    · exact .inl rfl
theorem errV_ne {c : Int} (h : c ≠ 0) : errV c = .iface 26 (.int .i64 c) := if_neg h

set_option maxHeartbeats 2000000 in
set_option maxRecDepth 100000 in
/-- Where nothing is wrong, and no mishap waits. -/
theorem program_ok {w : World} {r : Ref} {d : Nd} (h : NandAt w r d) (ok : d.Ok) (hops : d.ops ≤ 4611686018427387904) (p : Int) (s : ByteArray) (hmay : d.mayProgram p s = 0) (hbr : brings d.mis 2 = 0) :
    Calls Tryd.prog 23 #[(.pointer (some ⟨r.pb, 0, none⟩)), .int .i64 p, .string s] w fun e w' => e = .returned .nilIface ∧ NandAt w' r ((d.counted).wrote p.toNat s) ∧ Mod r.has w w' := by
  have HMP := Lib.hid (mayProgram_any h ok p s)
  rw [hmay] at HMP
  have E0 : errV 0 = .nilIface := rfl
  rw [E0] at HMP
  obtain ⟨hd, hp, hs, hbad, hnx⟩ := may_zero hmay
  obtain ⟨q, rfl, hq, hq2, hP0, hb, hrep⟩ := page_facts ok hp
  rw [hrep] at hbad hnx ⊢
  have H := Lib.hid h
  have OK := Lib.hid ok
  have HBR := Lib.hid hbr
  have HOPS := Lib.hid hops
  clear h ok hmay hd hp hbad hrep E0 hbr hops
  go_enter Tryd.func23, Tryd.ntmps23
  go_wp2_with fail
  refine HMP.out.mono ?_
  rintro e w1 ⟨rfl, hb1⟩
  have h1 := H.out.below hb1
  have HC := Lib.hid (count_any h1 OK.out HOPS.out 2)
  rw [HBR.out] at HC
  have HB1 := Lib.hid hb1
  clear h1 hb1
  go_wp2_with fail
  refine HC.out.mono ?_
  rintro e w2 ⟨rfl, h2, hm2⟩
  have E0 : errV 0 = .nilIface := rfl
  rw [E0]
  have H2 := Lib.hid h2
  have HM2 := Lib.hid hm2
  clear h2 hm2 E0
  obtain ⟨mv, hmv⟩ : ∃ m, m = d.mis := ⟨_, rfl⟩
  rw [← hmv, misV_eq]
  clear hmv
  go_wp2_with fail
  obtain ⟨W3, hW3⟩ : ∃ W3, W3 = w2.alloc (.cells #[.int .i64 mv.at_, .int .i64 mv.kind, .int .i64 mv.keep, .string mv.junk] 25) := ⟨_, rfl⟩
  rw [← hW3]
  have h3 : NandAt W3 r d.counted := by rw [hW3]; exact H2.out.alloc _
  have m3 : Mod r.has w1 W3 := by rw [hW3]; exact HM2.out.alloc _
  have HPL : Hid (Calls Tryd.prog 45 #[(.pointer (some ⟨r.pb, 0, none⟩)), .int .i64 q] W3 fun e w' => e = .returned (.tuple #[.int .i64 (q / d.P : Nat), .int .i64 (q % d.P : Nat)]) ∧ Below W3.heap.size W3 w') := place_any h3 hP0 q hq2
  have H3 := Lib.hid h3
  have M3 := Lib.hid m3
  clear hW3 h3 m3
  obtain ⟨b, hbq⟩ : ∃ b, b = q / d.P := ⟨_, rfl⟩
  obtain ⟨m, hmq⟩ : ∃ m, m = q % d.P := ⟨_, rfl⟩
  rw [← hbq] at hb HPL
  rw [← hmq] at HPL
  have HBQ := Lib.hid hbq
  have HNX := Lib.hid hnx
  clear hbq hmq hnx
  refine HPL.out.mono ?_
  rintro e w4 ⟨rfl, hb4⟩
  have h4 := H3.out.below hb4
  have m4 := M3.out.trans (Mod.of_below hb4)
  have c2 := h4.cells.2.2.1
  have ez : ((d.counted).B * (d.counted).P : Nat) = d.B * d.P := rfl
  rw [ez] at c2
  obtain ⟨N, hN⟩ : ∃ N, N = d.B * d.P := ⟨_, rfl⟩
  have c6 := h4.pages.cell (i := q) hq
  have z6 := h4.pages.frozen q
  rw [← hN] at c2 hq
  have e1 : (0 : Int) ≤ (q : Int) := by omega
  have e2 : (q : Int) < (N : Int) := by omega
  have l1 := h4.own.lt
  have l2 := h4.pages.lt
  have HCL := Lib.hid (clone_any s w4.drew (by omega))
  have H4 := Lib.hid h4
  have M4 := Lib.hid m4
  obtain ⟨old, hold⟩ : ∃ t, t = Value.string (d.counted.txt q) := ⟨_, rfl⟩
  rw [← hold] at c6
  clear hold hb4 h4 m4 ez hN
  go_wp2
  go_region_with (go_at_call 24; refine HCL.out.mono ?_; rintro e w5 ⟨rfl, hb5⟩; have d2 := (hb5.cell (p := ⟨r.pb, 2, none⟩) l1).trans c2; have d6 := (hb5.cell (p := ⟨r.gp, q, none⟩) l2).trans c6; have y6 : w5.frozen? ⟨r.gp, q, none⟩ = false := (H4.out.drew.below hb5).pages.frozen q)
  all_goals
    have h6 := (H4.out.drew.below hb5).setTxt q s
    have m6 : Mod r.has w1 (w5.setCell ⟨r.gp, q, none⟩ (.string s)) := (M4.out.drew.trans (Mod.of_below hb5)).setCell (.inr (.inl rfl)) _
    obtain ⟨W6, hW6⟩ : ∃ W6, W6 = w5.setCell ⟨r.gp, q, none⟩ (.string s) := ⟨_, rfl⟩
    rw [← hW6] at h6 m6 ⊢
    clear d2 d6 y6 hb5 hW6
    have c3 := h6.cells.2.2.2.1
    obtain ⟨c4, _, _⟩ := h6.blocks.cell hb
    have z4 := h6.blocks.frozen (b * 3)
    have hnb := OK.out.next b
    have hp2 := OK.out.p2
    have r0 : IntKind.i64.wrap ((d.next b : Int) + 1) = (d.next b : Int) + 1 := IntWalk.i64_in _ (by omega)
    have e3 : (0 : Int) ≤ (b : Int) := by omega
    have e4 : (b : Int) < (d.B : Int) := by omega
    have c3' : W6.cell? ⟨r.pb, 3, none⟩ = some (.slice (some ⟨r.gb, 0, none⟩) d.B d.B) := c3
    have c4' : W6.cell? ⟨r.gb, b * 3, none⟩ = some (.int .i64 (d.next b)) := c4
    have H6 := Lib.hid h6
    have M6 := Lib.hid m6
    clear h6 m6 c3 c4 hnb hp2
    go_wp2_with fail
    obtain ⟨W7, hW7⟩ : ∃ W7, W7 = W6.setCell ⟨r.gb, b * 3, none⟩ (.int .i64 ((d.next b : Int) + 1)) := ⟨_, rfl⟩
    rw [← hW7]
    have h7 : NandAt W7 r (d.counted.wrote q s) := by
      rw [hW7]
      have := H6.out.setNext b (d.next b + 1)
      rw [HBQ.out] at this ⊢
      exact this
    have m7 : Mod r.has w1 W7 := by rw [hW7]; exact M6.out.setCell (.inr (.inr (.inl rfl))) _
    refine (suffer_any h7 b hb 0 (.inl rfl)).mono ?_
    rintro e w8 ⟨rfl, h8, m8⟩
    have H8 := Lib.hid h8
    have M8 := Lib.hid (m7.trans m8)
    clear h8 m8 h7 m7 hW7
    go_wp2
    go_ret
    exact ⟨rfl, H8.out, (Mod.of_below HB1.out).trans M8.out⟩
set_option maxHeartbeats 2000000 in
set_option maxRecDepth 100000 in
/-- Where nothing is wrong, and a mishap waits. -/
theorem program_hit {w : World} {r : Ref} {d : Nd} (h : NandAt w r d) (ok : d.Ok) (hops : d.ops ≤ 4611686018427387904) (p : Int) (s : ByteArray) (hmay : d.mayProgram p s = 0) (c : Int) (hbr : brings d.mis 2 = c) (hc : c ≠ 0) :
    Calls Tryd.prog 23 #[(.pointer (some ⟨r.pb, 0, none⟩)), .int .i64 p, .string s] w fun e w' => e = .returned (.iface 26 (.int .i64 c)) ∧ NandAt w' r (((d.counted).wrote p.toNat (spoilt d.mis s)).suffer (p.toNat / d.P) c) ∧ Mod r.has w w' := by
  have HMP := Lib.hid (mayProgram_any h ok p s)
  rw [hmay] at HMP
  have E0 : errV 0 = .nilIface := rfl
  rw [E0] at HMP
  obtain ⟨hd, hp, hs, hbad, hnx⟩ := may_zero hmay
  obtain ⟨q, rfl, hq, hq2, hP0, hb, hrep⟩ := page_facts ok hp
  rw [hrep] at hbad hnx ⊢
  have H := Lib.hid h
  have OK := Lib.hid ok
  have HBR := Lib.hid hbr
  have hc2 : c = 0 ∨ c = 9 ∨ c = 41 := hbr ▸ brings_some d.mis 2
  have HC2 := Lib.hid hc2
  have HC0 := Lib.hid hc
  have hjunk := ok.mis
  have HOPS := Lib.hid hops
  clear h ok hmay hd hp hbad hrep E0 hbr hops hc2 hc
  go_enter Tryd.func23, Tryd.ntmps23
  go_wp2_with fail
  refine HMP.out.mono ?_
  rintro e w1 ⟨rfl, hb1⟩
  have h1 := H.out.below hb1
  have HC := Lib.hid (count_any h1 OK.out HOPS.out 2)
  rw [HBR.out] at HC
  have HB1 := Lib.hid hb1
  clear h1 hb1
  go_wp2_with fail
  refine HC.out.mono ?_
  rintro e w2 ⟨rfl, h2, hm2⟩
  rw [errV_ne HC0.out]
  have H2 := Lib.hid h2
  have HM2 := Lib.hid hm2
  clear h2 hm2
  obtain ⟨mv, hmv⟩ : ∃ m, m = d.mis := ⟨_, rfl⟩
  rw [← hmv] at hjunk
  rw [← hmv, misV_eq]
  have HMV := Lib.hid hmv
  clear hmv
  have E9 : Hid (errV c = .iface 26 (.int .i64 c)) := errV_ne HC0.out
  go_wp2_with fail
  obtain ⟨W3, hW3⟩ : ∃ W3, W3 = w2.alloc (.cells #[.int .i64 mv.at_, .int .i64 mv.kind, .int .i64 mv.keep, .string mv.junk] 25) := ⟨_, rfl⟩
  rw [← hW3]
  have h3 : NandAt W3 r d.counted := by rw [hW3]; exact H2.out.alloc _
  have m3 : Mod r.has w1 W3 := by rw [hW3]; exact HM2.out.alloc _
  have H3 := Lib.hid h3
  have M3 := Lib.hid m3
  clear hW3 h3 m3
  have HSP : Hid (Calls Tryd.prog 44 #[.agg #[.int .i64 mv.at_, .int .i64 mv.kind, .int .i64 mv.keep, .string mv.junk], .string s] W3 fun e w' => e = .returned (.string (spoilt mv s)) ∧ Below W3.heap.size W3 w') := spoilt_any mv s W3 hjunk hs
  refine HSP.out.mono ?_
  rintro e w3 ⟨rfl, hb3⟩
  obtain ⟨T, hT⟩ : ∃ T, T = spoilt mv s := ⟨_, rfl⟩
  have hTs : T.size ≤ 128 := by rw [hT]; exact spoilt_size _ _
  rw [← hT]
  have H3' := Lib.hid (H3.out.below hb3)
  have M3' := Lib.hid (M3.out.trans (Mod.of_below hb3))
  have HPL : Hid (Calls Tryd.prog 45 #[(.pointer (some ⟨r.pb, 0, none⟩)), .int .i64 q] w3 fun e w' => e = .returned (.tuple #[.int .i64 (q / d.P : Nat), .int .i64 (q % d.P : Nat)]) ∧ Below w3.heap.size w3 w') := place_any H3'.out hP0 q hq2
  have HT := Lib.hid hT
  clear hb3 hT
  go_wp2_with fail
  obtain ⟨b, hbq⟩ : ∃ b, b = q / d.P := ⟨_, rfl⟩
  obtain ⟨m, hmq⟩ : ∃ m, m = q % d.P := ⟨_, rfl⟩
  rw [← hbq] at hb HPL
  rw [← hmq] at HPL
  have HBQ := Lib.hid hbq
  have HNX := Lib.hid hnx
  clear hbq hmq hnx
  refine HPL.out.mono ?_
  rintro e w4 ⟨rfl, hb4⟩
  have h4 := H3'.out.below hb4
  have m4 := M3'.out.trans (Mod.of_below hb4)
  have c2 := h4.cells.2.2.1
  have ez : ((d.counted).B * (d.counted).P : Nat) = d.B * d.P := rfl
  rw [ez] at c2
  obtain ⟨N, hN⟩ : ∃ N, N = d.B * d.P := ⟨_, rfl⟩
  have c6 := h4.pages.cell (i := q) hq
  have z6 := h4.pages.frozen q
  rw [← hN] at c2 hq
  have e1 : (0 : Int) ≤ (q : Int) := by omega
  have e2 : (q : Int) < (N : Int) := by omega
  have l1 := h4.own.lt
  have l2 := h4.pages.lt
  have HCL := Lib.hid (clone_any T w4.drew (by omega))
  have H4 := Lib.hid h4
  have M4 := Lib.hid m4
  obtain ⟨old, hold⟩ : ∃ t, t = Value.string (d.counted.txt q) := ⟨_, rfl⟩
  rw [← hold] at c6
  clear hold hb4 h4 m4 ez hN
  go_wp2
  go_region_with (go_at_call 24; refine HCL.out.mono ?_; rintro e w5 ⟨rfl, hb5⟩; have d2 := (hb5.cell (p := ⟨r.pb, 2, none⟩) l1).trans c2; have d6 := (hb5.cell (p := ⟨r.gp, q, none⟩) l2).trans c6; have y6 : w5.frozen? ⟨r.gp, q, none⟩ = false := (H4.out.drew.below hb5).pages.frozen q)
  all_goals
    have h6 := (H4.out.drew.below hb5).setTxt q T
    have m6 : Mod r.has w1 (w5.setCell ⟨r.gp, q, none⟩ (.string T)) := (M4.out.drew.trans (Mod.of_below hb5)).setCell (.inr (.inl rfl)) _
    obtain ⟨W6, hW6⟩ : ∃ W6, W6 = w5.setCell ⟨r.gp, q, none⟩ (.string T) := ⟨_, rfl⟩
    rw [← hW6] at h6 m6 ⊢
    clear d2 d6 y6 hb5 hW6
    have c3 := h6.cells.2.2.2.1
    obtain ⟨c4, _, _⟩ := h6.blocks.cell hb
    have z4 := h6.blocks.frozen (b * 3)
    have hnb := OK.out.next b
    have hp2 := OK.out.p2
    have r0 : IntKind.i64.wrap ((d.next b : Int) + 1) = (d.next b : Int) + 1 := IntWalk.i64_in _ (by omega)
    have e3 : (0 : Int) ≤ (b : Int) := by omega
    have e4 : (b : Int) < (d.B : Int) := by omega
    have c3' : W6.cell? ⟨r.pb, 3, none⟩ = some (.slice (some ⟨r.gb, 0, none⟩) d.B d.B) := c3
    have c4' : W6.cell? ⟨r.gb, b * 3, none⟩ = some (.int .i64 (d.next b)) := c4
    have H6 := Lib.hid h6
    have M6 := Lib.hid m6
    clear h6 m6 c3 c4 hnb hp2
    go_wp2_with fail
    obtain ⟨W7, hW7⟩ : ∃ W7, W7 = W6.setCell ⟨r.gb, b * 3, none⟩ (.int .i64 ((d.next b : Int) + 1)) := ⟨_, rfl⟩
    rw [← hW7]
    have h7 : NandAt W7 r (d.counted.wrote q T) := by
      rw [hW7]
      have := H6.out.setNext b (d.next b + 1)
      rw [HBQ.out] at this ⊢
      exact this
    have m7 : Mod r.has w1 W7 := by rw [hW7]; exact M6.out.setCell (.inr (.inr (.inl rfl))) _
    rw [← E9.out]
    refine (suffer_any h7 b hb c HC2.out).mono ?_
    rintro e w8 ⟨rfl, h8, m8⟩
    have H8 := Lib.hid h8
    have M8 := Lib.hid (m7.trans m8)
    clear h8 m8 h7 m7 hW7
    go_wp2
    rw [E9.out]
    go_ret
    have hh := H8.out
    rw [HT.out, HMV.out, HBQ.out] at hh
    exact ⟨rfl, hh, (Mod.of_below HB1.out).trans M8.out⟩
/-- What the unexported program does, whatever is asked of whichever array. -/
theorem program_in {w : World} {r : Ref} {d : Nd} (h : NandAt w r d) (ok : d.Ok) (hops : d.ops ≤ 4611686018427387904) (p : Int) (s : ByteArray) :
    Calls Tryd.prog 23 #[(.pointer (some ⟨r.pb, 0, none⟩)), .int .i64 p, .string s] w fun e w' => e = .returned (errV (d.program p s).2) ∧ NandAt w' r (d.program p s).1 ∧ Mod r.has w w' := by
  unfold Nd.program
  by_cases hmay : d.mayProgram p s = 0
  · rw [if_neg (by simpa using hmay)]
    by_cases hbr : brings d.mis 2 = 0
    · refine (program_ok h ok hops p s hmay hbr).mono ?_
      rintro e w' ⟨rfl, h1, h2⟩
      rw [hbr]
      refine ⟨rfl, ?_, h2⟩
      unfold Nd.takes
      rw [if_pos hbr]
      exact h1
    · refine (program_hit h ok hops p s hmay _ rfl hbr).mono ?_
      rintro e w' ⟨rfl, h1, h2⟩
      refine ⟨by rw [errV_ne hbr], ?_, h2⟩
      unfold Nd.takes
      rw [if_neg hbr]
      exact h1
  · rw [if_pos hmay]
    have HMP := Lib.hid (mayProgram_any h ok p s)
    rw [errV_ne hmay] at HMP
    show Calls _ _ _ _ fun e w' => e = .returned (errV (d.mayProgram p s)) ∧ NandAt w' r d ∧ Mod r.has w w'
    rw [errV_ne hmay]
    have H := Lib.hid h
    obtain ⟨c, hc⟩ : ∃ c, c = d.mayProgram p s := ⟨_, rfl⟩
    rw [← hc] at HMP ⊢
    clear h ok hops hmay hc
    go_enter Tryd.func23, Tryd.ntmps23
    go_wp2_with fail
    refine HMP.out.mono ?_
    rintro e w1 ⟨rfl, hb1⟩
    have HB1 := Lib.hid hb1
    clear hb1
    go_wp2
    go_ret
    exact ⟨rfl, H.out.below HB1.out, Mod.of_below HB1.out⟩
end ND
end Go.Proofs.YtolcacmkageidacDoor
