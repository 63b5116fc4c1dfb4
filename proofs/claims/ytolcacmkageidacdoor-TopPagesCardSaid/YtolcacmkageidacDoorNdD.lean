/- What Erase, inside, does. -/
import Derived.Test.YtolcacmkageidacDoorNdC
import Derived.Test.YtolcacmkageidacDoorFCode
namespace Go.Proofs.YtolcacmkageidacDoor
namespace ND
open Go.RowKit MM
set_option linter.unusedVariables false
set_option linter.unusedSimpArgs false

theorem spoilt_none (m : Mis) : spoilt m ByteArray.empty = spoilt m ⟨#[]⟩ := rfl

set_option maxHeartbeats 2000000 in
set_option maxRecDepth 100000 in
/-- Where nothing is wrong, and no mishap waits. -/
theorem erase_ok {w : World} {r : Ref} {d : Nd} (h : NandAt w r d) (ok : d.Ok) (hops : d.ops ≤ 4611686018427387904) (p : Int) (hmay : d.mayErase p = 0) (hbr : brings d.mis 3 = 0) :
    Calls Tryd.prog 31 #[(.pointer (some ⟨r.pb, 0, none⟩)), .int .i64 p] w fun e w' => e = .returned .nilIface ∧ NandAt w' r ((d.counted).erased p.toNat d.mis 0) ∧ Mod r.has w w' := by
  have HMP := Lib.hid (mayErase_any h ok p)
  rw [hmay] at HMP
  have E0 : errV 0 = .nilIface := rfl
  rw [E0] at HMP
  obtain ⟨hd, hp, hbad⟩ := mayE_zero hmay
  obtain ⟨b, rfl, hb, hrep, e1, e2⟩ := block_facts ok hp
  rw [hrep]
  have H := Lib.hid h
  have OK := Lib.hid ok
  have OKC := Lib.hid ok.counted
  have HC := Lib.hid (count_any h ok hops 3)
  have HOPS := Lib.hid hops
  rw [hbr] at HC
  have hjunk := ok.mis
  have hbad2 := hbad
  rw [hrep] at hbad2
  have HBAD := Lib.hid hbad2
  clear h ok hmay hd hp hbad hrep E0 hbr hops hbad2
  go_enter Tryd.func31, Tryd.ntmps31
  go_wp2_with fail
  refine HMP.out.mono ?_
  rintro e w1 ⟨rfl, rfl⟩
  go_wp2_with fail
  refine HC.out.mono ?_
  rintro e w2 ⟨rfl, h2, hm2⟩
  have E0 : errV 0 = .nilIface := rfl
  have E9 : errV 9 = .iface 26 (.int .i64 9) := rfl
  have E41 : errV 41 = .iface 26 (.int .i64 41) := rfl
  simp only [E0, E9, E41]
  have H2 := Lib.hid h2
  have HM2 := Lib.hid hm2
  clear h2 hm2 E0 E9 E41
  obtain ⟨mv, hmv⟩ : ∃ m, m = d.mis := ⟨_, rfl⟩
  rw [← hmv] at hjunk
  rw [← hmv, misV_eq]
  have HMV := Lib.hid hmv
  clear hmv
  go_wp2_with fail
  obtain ⟨W3, hW3⟩ : ∃ W3, W3 = w2.alloc (.cells #[.int .i64 mv.at_, .int .i64 mv.kind, .int .i64 mv.keep, .string mv.junk] 25) := ⟨_, rfl⟩
  rw [← hW3]
  have h3 : NandAt W3 r d.counted := by rw [hW3]; exact H2.out.alloc _
  have m3 : Mod r.has w W3 := by rw [hW3]; exact HM2.out.alloc _
  have k3 : Blk W3 w2.heap.size 25 #[.int .i64 mv.at_, .int .i64 mv.kind, .int .i64 mv.keep, .string mv.junk] := by rw [hW3]; exact Blk.new w2 _ _
  have g2 : W3.cell? ⟨w2.heap.size, 2, none⟩ = some (.int .i64 mv.keep) := by rw [k3.cell]; rfl
  have H3 := Lib.hid h3
  have M3 := Lib.hid m3
  clear hW3 h3 m3 k3 g2
  refine (fill_any H3.out OKC.out b hb ⟨#[]⟩).mono ?_
  rintro e w4 ⟨rfl, h4, m4⟩
  have c3 : w4.cell? ⟨r.pb, 3, none⟩ = some (.slice (some ⟨r.gb, 0, none⟩) d.B d.B) := h4.cells.2.2.2.1
  have c4 := (h4.blocks.cell hb).1
  have z4 := h4.blocks.frozen (b * 3)
  obtain ⟨old, hold⟩ : ∃ v, v = Value.int .i64 ((d.counted.fill b ⟨#[]⟩).next b) := ⟨_, rfl⟩
  rw [← hold] at c4
  have h5 := h4.setNext b 0
  have x3 : (w4.setCell ⟨r.gb, b * 3, none⟩ (.int .i64 0)).cell? ⟨r.pb, 3, none⟩ = some (.slice (some ⟨r.gb, 0, none⟩) d.B d.B) := h5.cells.2.2.2.1
  have x5 : (w4.setCell ⟨r.gb, b * 3, none⟩ (.int .i64 0)).cell? ⟨r.gb, b * 3 + 1, none⟩ = some (.int .i64 (d.worn b)) := (h5.blocks.cell hb).2.1
  have y5 : (w4.setCell ⟨r.gb, b * 3, none⟩ (.int .i64 0)).frozen? ⟨r.gb, b * 3 + 1, none⟩ = false := h5.blocks.frozen (b * 3 + 1)
  have hwn : d.worn b ≤ d.ops + 1 := OKC.out.worn b
  have r0 : IntKind.i64.wrap ((d.worn b : Int) + 1) = (d.worn b : Int) + 1 := IntWalk.i64_in _ (by have := HOPS.out; omega)
  have H5 := Lib.hid h5
  have M5 := Lib.hid ((M3.out.trans m4).setCell (p := ⟨r.gb, b * 3, none⟩) (.inr (.inr (.inl rfl))) (.int .i64 0))
  clear h4 m4 hold hwn h5
  go_wp2_with fail
  have h6 := H5.out.setWorn b (d.worn b + 1)
  have m6 := M5.out.setCell (p := ⟨r.gb, b * 3 + 1, none⟩) (.inr (.inr (.inl rfl))) (.int .i64 ((d.worn b : Int) + 1))
  have h7 := (suffer_any h6 b hb 0 (.inl rfl))
  refine h7.mono ?_
  rintro e w8 ⟨rfl, h8, m8⟩
  have H8 := Lib.hid h8
  have M8 := Lib.hid (m6.trans m8)
  clear h8 m8 h6 m6 h7
  go_wp2
  go_ret
  exact ⟨rfl, H8.out, M8.out⟩

set_option maxHeartbeats 2000000 in
set_option maxRecDepth 100000 in
/-- Where nothing is wrong, and the power is lost, and nothing is kept. -/
theorem erase_down {w : World} {r : Ref} {d : Nd} (h : NandAt w r d) (ok : d.Ok) (hops : d.ops ≤ 4611686018427387904) (p : Int) (hmay : d.mayErase p = 0) (hbr : brings d.mis 3 = 9) (hk : d.mis.keep ≤ 0) :
    Calls Tryd.prog 31 #[(.pointer (some ⟨r.pb, 0, none⟩)), .int .i64 p] w fun e w' => e = .returned (.iface 26 (.int .i64 9)) ∧ NandAt w' r (((d.counted).erased p.toNat d.mis 9).suffer p.toNat 9) ∧ Mod r.has w w' := by
  have HMP := Lib.hid (mayErase_any h ok p)
  rw [hmay] at HMP
  have E0 : errV 0 = .nilIface := rfl
  rw [E0] at HMP
  obtain ⟨hd, hp, hbad⟩ := mayE_zero hmay
  obtain ⟨b, rfl, hb, hrep, e1, e2⟩ := block_facts ok hp
  rw [hrep]
  have H := Lib.hid h
  have OK := Lib.hid ok
  have OKC := Lib.hid ok.counted
  have HC := Lib.hid (count_any h ok hops 3)
  have HOPS := Lib.hid hops
  rw [hbr] at HC
  have hjunk := ok.mis
  have hbad2 := hbad
  rw [hrep] at hbad2
  have HBAD := Lib.hid hbad2
  clear h ok hmay hd hp hbad hrep E0 hbr hops hbad2
  go_enter Tryd.func31, Tryd.ntmps31
  go_wp2_with fail
  refine HMP.out.mono ?_
  rintro e w1 ⟨rfl, rfl⟩
  go_wp2_with fail
  refine HC.out.mono ?_
  rintro e w2 ⟨rfl, h2, hm2⟩
  have E0 : errV 0 = .nilIface := rfl
  have E9 : errV 9 = .iface 26 (.int .i64 9) := rfl
  have E41 : errV 41 = .iface 26 (.int .i64 41) := rfl
  simp only [E0, E9, E41]
  have H2 := Lib.hid h2
  have HM2 := Lib.hid hm2
  clear h2 hm2 E0 E9 E41
  obtain ⟨mv, hmv⟩ : ∃ m, m = d.mis := ⟨_, rfl⟩
  rw [← hmv] at hjunk
  rw [← hmv, misV_eq]
  rw [← hmv] at hk
  have HMV := Lib.hid hmv
  clear hmv
  go_wp2_with fail
  obtain ⟨W3, hW3⟩ : ∃ W3, W3 = w2.alloc (.cells #[.int .i64 mv.at_, .int .i64 mv.kind, .int .i64 mv.keep, .string mv.junk] 25) := ⟨_, rfl⟩
  rw [← hW3]
  have h3 : NandAt W3 r d.counted := by rw [hW3]; exact H2.out.alloc _
  have m3 : Mod r.has w W3 := by rw [hW3]; exact HM2.out.alloc _
  have k3 : Blk W3 w2.heap.size 25 #[.int .i64 mv.at_, .int .i64 mv.kind, .int .i64 mv.keep, .string mv.junk] := by rw [hW3]; exact Blk.new w2 _ _
  have g2 : W3.cell? ⟨w2.heap.size, 2, none⟩ = some (.int .i64 mv.keep) := by rw [k3.cell]; rfl
  have H3 := Lib.hid h3
  have M3 := Lib.hid m3
  clear hW3 h3 m3 k3
  have hkk : decide (0 < mv.keep) = false := by simp; omega
  clear hk
  refine (is_at 9 9 _ rfl).mono ?_
  rintro e w4 ⟨rfl, rfl⟩
  go_wp2_with fail
  refine (suffer_any H3.out b hb 9 (.inr (.inl rfl))).mono ?_
  rintro e w8 ⟨rfl, h8, m8⟩
  have H8 := Lib.hid h8
  have M8 := Lib.hid (M3.out.trans m8)
  clear h8 m8
  go_wp2
  go_ret
  refine ⟨rfl, ?_, M8.out⟩
  have hh := H8.out
  have he : (d.counted).erased b d.mis 9 = d.counted := by
    unfold Nd.erased
    rw [if_neg (by decide), if_neg]
    rintro ⟨_, h2⟩
    rw [← HMV.out] at h2
    simp at hkk; omega
  rw [he]
  exact hh

set_option maxHeartbeats 2000000 in
set_option maxRecDepth 100000 in
/-- Where nothing is wrong, and the erase fails. -/
theorem erase_bad {w : World} {r : Ref} {d : Nd} (h : NandAt w r d) (ok : d.Ok) (hops : d.ops ≤ 4611686018427387904) (p : Int) (hmay : d.mayErase p = 0) (hbr : brings d.mis 3 = 41) :
    Calls Tryd.prog 31 #[(.pointer (some ⟨r.pb, 0, none⟩)), .int .i64 p] w fun e w' => e = .returned (.iface 26 (.int .i64 41)) ∧ NandAt w' r (((d.counted).erased p.toNat d.mis 41).suffer p.toNat 41) ∧ Mod r.has w w' := by
  have HMP := Lib.hid (mayErase_any h ok p)
  rw [hmay] at HMP
  have E0 : errV 0 = .nilIface := rfl
  rw [E0] at HMP
  obtain ⟨hd, hp, hbad⟩ := mayE_zero hmay
  obtain ⟨b, rfl, hb, hrep, e1, e2⟩ := block_facts ok hp
  rw [hrep]
  have H := Lib.hid h
  have OK := Lib.hid ok
  have OKC := Lib.hid ok.counted
  have HC := Lib.hid (count_any h ok hops 3)
  have HOPS := Lib.hid hops
  rw [hbr] at HC
  have hjunk := ok.mis
  have hbad2 := hbad
  rw [hrep] at hbad2
  have HBAD := Lib.hid hbad2
  clear h ok hmay hd hp hbad hrep E0 hbr hops hbad2
  go_enter Tryd.func31, Tryd.ntmps31
  go_wp2_with fail
  refine HMP.out.mono ?_
  rintro e w1 ⟨rfl, rfl⟩
  go_wp2_with fail
  refine HC.out.mono ?_
  rintro e w2 ⟨rfl, h2, hm2⟩
  have E0 : errV 0 = .nilIface := rfl
  have E9 : errV 9 = .iface 26 (.int .i64 9) := rfl
  have E41 : errV 41 = .iface 26 (.int .i64 41) := rfl
  simp only [E0, E9, E41]
  have H2 := Lib.hid h2
  have HM2 := Lib.hid hm2
  clear h2 hm2 E0 E9 E41
  obtain ⟨mv, hmv⟩ : ∃ m, m = d.mis := ⟨_, rfl⟩
  rw [← hmv] at hjunk
  rw [← hmv, misV_eq]
  have HMV := Lib.hid hmv
  clear hmv
  go_wp2_with fail
  obtain ⟨W3, hW3⟩ : ∃ W3, W3 = w2.alloc (.cells #[.int .i64 mv.at_, .int .i64 mv.kind, .int .i64 mv.keep, .string mv.junk] 25) := ⟨_, rfl⟩
  rw [← hW3]
  have h3 : NandAt W3 r d.counted := by rw [hW3]; exact H2.out.alloc _
  have m3 : Mod r.has w W3 := by rw [hW3]; exact HM2.out.alloc _
  have k3 : Blk W3 w2.heap.size 25 #[.int .i64 mv.at_, .int .i64 mv.kind, .int .i64 mv.keep, .string mv.junk] := by rw [hW3]; exact Blk.new w2 _ _
  have g2 : W3.cell? ⟨w2.heap.size, 2, none⟩ = some (.int .i64 mv.keep) := by rw [k3.cell]; rfl
  have H3 := Lib.hid h3
  have M3 := Lib.hid m3
  clear hW3 h3 m3 k3
  refine (is_at 41 9 _ rfl).mono ?_
  rintro e w4 ⟨rfl, rfl⟩
  go_wp2_with fail
  refine (suffer_any H3.out b hb 41 (.inr (.inr rfl))).mono ?_
  rintro e w8 ⟨rfl, h8, m8⟩
  have H8 := Lib.hid h8
  have M8 := Lib.hid (M3.out.trans m8)
  clear h8 m8
  go_wp2
  go_ret
  refine ⟨rfl, ?_, M8.out⟩
  have hh := H8.out
  have he : (d.counted).erased b d.mis 41 = d.counted := by
    unfold Nd.erased
    rw [if_neg (by decide), if_neg]
    rintro ⟨h2, _⟩
    exact absurd h2 (by decide)
  rw [he]
  exact hh

set_option maxHeartbeats 2000000 in
set_option maxRecDepth 100000 in
/-- Where nothing is wrong, and the power is lost, and something is kept. -/
theorem erase_keep {w : World} {r : Ref} {d : Nd} (h : NandAt w r d) (ok : d.Ok) (hops : d.ops ≤ 4611686018427387904) (p : Int) (hmay : d.mayErase p = 0) (hbr : brings d.mis 3 = 9) (hk : 0 < d.mis.keep) :
    Calls Tryd.prog 31 #[(.pointer (some ⟨r.pb, 0, none⟩)), .int .i64 p] w fun e w' => e = .returned (.iface 26 (.int .i64 9)) ∧ NandAt w' r (((d.counted).erased p.toNat d.mis 9).suffer p.toNat 9) ∧ Mod r.has w w' := by
  have HMP := Lib.hid (mayErase_any h ok p)
  rw [hmay] at HMP
  have E0 : errV 0 = .nilIface := rfl
  rw [E0] at HMP
  obtain ⟨hd, hp, hbad⟩ := mayE_zero hmay
  obtain ⟨b, rfl, hb, hrep, e1, e2⟩ := block_facts ok hp
  rw [hrep]
  have H := Lib.hid h
  have OK := Lib.hid ok
  have OKC := Lib.hid ok.counted
  have HC := Lib.hid (count_any h ok hops 3)
  have HOPS := Lib.hid hops
  rw [hbr] at HC
  have hjunk := ok.mis
  have hbad2 := hbad
  rw [hrep] at hbad2
  have HBAD := Lib.hid hbad2
  clear h ok hmay hd hp hbad hrep E0 hbr hops hbad2
  go_enter Tryd.func31, Tryd.ntmps31
  go_wp2_with fail
  refine HMP.out.mono ?_
  rintro e w1 ⟨rfl, rfl⟩
  go_wp2_with fail
  refine HC.out.mono ?_
  rintro e w2 ⟨rfl, h2, hm2⟩
  have E0 : errV 0 = .nilIface := rfl
  have E9 : errV 9 = .iface 26 (.int .i64 9) := rfl
  have E41 : errV 41 = .iface 26 (.int .i64 41) := rfl
  simp only [E0, E9, E41]
  have H2 := Lib.hid h2
  have HM2 := Lib.hid hm2
  clear h2 hm2 E0 E9 E41
  obtain ⟨mv, hmv⟩ : ∃ m, m = d.mis := ⟨_, rfl⟩
  rw [← hmv] at hjunk
  rw [← hmv, misV_eq]
  rw [← hmv] at hk
  have HMV := Lib.hid hmv
  clear hmv
  go_wp2_with fail
  obtain ⟨W3, hW3⟩ : ∃ W3, W3 = w2.alloc (.cells #[.int .i64 mv.at_, .int .i64 mv.kind, .int .i64 mv.keep, .string mv.junk] 25) := ⟨_, rfl⟩
  rw [← hW3]
  have h3 : NandAt W3 r d.counted := by rw [hW3]; exact H2.out.alloc _
  have m3 : Mod r.has w W3 := by rw [hW3]; exact HM2.out.alloc _
  have k3 : Blk W3 w2.heap.size 25 #[.int .i64 mv.at_, .int .i64 mv.kind, .int .i64 mv.keep, .string mv.junk] := by rw [hW3]; exact Blk.new w2 _ _
  have g2 : W3.cell? ⟨w2.heap.size, 2, none⟩ = some (.int .i64 mv.keep) := by rw [k3.cell]; rfl
  have H3 := Lib.hid h3
  have M3 := Lib.hid m3
  clear hW3 h3 m3
  have hkk : decide (0 < mv.keep) = true := by simp; omega
  have HK := Lib.hid hk
  clear hk
  refine (is_at 9 9 _ rfl).mono ?_
  rintro e w4 ⟨rfl, rfl⟩
  have g0 : W3.cell? ⟨w2.heap.size, 0, none⟩ = some (.int .i64 mv.at_) := by rw [k3.cell]; rfl
  have g1 : W3.cell? ⟨w2.heap.size, 1, none⟩ = some (.int .i64 mv.kind) := by rw [k3.cell]; rfl
  have g3 : W3.cell? ⟨w2.heap.size, 3, none⟩ = some (.string mv.junk) := by rw [k3.cell]; rfl
  clear k3
  have HSP : Hid (Calls Tryd.prog 44 #[.agg #[.int .i64 mv.at_, .int .i64 mv.kind, .int .i64 mv.keep, .string mv.junk], .string ⟨#[]⟩] W3 fun e w' => e = .returned (.string (spoilt mv ⟨#[]⟩)) ∧ Below W3.heap.size W3 w') := spoilt_any mv ⟨#[]⟩ W3 hjunk (by decide)
  go_wp2_with fail
  refine HSP.out.mono ?_
  rintro e w3 ⟨rfl, hb3⟩
  obtain ⟨T, hT⟩ : ∃ T, T = spoilt mv ⟨#[]⟩ := ⟨_, rfl⟩
  rw [← hT]
  have HT := Lib.hid hT
  have H3' := Lib.hid (H3.out.below hb3)
  have M3' := Lib.hid (M3.out.trans (Mod.of_below hb3))
  clear hT hb3 g0 g1 g2 g3
  go_wp2_with fail
  refine (fill_any H3'.out OKC.out b hb T).mono ?_
  rintro e w4 ⟨rfl, h4, m4⟩
  have c3 : w4.cell? ⟨r.pb, 3, none⟩ = some (.slice (some ⟨r.gb, 0, none⟩) d.B d.B) := h4.cells.2.2.2.1
  have c1 : w4.cell? ⟨r.pb, 1, none⟩ = some (.int .i64 d.P) := h4.cells.2.1
  have c4 := (h4.blocks.cell hb).1
  have z4 := h4.blocks.frozen (b * 3)
  obtain ⟨old, hold⟩ : ∃ v, v = Value.int .i64 ((d.counted.fill b T).next b) := ⟨_, rfl⟩
  rw [← hold] at c4
  have H4 := Lib.hid h4
  have M4 := Lib.hid (M3'.out.trans m4)
  clear h4 m4 hold
  go_wp2
  go_region_with (fail)
  all_goals
    have h6 := (H4.out.setNext b d.P).drew
    have m6 := (M4.out.setCell (p := ⟨r.gb, b * 3, none⟩) (.inr (.inr (.inl rfl))) (.int .i64 (d.P : Int))).drew
    obtain ⟨W6, hW6⟩ : ∃ W6, W6 = (w4.setCell ⟨r.gb, b * 3, none⟩ (.int .i64 (d.P : Int))).drew := ⟨_, rfl⟩
    rw [← hW6] at h6 m6 ⊢
    have H6 := Lib.hid h6
    have M6 := Lib.hid m6
    clear c3 c1 z4 c4 hW6 h6 m6
    go_wp2_with fail
    refine (suffer_any H6.out b hb 9 (.inr (.inl rfl))).mono ?_
    rintro e w8 ⟨rfl, h8, m8⟩
    have H8 := Lib.hid h8
    have M8 := Lib.hid (M6.out.trans m8)
    clear h8 m8
    go_wp2
    go_ret
    refine ⟨rfl, ?_, M8.out⟩
    have hh := H8.out
    rw [HT.out] at hh
    have he : (d.counted).erased b d.mis 9 = { (d.counted).fill b (spoilt mv ⟨#[]⟩) with next := put d.next b d.P } := by
      unfold Nd.erased
      rw [if_neg (by decide), if_pos ⟨rfl, by rw [← HMV.out]; exact HK.out⟩, ← HMV.out, spoilt_none]
      rfl
    rw [he]
    exact hh

/-- What the unexported erase does, whatever is asked of whichever array. -/
theorem erase_in {w : World} {r : Ref} {d : Nd} (h : NandAt w r d) (ok : d.Ok) (hops : d.ops ≤ 4611686018427387904) (p : Int) :
    Calls Tryd.prog 31 #[(.pointer (some ⟨r.pb, 0, none⟩)), .int .i64 p] w fun e w' => e = .returned (errV (d.erase p).2) ∧ NandAt w' r (d.erase p).1 ∧ Mod r.has w w' := by
  unfold Nd.erase
  by_cases hmay : d.mayErase p = 0
  · rw [if_neg (by simpa using hmay)]
    rcases brings_some d.mis 3 with hbr | hbr | hbr
    · refine (erase_ok h ok hops p hmay hbr).mono ?_
      rintro e w' ⟨rfl, h1, h2⟩
      rw [hbr]
      exact ⟨rfl, h1, h2⟩
    · rw [hbr]
      by_cases hk : 0 < d.mis.keep
      · exact erase_keep h ok hops p hmay hbr hk
      · exact erase_down h ok hops p hmay hbr (by omega)
    · rw [hbr]
      exact erase_bad h ok hops p hmay hbr
  · rw [if_pos hmay]
    have HMP := Lib.hid (mayErase_any h ok p)
    rw [errV_ne hmay] at HMP
    show Calls _ _ _ _ fun e w' => e = .returned (errV (d.mayErase p)) ∧ NandAt w' r d ∧ Mod r.has w w'
    rw [errV_ne hmay]
    have H := Lib.hid h
    obtain ⟨c, hc⟩ : ∃ c, c = d.mayErase p := ⟨_, rfl⟩
    rw [← hc] at HMP ⊢
    clear h ok hops hmay hc
    go_enter Tryd.func31, Tryd.ntmps31
    go_wp2_with fail
    refine HMP.out.mono ?_
    rintro e w1 ⟨rfl, rfl⟩
    go_wp2
    go_ret
    exact ⟨rfl, H.out, Mod.refl _ _⟩

/-- What an error is that came by one step: none, or the number, wrapped once. -/
def ErrIs (w : World) (op : ByteArray) (p c : Int) (v : Value) : Prop :=
  (c = 0 ∧ v = .nilIface) ∨ (c ≠ 0 ∧ ∃ b, v = .iface 87 (.pointer (some ⟨b, 0, none⟩)) ∧ Blk w b 91 #[.string op, .int .i64 p, .iface 26 (.int .i64 c)] ∧ (Lit.int .i64 p).wf = true ∧ (Lit.int .i64 c).wf = true ∧ op.size ≤ maxLen)
theorem Mod.more {S S' : Nat → Prop} {a w : World} (h : Mod S a w) (hS : ∀ k, S k → S' k) : Mod S' a w := h.mono fun k _ => hS k
theorem wrap_errV (op : ByteArray) (p c : Int) (w : World) (hp : (Lit.int .i64 p).wf = true) (hc : (Lit.int .i64 c).wf = true) (ho : op.size ≤ maxLen) :
    Calls Tryd.prog 22 #[.string op, .int .i64 p, errV c] w fun e w' => ∃ v, e = .returned v ∧ ErrIs w' op p c v ∧ Below w.heap.size w w' := by
  by_cases h : c = 0
  · subst h
    refine (ER.wrap_nil op p w).mono ?_
    rintro e w' ⟨rfl, rfl⟩
    exact ⟨_, rfl, .inl ⟨rfl, rfl⟩, Below.refl _ _⟩
  · rw [errV_ne h]
    have h0 : ER.IsErr w w.heap.size (.num c) (.iface 26 (.int .i64 c)) := ⟨rfl, hc⟩
    refine (ER.wrap_any op p (.num c) _ w h0 hp ho).mono ?_
    rintro e w' ⟨rfl, rfl⟩
    exact ⟨_, rfl, .inr ⟨h, _, rfl, Blk.new w _ _, hp, hc, ho⟩, (Below.refl _ _).alloc (Nat.le_refl _) _⟩
theorem ErrIs.isErr {w : World} {op : ByteArray} {p c : Int} {v : Value} (h : ErrIs w op p c v) (hc : c ≠ 0) : ER.IsErr w w.heap.size (.fault op p (.num c)) v := by
  rcases h with ⟨rfl, _⟩ | ⟨_, b, rfl, hb, h1, h2, h3⟩
  · exact absurd rfl hc
  · exact ⟨b, _, rfl, hb.lt, hb, h1, h3, rfl, h2⟩
theorem code_err {w : World} {op : ByteArray} {p c : Int} {v : Value} (h : ErrIs w op p c v) (hg : ER.ErrorType w) :
    Calls Tryd.prog 11 #[v] w fun e w' => e = .returned (.int .i64 c) ∧ Below w.heap.size w w' := by
  by_cases hc : c = 0
  · rcases h with ⟨rfl, rfl⟩ | ⟨h, _⟩
    · exact ER.code_nil w
    · exact absurd hc h
  · exact ER.code_any _ _ w (h.isErr hc) hg
theorem ErrIs.none {w : World} {op : ByteArray} {p c : Int} {v : Value} (h : ErrIs w op p c v) (hc : c = 0) : v = .nilIface := by
  rcases h with h | ⟨h, _⟩
  · exact h.2
  · exact absurd hc h
theorem ErrIs.some {w : World} {op : ByteArray} {p c : Int} {v : Value} (h : ErrIs w op p c v) (hc : c ≠ 0) : ∃ t x, v = .iface t x := by
  rcases h with h | ⟨h, b, rfl, _⟩
  · exact absurd h.1 hc
  · exact ⟨_, _, rfl⟩
/-- Blocks of types that no array is made of stay as they are. -/
def Other (T : TypeId) : Bool := T != 64 && T != 9 && T != 72
def Errs (w w' : World) : Prop := ∀ b T cs, Other T = true → Blk w b T cs → Blk w' b T cs
theorem ErrIs.keep {w w' : World} {op : ByteArray} {p c : Int} {v : Value} (h : ErrIs w op p c v) (hk : Errs w w') : ErrIs w' op p c v := by
  rcases h with h | ⟨h, b, rfl, hb, hr⟩
  · exact .inl h
  · exact .inr ⟨h, b, rfl, hk _ _ _ rfl hb, hr⟩

theorem may_wf (d : Nd) (p : Int) (s : ByteArray) : (Lit.int .i64 (d.program p s).2).wf = true := by
  unfold Nd.program
  split
  · show (Lit.int .i64 (d.mayProgram p s)).wf = true
    unfold Nd.mayProgram
    repeat' split
    all_goals rfl
  · rcases brings_some d.mis 2 with h | h | h <;> (show (Lit.int .i64 (brings d.mis 2)).wf = true; rw [h]; rfl)
theorem mayE_wf (d : Nd) (p : Int) : (Lit.int .i64 (d.erase p).2).wf = true := by
  unfold Nd.erase
  split
  · show (Lit.int .i64 (d.mayErase p)).wf = true
    unfold Nd.mayErase
    repeat' split
    all_goals rfl
  · rcases brings_some d.mis 3 with h | h | h <;> (show (Lit.int .i64 (brings d.mis 3)).wf = true; rw [h]; rfl)
theorem read_wf (d : Nd) (p : Int) : (Lit.int .i64 (d.read p).2).wf = true := by
  unfold Nd.read
  repeat' split
  all_goals rfl

abbrev opProgram : ByteArray := ⟨#[112, 114, 111, 103, 114, 97, 109]⟩
abbrev opErase : ByteArray := ⟨#[101, 114, 97, 115, 101]⟩
abbrev opRead : ByteArray := ⟨#[114, 101, 97, 100]⟩
abbrev opNew : ByteArray := ⟨#[110, 101, 119]⟩

theorem program_any {w : World} {r : Ref} {d : Nd} (h : NandAt w r d) (ok : d.Ok) (hops : d.ops ≤ 4611686018427387904) (p : Int) (hp : (Lit.int .i64 p).wf = true) (s : ByteArray) :
    Calls Tryd.prog 9 #[(.pointer (some ⟨r.pb, 0, none⟩)), .int .i64 p, .string s] w fun e w' => ∃ v, e = .returned v ∧ ErrIs w' opProgram p (d.program p s).2 v ∧ NandAt w' r (d.program p s).1 ∧ Mod r.has w w' := by
  have HP := Lib.hid (program_in h ok hops p s)
  have HW := Lib.hid (fun w => wrap_errV opProgram p (d.program p s).2 w hp (may_wf d p s) (by decide))
  obtain ⟨c, hc⟩ : ∃ c, c = (d.program p s).2 := ⟨_, rfl⟩
  obtain ⟨d', hd'⟩ : ∃ d', d' = (d.program p s).1 := ⟨_, rfl⟩
  rw [← hc, ← hd'] at HP
  rw [← hc] at HW
  rw [← hc, ← hd']
  clear h ok hops hp hc hd'
  go_enter Tryd.func9, Tryd.ntmps9
  go_wp2_with fail
  refine HP.out.mono ?_
  rintro e w1 ⟨rfl, h1, m1⟩
  have H1 := Lib.hid h1
  have M1 := Lib.hid m1
  clear h1 m1
  go_wp2_with fail
  refine (HW.out _).mono ?_
  rintro e w2 ⟨v, rfl, he, hb⟩
  have HE := Lib.hid he
  have HB := Lib.hid hb
  clear he hb
  go_wp2
  go_ret
  exact ⟨_, rfl, HE.out, H1.out.below HB.out, M1.out.trans (Mod.of_below HB.out)⟩
theorem erase_any {w : World} {r : Ref} {d : Nd} (h : NandAt w r d) (ok : d.Ok) (hops : d.ops ≤ 4611686018427387904) (p : Int) (hp : (Lit.int .i64 p).wf = true) :
    Calls Tryd.prog 15 #[(.pointer (some ⟨r.pb, 0, none⟩)), .int .i64 p] w fun e w' => ∃ v, e = .returned v ∧ ErrIs w' opErase p (d.erase p).2 v ∧ NandAt w' r (d.erase p).1 ∧ Mod r.has w w' := by
  have HP := Lib.hid (erase_in h ok hops p)
  have HW := Lib.hid (fun w => wrap_errV opErase p (d.erase p).2 w hp (mayE_wf d p) (by decide))
  obtain ⟨c, hc⟩ : ∃ c, c = (d.erase p).2 := ⟨_, rfl⟩
  obtain ⟨d', hd'⟩ : ∃ d', d' = (d.erase p).1 := ⟨_, rfl⟩
  rw [← hc, ← hd'] at HP
  rw [← hc] at HW
  rw [← hc, ← hd']
  clear h ok hops hp hc hd'
  go_enter Tryd.func15, Tryd.ntmps15
  go_wp2_with fail
  refine HP.out.mono ?_
  rintro e w1 ⟨rfl, h1, m1⟩
  have H1 := Lib.hid h1
  have M1 := Lib.hid m1
  clear h1 m1
  go_wp2_with fail
  refine (HW.out _).mono ?_
  rintro e w2 ⟨v, rfl, he, hb⟩
  have HE := Lib.hid he
  have HB := Lib.hid hb
  clear he hb
  go_wp2
  go_ret
  exact ⟨_, rfl, HE.out, H1.out.below HB.out, M1.out.trans (Mod.of_below HB.out)⟩
theorem readX_any {w : World} {r : Ref} {d : Nd} (h : NandAt w r d) (ok : d.Ok) (p : Int) (hp : (Lit.int .i64 p).wf = true) :
    Calls Tryd.prog 13 #[(.pointer (some ⟨r.pb, 0, none⟩)), .int .i64 p] w fun e w' => ∃ v, e = .returned (.tuple #[.string (d.read p).1, v]) ∧ ErrIs w' opRead p (d.read p).2 v ∧ Below w.heap.size w w' := by
  have HP := Lib.hid (read_any h ok p)
  have HW := Lib.hid (fun w => wrap_errV opRead p (d.read p).2 w hp (read_wf d p) (by decide))
  obtain ⟨c, hc⟩ : ∃ c, c = (d.read p).2 := ⟨_, rfl⟩
  obtain ⟨d', hd'⟩ : ∃ d', d' = (d.read p).1 := ⟨_, rfl⟩
  rw [← hc, ← hd'] at HP
  rw [← hc] at HW
  rw [← hc, ← hd']
  clear h ok hp hc hd'
  go_enter Tryd.func13, Tryd.ntmps13
  go_wp2_with fail
  refine HP.out.mono ?_
  rintro e w1 ⟨rfl, hb1⟩
  have HB1 := Lib.hid hb1
  clear hb1
  go_wp2_with fail
  refine (HW.out _).mono ?_
  rintro e w2 ⟨v, rfl, he, hb⟩
  have HE := Lib.hid he
  have HB := Lib.hid hb
  clear he hb
  go_wp2
  go_ret2
  exact ⟨_, rfl, HE.out, HB1.out.trans (HB.out.mono HB1.out.size)⟩
theorem up_any {w : World} {r : Ref} {d : Nd} (h : NandAt w r d) :
    Calls Tryd.prog 12 #[(.pointer (some ⟨r.pb, 0, none⟩))] w fun e w' => e = .returned (.tuple #[]) ∧ NandAt w' { r with pv := .map none } d.up ∧ Mod r.has w w' := by
  obtain ⟨_, _, _, _, _, c5, _, c7⟩ := h.cells
  have z7 := h.fz 7
  have h1 := h.setDown false
  have d5 := h1.cells.2.2.2.2.2.1
  have y5 := h1.fz 5
  have H1 := Lib.hid h1
  clear h1 h c5
  go_enter Tryd.func12, Tryd.ntmps12
  go_wp2
  simp [bodyPost, results, Tryd.results12, go_sem]
  exact ⟨H1.out.setPlan (.map none) (fun _ => none) (.inl ⟨rfl, rfl⟩), ((Mod.refl _ _).setCell (.inl rfl) _).setCell (.inl rfl) _⟩
theorem up_nil (w : World) : Calls Tryd.prog 12 #[.pointer none] w fun e w' => e = .returned (.tuple #[]) ∧ w = w' := by
  go_enter Tryd.func12, Tryd.ntmps12
  go_wp2
  simp [bodyPost, results, Tryd.results12, go_sem]
end ND
end Go.Proofs.YtolcacmkageidacDoor
