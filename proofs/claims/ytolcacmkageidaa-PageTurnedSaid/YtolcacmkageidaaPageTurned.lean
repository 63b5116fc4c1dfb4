/- The law PageTurned holds: its Go text answers true for every input, and leaves its arguments as they were. No condition beyond the statement's own. -/
import Derived.Test.YtolcacmkageidaaRows
import Derived.Test.YtolcacmkageidaaPgE
import Derived.Test.YtolcacmkageidaaBytes
import Derived.Test.YtolcacmkageidaaAwake5
import Derived.Test.YtolcacmkageidaaOpen5
import Derived.ProofKit
import Derived.OpenShut
import Derived.ShutString
import Derived.ChangeOld
import Derived.Below
import Derived.SizedLaws
namespace Go.Proofs.Ytolcacmkageidaa.pageTurned
open Go.ChangeShapes Go.WideShapes Go.ChangeAt Go.RowKit
open Go.ChangeMaps (open_string shut_string)
open Go.Proofs.Ytolcacmkageidaa.FM
set_option linter.unusedVariables false
set_option linter.unusedSimpArgs false

theorem own : ownKnob Try.prog.godebug = none := by kernel_rfl
theorem laidOut : laidOutB Try.prog = true := by kernel_rfl

open PG FM CM MM

set_option maxHeartbeats 2000000 in
theorem turned_no (x0 : Pg) (a1 a2 : Int) (w : World) (h : ¬ May x0) :
    Calls Try.prog 8 #[.agg #[.int .i64 x0.kind, .int .i64 x0.space, .int .i64 x0.key, .int .i64 x0.seq, .string x0.body], .int .i64 a1, .int .u32 a2] w fun e w' => e = .returned (.bool true) ∧ Below w.heap.size w w' := by
  have HW0 := Lib.hid (write_no x0 h)
  clear h
  obtain ⟨k, s, y, q, b⟩ := x0
  obtain ⟨w0, hw0⟩ : ∃ w0, w0 = w.alloc (.cells #[.int .i64 k, .int .i64 s, .int .i64 y, .int .i64 q, .string b] 23) := ⟨_, rfl⟩
  have hb0 : Below w.heap.size w w0 := by rw [hw0]; exact below_box w _
  have HWW := Lib.hid hw0
  clear hw0
  go_enter Try.func8, Try.ntmps8
  go_wp2_with fail
  rw [← HWW.out]
  refine (HW0.out _).mono ?_
  rintro e w1 ⟨rfl, hb1⟩
  have HB1 := Lib.hid (hb0.trans (hb1.mono hb0.size))
  clear hb1 hb0
  go_wp2_with fail
  refine (PG.awake_any _).mono ?_
  rintro e w2 ⟨rfl, hb2⟩
  have HB2 := Lib.hid (HB1.out.trans (hb2.mono HB1.out.size))
  clear hb2
  go_wp2
  go_ret
  exact ⟨rfl, HB2.out⟩

set_option maxRecDepth 100000 in
set_option maxHeartbeats 8000000 in
theorem turned_yes (k s y q : Int) (b : ByteArray) (a1 a2 : Int) (w : World) (w1 : (Lit.int .i64 a1).wf = true) (w2 : (Lit.int .u32 a2).wf = true) (h : May ⟨k, s, y, q, b⟩) :
    Calls Try.prog 8 #[.agg #[.int .i64 k, .int .i64 s, .int .i64 y, .int .i64 q, .string b], .int .i64 a1, .int .u32 a2] w fun e w' => e = .returned (.bool true) ∧ Below w.heap.size w w' := by
  have HS := Lib.hid (write_yes ⟨k, s, y, q, b⟩ h)
  have hAns := ans_bytes h
  obtain ⟨S, hS⟩ : ∃ S, S = str (PG.bytes ⟨k, s, y, q, b⟩) := ⟨_, rfl⟩
  rw [← hS] at HS hAns
  have hSz : S.size = 20 + b.size := by rw [hS, str_size, PG.bytes_len]
  have hb5 : b.size ≤ 100 := h.2.2.2.2
  obtain ⟨n, hn⟩ : ∃ n, n = 20 + b.size := ⟨_, rfl⟩
  rw [← hn] at hSz
  have n4 : 4 ≤ n := by omega
  have n5 : n ≤ 20004 := by omega
  have HTAIL : Hid (tailOk S.data.toList) := by show tailOk _; rw [hS]; exact sealed_ok _
  obtain ⟨f, hf, hfl⟩ := first_place_of a1 n n4 n5
  have HSe := Lib.hid hS
  have HA := Lib.hid hAns
  obtain ⟨w0, hw0⟩ : ∃ w0, w0 = w.alloc (.cells #[.int .i64 k, .int .i64 s, .int .i64 y, .int .i64 q, .string b] 23) := ⟨_, rfl⟩
  have hb0 : Below w.heap.size w w0 := by rw [hw0]; exact below_box w _
  have k0 : Blk w0 w.heap.size 23 #[.int .i64 k, .int .i64 s, .int .i64 y, .int .i64 q, .string b] := by rw [hw0]; exact Blk.new w _ _
  have HWW := Lib.hid hw0
  clear hS hn hAns h hw0 hb5
  go_enter Try.func8, Try.ntmps8
  go_wp2_with fail
  rw [← HWW.out]
  refine (HS.out _).mono ?_
  rintro e w3 ⟨rfl, hb1⟩
  have hk1 := k0.below hb1 k0.lt
  have hb1' := hb0.trans (hb1.mono hb0.size)
  obtain ⟨c, w4, hcv, hcap, hlt, hb2, hby⟩ := conv_to w3 S
  rw [hSz] at hcv hcap
  have hGB : w.heap.size < w3.heap.size := hk1.lt
  have hk2 := hk1.below hb2 hk1.lt
  generalize w3.heap.size = G at hcv hlt hb2 hby hGB hb1'
  have hbel : Below w.heap.size w w4 := hb1'.trans (hb2.mono (Nat.le_of_lt hGB))
  have HK2 := Lib.hid hk2
  have hz : ¬ n = 0 := by omega
  have hz2 : ((8 : Int) * (n : Int) == 0) = false := by simp; omega
  clear hk2 hk1 hb1 hb1' hb2 k0 hb0
  go_wp2
  clear hf hcv hz hz2
  have hS0 : S.data.toList.length = n := by rw [CM.len_size]; exact hSz
  go_loopw [12] (fun i wr => ∃ (j : Nat) (l : List UInt8) (W : BitVec 32), j ≤ 32 ∧ i = .int .i64 j ∧ Hid (Inv S.data.toList l (8 * n - f) j W) ∧ l.length = n ∧ Bytes wr G l ∧ Hid (Blk wr w.heap.size 23 #[.int .i64 k, .int .i64 s, .int .i64 y, .int .i64 q, .string b]) ∧ Below w.heap.size w wr ∧ G < wr.heap.size) (fun i _ => 32 - (intOf i).toNat)
  case atStart => exact ⟨0, _, _, by omega, rfl, Inv.start _ _, hS0, hby, HK2, hbel, hlt⟩
  case round =>
    obtain ⟨j, l, W, hk, rfl, hinv, hll, hby, hbox, hbl, hGs⟩ := hrel
    by_cases hlt : j < 32
    · by_cases hin : f + j < 8 * n
      · obtain ⟨hc, hz⟩ := hby ((f + j) / 8) (by omega)
        have i0 : (0 : Int) ≤ ((f : Int) + (j : Int)) / 8 := by omega
        have i1 : ((f : Int) + (j : Int)) / 8 < (n : Int) := by omega
        have HB := Lib.hid hby
        clear hby
        go_wp2
        · have hturn : Inv S.data.toList (CM.flip l (f + j)) (8 * n - f) (j + 1) (W ^^^ (top >>> j)) := by
            have h := hinv.out
            rw [← hS0] at h ⊢
            exact h.turn hlt (by rw [hS0]; exact hin)
          have hbyte := flip_byte (l.getD ((f + j) / 8) 0) ((f + j) % 8) (by omega)
          rw [List.getD_eq_getElem?_getD] at hbyte
          rw [hbyte]
          go_roundw
          case rel => exact ⟨j + 1, CM.flip l (f + j), _, by omega, by go_num, hturn, by rw [flip_len]; exact hll, bytes_set HB.out (by omega) hGs, Lib.hid (Blk.far hbox.out (Nat.ne_of_lt hGB) _), hbl.setCell (Nat.le_of_lt hGB) _, by simpa using hGs⟩
          case measure => simp [intOf]; omega
        · go_roundw
          case rel => exact ⟨j + 1, l, W, by omega, by go_num, hinv.out.skip, hll, HB.out, hbox, hbl, hGs⟩
          case measure => simp [intOf]; omega
      · have HB := Lib.hid hby
        clear hby
        go_wp2
        go_roundw
        case rel => exact ⟨j + 1, l, W, by omega, by go_num, hinv.out.skip, hll, HB.out, hbox, hbl, hGs⟩
        case measure => simp [intOf]; omega
    · obtain rfl : j = 32 := by omega
      obtain ⟨L, hL⟩ : ∃ L, L = str l := ⟨_, rfl⟩
      have hcv1 := conv_bytes wr G n c l hll hby
      rw [← hL] at hcv1
      have HC : Hid (∀ w', Below wr.heap.size wr w' → (convert 44 9 (.slice (some ⟨G, 0, none⟩) n c)).run Try.prog w' = .ok (.string L) w') := fun w' hb => by rw [hL]; exact conv_bytes w' G n c l hll (hby.kept hb hGs)
      have hLd : L.data.toList = l := by rw [hL]; rfl
      have hLs : L.size = n := by rw [← CM.len_size, hLd]; exact hll
      have hend := burst_end hinv.out HTAIL.out
      have hsz := hbl.size
      rcases hend with hq | ⟨hq, hbad⟩
      · have hLS : L = S := by rw [hL, hq]; exact CM.str_data S
        have HR := Lib.hid (read_any HA.out (by omega))
        rw [← hLS] at HR
        have HLS := Lib.hid hLS
        clear hLS hLd hq hby hL hinv
        go_wp2_with fail
        refine (HR.out _).mono ?_
        rintro e w5 ⟨rfl, hb5⟩
        obtain ⟨W5, hW5⟩ : ∃ W5, W5 = w5.alloc (.cells #[.int .i64 k, .int .i64 s, .int .i64 y, .int .i64 q, .string b] 23) := ⟨_, rfl⟩
        obtain ⟨L5, hL5⟩ : ∃ L5, L5 = w5.heap.size := ⟨_, rfl⟩
        have J5 : Hid (Blk W5 L5 23 #[.int .i64 k, .int .i64 s, .int .i64 y, .int .i64 q, .string b]) := by show Blk _ _ _ _; rw [hW5, hL5]; exact Blk.new w5 _ _
        have K5 : Hid (Blk W5 w.heap.size 23 #[.int .i64 k, .int .i64 s, .int .i64 y, .int .i64 q, .string b]) := by show Blk _ _ _ _; rw [hW5]; exact (hbox.out.below hb5 hbox.out.lt).alloc _
        have hbb := hbl.trans (hb5.mono hsz)
        have B5 : Hid (Below w.heap.size w W5) := by show Below _ _ _; rw [hW5]; exact hbb.alloc hbb.size _
        have hcv2 := HC.out W5 (by rw [hW5]; exact hb5.alloc hb5.size _)
        rw [HLS.out] at hcv2
        have HW5 := Lib.hid hW5
        have HL5 := Lib.hid hL5
        rw [hW5] at hcv2
        clear hW5 hL5 hb5 hbb hcv1
        go_wp2_with fail
        rw [← HW5.out]
        refine (PG.awake_any _).mono ?_
        rintro e w6 ⟨rfl, hb6⟩
        obtain ⟨⟨x0, x1, x2, x3, x4⟩, _⟩ := cells5 (J5.out.below hb6 J5.out.lt)
        obtain ⟨⟨y0, y1, y2, y3, y4⟩, _⟩ := cells5 (K5.out.below hb6 K5.out.lt)
        rw [HL5.out] at x0 x1 x2 x3 x4
        have HB6 := Lib.hid (B5.out.trans (hb6.mono B5.out.size))
        clear hb6 hcv2
        go_wp2
        go_ret
        exact ⟨rfl, HB6.out⟩
      · have hO := read_any (Ans.sum (t := L) (by omega) (by rw [hLd]; exact hbad)) (by omega)
        have hne : (L.toList == S.toList) = false := by
          rw [beq_eq_false_iff_ne, ByteArray.toList_eq, ByteArray.toList_eq, hLd]
          exact hq
        have HR : Hid (∀ w, Calls Try.prog 12 #[.string L] w fun e w' => e = .returned (.tuple #[.agg #[.int .i64 0, .int .i64 0, .int .i64 0, .int .i64 0, .string ⟨#[]⟩], .int .i64 6]) ∧ Below w.heap.size w w') := hO
        clear hO hLd hq hby hL hinv hbad
        go_wp2_with fail
        refine (HR.out _).mono ?_
        rintro e w5 ⟨rfl, hb5⟩
        obtain ⟨W5, hW5⟩ : ∃ W5, W5 = w5.alloc (.cells #[.int .i64 0, .int .i64 0, .int .i64 0, .int .i64 0, .string ⟨#[]⟩] 23) := ⟨_, rfl⟩
        obtain ⟨L5, hL5⟩ : ∃ L5, L5 = w5.heap.size := ⟨_, rfl⟩
        have J5 : Hid (Blk W5 L5 23 #[.int .i64 0, .int .i64 0, .int .i64 0, .int .i64 0, .string ⟨#[]⟩]) := by show Blk _ _ _ _; rw [hW5, hL5]; exact Blk.new w5 _ _
        have hbb := hbl.trans (hb5.mono hsz)
        have B5 : Hid (Below w.heap.size w W5) := by show Below _ _ _; rw [hW5]; exact hbb.alloc hbb.size _
        have hcv2 := HC.out W5 (by rw [hW5]; exact hb5.alloc hb5.size _)
        have HW5 := Lib.hid hW5
        have HL5 := Lib.hid hL5
        rw [hW5] at hcv2
        clear hW5 hL5 hb5 hbb hcv1
        go_wp2_with fail
        rw [← HW5.out]
        refine (PG.awake_any _).mono ?_
        rintro e w6 ⟨rfl, hb6⟩
        obtain ⟨⟨x0, x1, x2, x3, x4⟩, _⟩ := cells5 (J5.out.below hb6 J5.out.lt)
        rw [HL5.out] at x0 x1 x2 x3 x4
        have HB6 := Lib.hid (B5.out.trans (hb6.mono B5.out.size))
        clear hb6 hcv2
        go_wp2
        go_ret
        exact ⟨rfl, HB6.out⟩

theorem walk (x0 : PG.Pg) (a1 : Int) (a2 : Int) (w : World) (w0 : OP.PgWf x0) (w1 : (Lit.int .i64 a1).wf = true) (w2 : (Lit.int .u32 a2).wf = true) :
    Calls Try.prog 8 #[.agg #[.int .i64 x0.kind, .int .i64 x0.space, .int .i64 x0.key, .int .i64 x0.seq, .string x0.body], .int .i64 a1, .int .u32 a2] w fun e w' => e = .returned (.bool true) ∧ Below w.heap.size w w' := by
  by_cases h : May x0
  · exact turned_yes _ _ _ _ _ _ _ w w1 w2 h
  · exact turned_no x0 a1 a2 w h

set_option maxRecDepth 100000 in
theorem lifted (os : Os) (started : os.Started) (H : Type) (enc : TypeId × Value → H) :
    ReturnsInHanded {} Try.checked os 8 .any (Rows.pageTurnedSpec.pre6 enc Try.prog Try.f8 Rows.pageTurnedRow.domain false) (Rows.pageTurnedSpec.post enc Try.prog Try.f8 false true false false) := by
  refine returnsInHanded_of_change_sized (C := Try.checked) own started (by kernel_rfl) Try.func8
    (ChangeSpec.witness6 (enc := enc) (C := Try.checked) false ⟨#[], #[.agg #[.int .i64 0, .int .i64 0, .int .i64 0, .int .i64 0, .string ByteArray.empty], .int .i64 0, .int .u32 0], []⟩ 8 (by kernel_rfl) (by kernel_rfl) (by kernel_rfl) (by kernel_rfl)) ?_
  intro W base args ds gs before hval0 hW hcnd hsz0 _
  have hval : ∀ (j : Nat) t v, Try.f8.params[j]? = some t → args[j]? = some v → Value.okWide Try.prog W .any base t v := hval0
  have hW' := hW
  obtain ⟨p, q, hA0, hV, rfl, hfz, hnd⟩ := hW
  have hA : DataW.TrodAll enc Try.prog W 0 (fun _ => true) true Try.f8.params.toList args.toList ds p := hA0
  have hsz : (DataW.weightsEach Try.prog (Try.f8.params.toList ++ Rows.pageTurnedSpec.plain.varTypes Try.prog) (ds ++ gs)).all (· ≤ reachBytes) = true := hsz0
  rw [Try.params8] at hA hval hsz
  obtain ⟨v0, vs0, d0, ds0, p0, q0, hargs, rfl, rfl, h0, r0⟩ := trodAll_cons hA
  obtain ⟨v1, vs1, d1, ds1, p1, q1, rfl, rfl, rfl, h1, r1⟩ := trodAll_cons r0
  obtain ⟨v2, vs2, d2, ds2, p2, q2, rfl, rfl, rfl, h2, r2⟩ := trodAll_cons r1
  obtain ⟨rfl, rfl, rfl⟩ := trodAll_nil r2
  obtain rfl : args = #[v0, v1, v2] := by cases args; simp_all
  obtain ⟨rfl, rfl⟩ := trodVars_none hV
  have k0 := h0
  have lt0 : ∀ x ∈ p0, x.block < W.heap.size := by obtain ⟨m, hm⟩ := k0; exact DataW.trod_lt m _ _ _ hm
  obtain ⟨x0, rfl, w0⟩ := OP.open_page (hval 0 23 v0 rfl rfl) h0
  obtain ⟨a1, rfl, rfl, rfl, w1⟩ := open_int Try.underlying3 (hval 1 3 v1 rfl rfl) h1
  obtain ⟨a2, rfl, rfl, rfl, w2⟩ := open_int Try.underlying43 (hval 2 43 v2 rfl rfl) h2
  clear hA0 hval0 hsz0
  refine (walk x0 a1 a2 W w0 w1 w2).mono fun e W' ⟨he, bel⟩ => ?_
  subst he
  exact ⟨_, rfl, _, _, _, [], _, [], hW', trodAll_mk1 (shut_bool Try.underlying4 _), (trodAll_cons_mk (Below.trod laidOut (by kernel_rfl) (of_decide_eq_true (by kernel_rfl)) k0 bel lt0) (trodAll_cons_mk (shut_int Try.underlying3 w1) (trodAll_cons_mk (shut_int Try.underlying43 w2) trodAll_mk0))), rfl, bel.frame _, fun h => by cases h⟩

theorem over : Rows.pageTurnedRow.holds Try.pinned (OpenSpec.ofChange Rows.pageTurnedSpec) :=
  OpenClaim.holds_of_wide 8 Try.f8 rfl rfl rfl rfl rfl rfl rfl ⟨rfl, rfl, rfl, rfl, rfl⟩ rfl rfl rfl rfl rfl (by kernel_rfl) Try.func8 (by kernel_rfl)
    (of_decide_eq_true (by kernel_rfl)) (by unfold Func.isWrapper; first | (rw [if_pos (by decide +kernel)]; kernel_rfl) | (rw [if_neg (by decide +kernel)]; exact ⟨rfl, rfl⟩))
    (fun os started H enc _ => lifted os started H enc)

theorem proved : Rows.PageTurnedSaid := over
#print axioms proved
end Go.Proofs.Ytolcacmkageidaa.pageTurned
