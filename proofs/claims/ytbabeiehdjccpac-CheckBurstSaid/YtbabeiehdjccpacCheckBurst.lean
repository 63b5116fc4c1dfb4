/- The law CheckBurst holds: its Go text answers true for every input, and leaves its arguments as they were. No condition beyond the statement's own. -/
import Derived.Test.YtbabeiehdjccpacRows
import Derived.Test.YtbabeiehdjccpacAwake2
import Derived.Test.YtbabeiehdjccpacCrcBurst
import Derived.Deep.AppendLies
import Derived.Deep.RegionHeld3
import Derived.PlainAid
import Derived.ProofKit
import Derived.OpenShut
import Derived.ShutString
import Derived.ChangeOld
import Derived.Below
import Derived.SizedLaws
namespace Go.Proofs.Ytbabeiehdjccpac.checkBurst
open Go.ChangeShapes Go.WideShapes Go.ChangeAt Go.RowKit
open Go.ChangeMaps (open_string shut_string)
open Go.Proofs.Ytbabeiehdjccpac.FM
set_option linter.unusedVariables false
set_option linter.unusedSimpArgs false

theorem own : ownKnob Try.prog.godebug = none := by kernel_rfl
theorem laidOut : laidOutB Try.prog = true := by kernel_rfl

open Go.Proofs.Ytbabeiehdjccpac.CM

/-- The block g reads as the bytes l, and may be written. -/
def Bytes (w : World) (g : Nat) (l : List UInt8) : Prop := ∀ j, j < l.length → w.cell? ⟨g, j, none⟩ = some (.int .u8 ((l.getD j 0).toNat : Int)) ∧ w.frozen? ⟨g, j, none⟩ = false

theorem conv_to (w : World) (s : ByteArray) : ∃ c w2, (convert 9 32 (.string s)).run Try.prog w = .ok (.slice (some ⟨w.heap.size, 0, none⟩) s.size c) w2 ∧ s.size ≤ c ∧ w.heap.size < w2.heap.size ∧ Below w.heap.size w w2 ∧ Bytes w2 w.heap.size s.data.toList := by
  refine ⟨_, _, run_bytes_of_string w 9 32 5 s Try.underlying9 Try.underlying32 Try.underlying5, grownCap_ge _ _ _ _, by simp, (Below.refl _ _).drew.alloc (by simp) _, ?_⟩
  intro j hj
  rw [len_size] at hj
  have hsz : (bytesRow s (grownCap w s.size 0 5)).size ≥ s.size := by
    unfold bytesRow
    rw [Array.size_append, Array.size_map]
    exact Nat.le_add_right _ _
  constructor
  · have := World.cell?_alloc_mark w.drew (bytesRow s (grownCap w s.size 0 5)) 5 ((bytesRow s (grownCap w s.size 0 5)).size, (bytesRow s (grownCap w s.size 0 5)).size + 1) j
    rw [show w.drew.heap.size = w.heap.size from rfl] at this
    rw [this, bytesRow_at s _ j hj]
    have h2 : j < s.data.toList.length := by rw [len_size]; exact hj
    rw [List.getD_eq_getElem?_getD, List.getElem?_eq_getElem h2]
    rfl
  · have := World.frozen?_alloc_mark w.drew (bytesRow s (grownCap w s.size 0 5)) 5 (bytesRow s (grownCap w s.size 0 5)).size ((bytesRow s (grownCap w s.size 0 5)).size + 1) j
    rw [show w.drew.heap.size = w.heap.size from rfl] at this
    rw [this, Bool.and_eq_false_iff]
    left
    rw [decide_eq_false_iff_not]
    omega

theorem first_place_of (a : Int) (n : Nat) (h4 : 4 ≤ n) (h5 : n ≤ 20004) : ∃ f : Nat, (wrap64 (a.tmod (8 * (n : Int)) + 8 * (n : Int))).tmod (8 * (n : Int)) = (f : Int) ∧ f < 8 * n := by
  have hp : (0 : Int) < 8 * (n : Int) := by omega
  have h1 := Int.tmod_lt_of_pos a hp
  have h2 := Int.lt_tmod_of_pos a hp
  generalize a.tmod (8 * (n : Int)) = q at h1 h2 ⊢
  rw [IntWalk.wrap64_in _ ⟨by omega, by omega⟩, Int.tmod_eq_emod_of_nonneg (by omega)]
  have h3 := Int.emod_nonneg (q + 8 * (n : Int)) (by omega : 8 * (n : Int) ≠ 0)
  have h4 := Int.emod_lt_of_pos (q + 8 * (n : Int)) hp
  refine ⟨((q + 8 * (n : Int)) % (8 * (n : Int))).toNat, ?_, ?_⟩ <;> omega

theorem bytes_set {w : World} {g : Nat} {l : List UInt8} {p : Nat} (h : Bytes w g l) (hp : p / 8 < l.length) (hg : g < w.heap.size) :
    Bytes (w.setCell ⟨g, p / 8, none⟩ (.int .u8 ((((l[p / 8]?).getD 0) ^^^ e (p % 8)).toNat : Int))) g (flip l p) := by
  intro j hj
  rw [flip_len] at hj
  obtain ⟨h1, h2⟩ := h j hj
  obtain ⟨h3, _⟩ := h (p / 8) hp
  refine ⟨?_, by rw [World.frozen?_setCell]; exact h2⟩
  by_cases hjp : j = p / 8
  · subst hjp
    rw [World.cell?_setCell_same _ _ _ h3]
    unfold CM.flip
    rw [List.getD_eq_getElem?_getD, List.getElem?_set, if_pos rfl, if_pos hp, List.getD_eq_getElem?_getD]
    rfl
  · rw [World.cell?_setCell_other _ _ _ _ (fun x => hjp (by simpa using (congrArg Addr.off x).symm)), h1]
    unfold CM.flip
    rw [List.getD_eq_getElem?_getD, List.getD_eq_getElem?_getD, List.getElem?_set, if_neg (fun x => hjp x.symm)]
theorem conv_bytes (w : World) (g n c : Nat) (l : List UInt8) (hl : l.length = n) (h : Bytes w g l) :
    (convert 32 9 (.slice (some ⟨g, 0, none⟩) n c)).run Try.prog w = .ok (.string (str l)) w := by
  rw [← hl]
  refine run_convert_bytes_back w 32 9 5 ⟨g, 0, none⟩ c l Try.underlying32 Try.underlying5 Try.underlying9 ?_
  intro j hj
  rw [Addr.add_lit]
  have := (h j hj).1
  rw [List.getD_eq_getElem?_getD, List.getElem?_eq_getElem hj] at this
  simpa using this
theorem Bytes.kept {w w' : World} {g : Nat} {l : List UInt8} (h : Bytes w g l) (hb : Below w.heap.size w w') (hg : g < w.heap.size) : Bytes w' g l := by
  intro j hj
  obtain ⟨h1, h2⟩ := h j hj
  exact ⟨by rw [hb.cell (p := ⟨g, j, none⟩) hg]; exact h1, by rw [hb.frozen (p := ⟨g, j, none⟩) hg]; exact h2⟩

set_option maxHeartbeats 1600000 in
theorem walk (a0 : ByteArray) (a1 : Int) (a2 : Int) (w : World) (w0 : a0.size ≤ 140737488351232) (w1 : (Lit.int .i64 a1).wf = true) (w2 : (Lit.int .u32 a2).wf = true) :
    Calls Try.prog 5 #[.string a0, .int .i64 a1, .int .u32 a2] w fun e w' => e = .returned (.bool true) ∧ Below w.heap.size w w' := by
  by_cases hlen : 20000 < a0.size
  · go_enter Try.func5, Try.ntmps5
    go_wp2_with fail
    refine (CM.awake_any _).mono ?_
    rintro e w1 ⟨rfl, hb1⟩
    go_wp2
    go_ret
    exact ⟨rfl, hb1⟩
  · have hs : a0.size ≤ 140737488355328 := by omega
    have HS := Lib.hid (seal_any a0 hs)
    obtain ⟨S, hS⟩ : ∃ S, S = str (sealed a0.data.toList) := ⟨_, rfl⟩
    rw [← hS] at HS
    have hSz : S.size = a0.size + 4 := by rw [hS, str_size, sealed_len, len_size]
    obtain ⟨n, hn⟩ : ∃ n, n = a0.size + 4 := ⟨_, rfl⟩
    rw [← hn] at hSz
    have hn2 : (a0.size : Int) + 4 = (n : Int) := by omega
    have n4 : 4 ≤ n := by omega
    have n5 : n ≤ 20004 := by omega
    obtain ⟨f, hf, hfl⟩ := first_place_of a1 n n4 n5
    have HSe := Lib.hid hS
    have HN := Lib.hid hn
    clear hS hn
    go_enter Try.func5, Try.ntmps5
    go_wp2_with fail
    refine (HS.out _).mono ?_
    rintro e w1 ⟨rfl, hb1⟩
    obtain ⟨c, w2, hcv, hcap, hlt, hb2, hby⟩ := conv_to w1 S
    rw [hSz] at hcv hcap
    have hGB := hb1.size
    generalize w1.heap.size = G at hcv hlt hb2 hby hGB
    have hbel : Below w.heap.size w w2 := hb1.trans (hb2.mono hGB)
    go_wp2
    clear hf hcv
    have hS0 : S.data.toList.length = n := by rw [len_size]; exact hSz
    go_loopw [11] (fun i wr => ∃ (k : Nat) (l : List UInt8) (W : BitVec 32), k ≤ 32 ∧ i = .int .i64 k ∧ Hid (Inv S.data.toList l (8 * n - f) k W) ∧ l.length = n ∧ Bytes wr G l ∧ Below w.heap.size w wr ∧ G < wr.heap.size) (fun i _ => 32 - (intOf i).toNat)
    case atStart => exact ⟨0, _, _, by omega, rfl, Inv.start _ _, hS0, hby, hbel, hlt⟩
    case round =>
      obtain ⟨k, l, W, hk, rfl, hinv, hll, hby, hbl, hGs⟩ := hrel
      by_cases hlt : k < 32
      · by_cases hin : f + k < 8 * n
        · obtain ⟨hc, hz⟩ := hby ((f + k) / 8) (by omega)
          have i0 : (0 : Int) ≤ ((f : Int) + (k : Int)) / 8 := by omega
          have i1 : ((f : Int) + (k : Int)) / 8 < (n : Int) := by omega
          have HB := Lib.hid hby
          clear hby
          go_wp2
          · have hturn : Inv S.data.toList (flip l (f + k)) (8 * n - f) (k + 1) (W ^^^ (top >>> k)) := by
              have h := hinv.out
              rw [← hS0] at h ⊢
              exact h.turn hlt (by rw [hS0]; exact hin)
            have hbyte := flip_byte (l.getD ((f + k) / 8) 0) ((f + k) % 8) (by omega)
            rw [List.getD_eq_getElem?_getD] at hbyte
            rw [hbyte]
            go_roundw
            case rel => exact ⟨k + 1, flip l (f + k), _, by omega, by go_num, hturn, by rw [flip_len]; exact hll, bytes_set HB.out (by omega) hGs, hbl.setCell hGB _, by simpa using hGs⟩
            case measure => simp [intOf]; omega
          · go_roundw
            case rel => exact ⟨k + 1, l, W, by omega, by go_num, hinv.out.skip, hll, HB.out, hbl, hGs⟩
            case measure => simp [intOf]; omega
        · have HB := Lib.hid hby
          clear hby
          go_wp2
          go_roundw
          case rel => exact ⟨k + 1, l, W, by omega, by go_num, hinv.out.skip, hll, HB.out, hbl, hGs⟩
          case measure => simp [intOf]; omega
      · obtain rfl : k = 32 := by omega
        obtain ⟨L, hL⟩ : ∃ L, L = str l := ⟨_, rfl⟩
        have hcv1 := conv_bytes wr G n c l hll hby
        rw [← hL] at hcv1
        have HC : Hid (∀ w', Below wr.heap.size wr w' → (convert 32 9 (.slice (some ⟨G, 0, none⟩) n c)).run Try.prog w' = .ok (.string L) w') := fun w' hb => by rw [hL]; exact conv_bytes w' G n c l hll (hby.kept hb hGs)
        have hLd : L.data.toList = l := by rw [hL]; rfl
        have hLs : L.size = n := by rw [← len_size, hLd]; exact hll
        have hSd : S.data.toList = sealed a0.data.toList := by rw [HSe.out]; rfl
        have hS1 : tailOk S.data.toList := by rw [hSd]; exact sealed_ok _
        have hend := burst_end hinv.out hS1
        have hsz := hbl.size
        rcases hend with hq | ⟨hq, hbad⟩
        · have hLS : L = S := by rw [hL, hq]; exact str_data S
          have hO := open_ok L (by omega) (by omega) (by rw [hLd, hq]; exact hS1)
          have e1 : body L.data.toList = a0.data.toList := by rw [hLd, hq, hSd]; exact body_sealed _
          rw [e1, str_data] at hO
          have HO := Lib.hid hO
          have HLS := Lib.hid hLS
          clear hO hLS e1 hLd hSd hS1 hq hby hL hinv
          go_wp2_with fail
          refine (HO.out _).mono ?_
          rintro e w3 ⟨rfl, hb3⟩
          have hcv2 := HC.out w3 hb3
          rw [HLS.out] at hcv2
          go_wp2_with fail
          refine (CM.awake_any _).mono ?_
          rintro e w4 ⟨rfl, hb4⟩
          have hb5 : Below w.heap.size w w4 := by
            have z3 := hb3.size
            exact hbl.trans ((hb3.mono hsz).trans (hb4.mono (by omega)))
          go_wp2
          go_ret
          exact ⟨rfl, hb5⟩
        · have hO := open_bad L (by omega) (by omega) (by rw [hLd]; exact hbad)
          have hne : (L.toList == S.toList) = false := by
            rw [beq_eq_false_iff_ne, ByteArray.toList_eq, ByteArray.toList_eq, hLd]
            exact hq
          have HO := Lib.hid hO
          clear hO hLd hSd hS1 hq hby hL hinv hbad
          go_wp2_with fail
          refine (HO.out _).mono ?_
          rintro e w3 ⟨rfl, hb3⟩
          have hcv2 := HC.out w3 hb3
          go_wp2_with fail
          refine (CM.awake_any _).mono ?_
          rintro e w4 ⟨rfl, hb4⟩
          have hb5 : Below w.heap.size w w4 := by
            have z3 := hb3.size
            exact hbl.trans ((hb3.mono hsz).trans (hb4.mono (by omega)))
          go_wp2
          go_ret
          exact ⟨rfl, hb5⟩

set_option maxRecDepth 100000 in
theorem lifted (os : Os) (started : os.Started) (H : Type) (enc : TypeId × Value → H) :
    ReturnsInHanded {} Try.checked os 5 .any (Rows.checkBurstSpec.pre6 enc Try.prog Try.f5 Rows.checkBurstRow.domain false) (Rows.checkBurstSpec.post enc Try.prog Try.f5 false true false false) := by
  refine returnsInHanded_of_change_sized (C := Try.checked) own started (by kernel_rfl) Try.func5
    (ChangeSpec.witness6 (enc := enc) (C := Try.checked) false ⟨#[], #[.string ByteArray.empty, .int .i64 0, .int .u32 0], []⟩ 8 (by kernel_rfl) (by kernel_rfl) (by kernel_rfl) (by kernel_rfl)) ?_
  intro W base args ds gs before hval0 hW hcnd hsz0 _
  have hval : ∀ (j : Nat) t v, Try.f5.params[j]? = some t → args[j]? = some v → Value.okWide Try.prog W .any base t v := hval0
  have hW' := hW
  obtain ⟨p, q, hA0, hV, rfl, hfz, hnd⟩ := hW
  have hA : DataW.TrodAll enc Try.prog W 0 (fun _ => true) true Try.f5.params.toList args.toList ds p := hA0
  have hsz : (DataW.weightsEach Try.prog (Try.f5.params.toList ++ Rows.checkBurstSpec.plain.varTypes Try.prog) (ds ++ gs)).all (· ≤ reachBytes) = true := hsz0
  rw [Try.params5] at hA hval hsz
  obtain ⟨v0, vs0, d0, ds0, p0, q0, hargs, rfl, rfl, h0, r0⟩ := trodAll_cons hA
  obtain ⟨v1, vs1, d1, ds1, p1, q1, rfl, rfl, rfl, h1, r1⟩ := trodAll_cons r0
  obtain ⟨v2, vs2, d2, ds2, p2, q2, rfl, rfl, rfl, h2, r2⟩ := trodAll_cons r1
  obtain ⟨rfl, rfl, rfl⟩ := trodAll_nil r2
  obtain rfl : args = #[v0, v1, v2] := by cases args; simp_all
  obtain ⟨rfl, rfl⟩ := trodVars_none hV
  obtain ⟨a0, rfl, rfl, rfl, m0⟩ := open_string Try.underlying9 (hval 0 9 v0 rfl rfl) h0
  obtain ⟨a1, rfl, rfl, rfl, w1⟩ := open_int Try.underlying3 (hval 1 3 v1 rfl rfl) h1
  obtain ⟨a2, rfl, rfl, rfl, w2⟩ := open_int Try.underlying28 (hval 2 28 v2 rfl rfl) h2
  have w0 : a0.size ≤ 140737488351232 := by have := sized_string hsz (j := 0) (t := 9) (bytes := a0.data.toList) rfl rfl; simpa [reachBytes] using this
  clear hA0 hval0 hsz0
  refine (walk a0 a1 a2 W w0 w1 w2).mono fun e W' ⟨he, bel⟩ => ?_
  subst he
  exact ⟨_, rfl, _, _, _, [], _, [], hW', trodAll_mk1 (shut_bool Try.underlying4 _), (trodAll_cons_mk (shut_string Try.underlying9 m0) (trodAll_cons_mk (shut_int Try.underlying3 w1) (trodAll_cons_mk (shut_int Try.underlying28 w2) trodAll_mk0))), rfl, bel.frame _, fun h => by cases h⟩

theorem over : Rows.checkBurstRow.holds Try.pinned (OpenSpec.ofChange Rows.checkBurstSpec) :=
  OpenClaim.holds_of_wide 5 Try.f5 rfl rfl rfl rfl rfl rfl rfl ⟨rfl, rfl, rfl, rfl, rfl⟩ rfl rfl rfl rfl rfl (by kernel_rfl) Try.func5 (by kernel_rfl)
    (of_decide_eq_true (by kernel_rfl)) (by unfold Func.isWrapper; first | (rw [if_pos (by decide +kernel)]; kernel_rfl) | (rw [if_neg (by decide +kernel)]; exact ⟨rfl, rfl⟩))
    (fun os started H enc _ => lifted os started H enc)

theorem proved : Rows.CheckBurstSaid := over
#print axioms proved
end Go.Proofs.Ytbabeiehdjccpac.checkBurst
