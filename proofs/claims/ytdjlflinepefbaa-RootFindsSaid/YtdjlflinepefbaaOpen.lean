/- How arguments are opened: a row of integers; an array of two strings. No condition but those that each theorem names. -/
import Derived.Test.YtdjlflinepefbaaProg
import Derived.WalkKit
import Derived.ProofKit
import Derived.OpenShut
import Derived.ShutString
import Derived.ChangeOld
import Derived.Below
import Derived.SizedLaws
namespace Go.Proofs.Ytdjlflinepefbaa.FM
open Go.RowKit
set_option linter.unusedVariables false

/-- A slice of integers that came in: nil, or a row of cells that hold the numbers zs, the first len of them its elements. -/
def IsRow (k : IntKind) (w : World) (a : Option Addr) (len cap : Nat) (zs : List Int) : Prop :=
  (a = none ∧ len = 0 ∧ cap = 0 ∧ zs = []) ∨
  ∃ x, a = some x ∧ len ≤ cap ∧ cap ≤ maxLen ∧ zs.length = cap ∧ (∀ i, i < zs.length → w.cell? (x.add i) = some (.int k (zs.getD i 0))) ∧ ∀ n ∈ zs, (Lit.int k n).wf = true

theorem open_strs2 {H : Type} {enc : TypeId × Value → H} {P : Program} {w : World} {base b0 : Nat} {spare : Nat → Bool} {held : Bool} {r : Reach} {t e : TypeId} {v : Value} {d : DataW H} {p : List MemPlace}
    (ht : P.underlying t = some (.array 2 e)) (he : P.underlying e = some .string) (hc : P.cellsOf t = 2) (hce : P.cellsOf e = 1)
    (hv : Value.okWide P w r b0 t v) (h : DataW.Trod enc P w base spare held t v d p) :
    ∃ a b : ByteArray, v = .agg #[.string a, .string b] ∧ d = .agg [.lit (.string a.data.toList), .lit (.string b.data.toList)] := by
  simp only [Value.okWide, ht] at hv
  obtain ⟨cs, rfl, hsz, _⟩ := hv
  rw [hc] at hsz
  obtain ⟨c0, c1, rfl⟩ : ∃ c0 c1, cs = #[c0, c1] := by
    rcases cs with ⟨_ | ⟨c0, _ | ⟨c1, _ | _⟩⟩⟩ <;> simp at hsz
    exact ⟨c0, c1, rfl⟩
  obtain ⟨fuel, hf⟩ := h
  obtain ⟨xs, m, rfl, hx, hl, hxn, hget⟩ := DataW.trod_array ht hf
  have g0 := hget 0 (by decide)
  have g1 := hget 1 (by decide)
  rw [hce] at g0 g1
  simp [Value.cells] at g0 g1
  have l0 : (0 : Nat) < xs.length := by omega
  have l1 : (1 : Nat) < xs.length := by omega
  rw [List.getElem?_eq_getElem l0] at g0
  rw [List.getElem?_eq_getElem l1] at g1
  obtain ⟨a, ha, hxa, _⟩ := DataW.trod_string he g0
  obtain ⟨b, hb, hxb, _⟩ := DataW.trod_string he g1
  simp at ha hb
  subst ha hb
  refine ⟨a, b, rfl, ?_⟩
  obtain ⟨x0, x1, rfl⟩ : ∃ x0 x1, xs = [x0, x1] := by
    rcases xs with _ | ⟨x0, _ | ⟨x1, _ | _⟩⟩ <;> simp at hxn
    exact ⟨x0, x1, rfl⟩
  simp at hxa hxb hx
  rw [hx.1, hxa, hxb]

theorem sized_strs2 {H : Type} {P : Program} {ts : List TypeId} {ds : List (DataW H)} (h : (DataW.weightsEach P ts ds).all (· ≤ reachBytes) = true) {j : Nat} {t e : TypeId} {a b : ByteArray}
    (ht : ts[j]? = some t) (hd : ds[j]? = some (.agg [.lit (.string a.data.toList), .lit (.string b.data.toList)])) (hu : P.underlying t = some (.array 2 e)) :
    a.size ≤ 140737488351232 ∧ b.size ≤ 140737488351232 := by
  have h1 := List.all_eq_true.1 h _ (DataW.weights_mem_each ht hd a.data.toList.length (by simp [DataW.weights, hu, DataW.weightsAll]))
  have h2 := List.all_eq_true.1 h _ (DataW.weights_mem_each ht hd b.data.toList.length (by simp [DataW.weights, hu, DataW.weightsAll]))
  have h1' := of_decide_eq_true h1
  have h2' := of_decide_eq_true h2
  simp only [reachBytes, Array.length_toList] at h1' h2'
  exact ⟨h1', h2'⟩
end Go.Proofs.Ytdjlflinepefbaa.FM
