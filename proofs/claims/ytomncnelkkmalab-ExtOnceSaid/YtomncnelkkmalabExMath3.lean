/- More plain facts on lists of extents: what is pushed stays a list that may be, extent by extent. No program. -/
import Derived.Test.YtomncnelkkmalabExMath2
namespace Go.Proofs.Ytomncnelkkmalab.EX
set_option linter.unusedVariables false

theorem WV.take {l : List Ext} (h : WV l) (k : Nat) : WV (l.take k) := h.sub (List.take_sublist k l)
theorem part_one {l : List Ext} (h : Valid l) (a b : Int) (k : Nat) : Valid (pushAll [] (clips (l.take k) a b)) :=
  (pushAll_spec valid_nil (clips_wv (h.wv.take k) a b) fun _ hx => (List.not_mem_nil hx).elim).valid
theorem part_ends {l : List Ext} (h : Valid l) (a b : Int) : ∀ x ∈ pushAll [] (clips l a b), fin x ≤ b :=
  (pushAll_spec valid_nil (clips_wv h.wv a b) fun _ hx => (List.not_mem_nil hx).elim).ends b (fun _ hx => (List.not_mem_nil hx).elim) fun x hx => by obtain ⟨_, _, _, _, k, _⟩ := clips_mem h.1 hx; exact k
theorem part_valid {l : List Ext} (h : Valid l) (a b : Int) : Valid (pushAll [] (clips l a b)) :=
  (pushAll_spec valid_nil (clips_wv h.wv a b) fun _ hx => (List.not_mem_nil hx).elim).valid
theorem part_two {l r : List Ext} (h : Valid l) (hr : Valid r) (c b : Int) (he : ∀ x ∈ r, fin x ≤ c) (k : Nat) : Valid (pushAll r (clips (l.take k) c b)) :=
  (pushAll_spec hr (clips_wv (h.wv.take k) c b) fun x hx y hy => by
    obtain ⟨_, _, _, k1, _⟩ := clips_mem (h.wv.take k).1 hy
    have := he x hx
    omega).valid
theorem over_mid {l : List Ext} (h : Valid l) {e : Ext} (he : One e) : Pushed (pushAll [] (clips l 0 e.from_)) [e] (push (pushAll [] (clips l 0 e.from_)) e) :=
  push_spec (part_valid h 0 e.from_) he (part_ends h 0 e.from_)
theorem over_mid_ends {l : List Ext} (h : Valid l) {e : Ext} (he : One e) : ∀ x ∈ push (pushAll [] (clips l 0 e.from_)) e, fin x ≤ fin e :=
  (over_mid h he).ends (fin e) (fun x hx => Int.le_trans (part_ends h 0 e.from_ x hx) (Int.le_of_lt he.lt)) fun x hx => by rw [List.mem_singleton.1 hx]; exact Int.le_refl _
theorem valid_len {l : List Ext} (h : Valid l) : l.length ≤ 16777216 := by have := wv_len h.wv; omega
theorem cut_ok {l : List Ext} (h : Valid l) {f n : Int} (hn : 0 ≤ n) : Valid (cut l f n) := (cut_spec h hn).valid
theorem over_ok {l : List Ext} (h : Valid l) {e : Ext} (he : One e) : Valid (over l e) := (over_spec h he).valid
theorem clip_ok {l : List Ext} (h : Valid l) (f n : Int) : Valid (clip l f n) := (clip_spec h f n).valid
end Go.Proofs.Ytomncnelkkmalab.EX
