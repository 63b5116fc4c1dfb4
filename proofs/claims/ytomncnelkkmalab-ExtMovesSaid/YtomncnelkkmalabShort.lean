/- How long lists are that were cut, laid over, clipped. No program. -/
import Derived.Test.YtomncnelkkmalabExMath3
namespace Go.Proofs.Ytomncnelkkmalab.EX
set_option linter.unusedVariables false

theorem push_len (l : List Ext) (e : Ext) : (push l e).length ≤ l.length + 1 := by
  rcases snoc_cases l with rfl | ⟨i, a, rfl⟩
  · simp [push_nil]
  · by_cases h : Tog a e
    · rw [push_tog _ _ _ h]; simp
    · rw [push_far _ _ _ h]; simp
theorem pushAll_len (es : List Ext) : ∀ l : List Ext, (pushAll l es).length ≤ l.length + es.length := by
  induction es with
  | nil => intro l; simp [pushAll]
  | cons e es ih =>
    intro l
    have h1 := ih (push l e)
    have h2 := push_len l e
    have e0 : pushAll l (e :: es) = pushAll (push l e) es := rfl
    rw [e0, List.length_cons]; omega
theorem clip1_len (e : Ext) (a b : Int) : (clip1 e a b).length ≤ 1 := by unfold clip1; split <;> simp
theorem clips_len (l : List Ext) (a b : Int) : (clips l a b).length ≤ l.length := by
  induction l with
  | nil => simp [clips]
  | cons e l ih => rw [clips_cons, List.length_append, List.length_cons]; have := clip1_len e a b; omega
theorem cut_short (l : List Ext) (f n : Int) : (cut l f n).length ≤ l.length + l.length := by
  unfold cut
  have h1 := pushAll_len (clips l (f + n) 16777216) (pushAll [] (clips l 0 f))
  have h2 := pushAll_len (clips l 0 f) []
  have h3 := clips_len l 0 f
  have h4 := clips_len l (f + n) 16777216
  simp at h2
  omega
theorem clip_short (l : List Ext) (f n : Int) : (clip l f n).length ≤ l.length := by
  unfold clip
  have h2 := pushAll_len (clips l f (f + n)) []
  have h3 := clips_len l f (f + n)
  simp at h2
  omega
theorem over_short (l : List Ext) (e : Ext) : (over l e).length ≤ l.length + l.length + 1 := by
  unfold over
  have h1 := pushAll_len (clips l (fin e) 16777216) (push (pushAll [] (clips l 0 e.from_)) e)
  have h5 := push_len (pushAll [] (clips l 0 e.from_)) e
  have h2 := pushAll_len (clips l 0 e.from_) []
  have h3 := clips_len l 0 e.from_
  have h4 := clips_len l (fin e) 16777216
  simp at h2
  omega
end Go.Proofs.Ytomncnelkkmalab.EX
