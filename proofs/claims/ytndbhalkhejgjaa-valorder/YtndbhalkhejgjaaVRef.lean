/- The contracts of the document's Name, Good, Blank, Compare, and of the statements' own helpers Value, LargeValue. -/
import Derived.Test.YtndbhalkhejgjaaVOrd
import Derived.WalkKit
namespace Go.Proofs.Ytndbhalkhejgjaa
open Go.RowKit

theorem ne_beq {a b : Int} (h : a ≠ b) : (a == b) = false := by rw [beq_eq_false_iff_ne]; exact h
theorem list_ne {a b : ByteArray} (h : a ≠ b) : (a.toList == b.toList) = false := by rw [list_eq]; simpa using h

set_option maxHeartbeats 400000 in
theorem largeValue_any (v : V) (w : World) (b : Bool) (hb : decide (5000 < v.s.size) = b) :
    Calls Try.prog 9 #[v.val] w fun e w' => e = .returned (.bool b) ∧ Below w.heap.size w w' := by
  obtain ⟨k, n, s⟩ := v
  simp only [V.val] at *
  cases b with
  | true =>
    have h : (5000 : Int) < (s.size : Int) := by simp at hb; omega
    clear hb
    go_enter Try.func9, Try.ntmps9
    go_wp2
    go_ret
    exact ⟨rfl, below_alloc1 _ _⟩
  | false =>
    have h : ¬ (5000 : Int) < (s.size : Int) := by simp at hb; omega
    clear hb
    go_enter Try.func9, Try.ntmps9
    go_wp2
    go_ret
    exact ⟨rfl, below_alloc1 _ _⟩

theorem below_two (W : World) (a b : Obj) : Below W.heap.size W ((W.alloc a).alloc b) := below2 (below_alloc1 W a) (below_alloc1 _ b)

set_option maxHeartbeats 400000 in
theorem keepValue_any (a b : V) (w : World) :
    Calls Try.prog 21 #[a.val, b.val] w fun e w' => e = .returned (.bool (eqV a b)) ∧ Below w.heap.size w w' := by
  obtain ⟨k, n, s⟩ := a
  obtain ⟨k', n', s'⟩ := b
  simp only [V.val, eqV]
  by_cases h1 : k = k'
  · subst h1
    by_cases h2 : n = n'
    · subst h2
      by_cases h3 : s = s'
      · subst h3
        simp only [decide_true, Bool.and_self]
        go_enter Try.func21, Try.ntmps21
        go_wp2
        go_ret
        exact ⟨rfl, below_two _ _ _⟩
      · have h3' := list_ne h3
        simp only [h3, decide_true, decide_false, Bool.and_false]
        clear h3
        go_enter Try.func21, Try.ntmps21
        go_wp2
        go_ret
        exact ⟨rfl, below_two _ _ _⟩
    · have h2' := ne_beq h2
      simp only [h2, decide_true, decide_false, Bool.and_false, Bool.false_and]
      clear h2
      go_enter Try.func21, Try.ntmps21
      go_wp2
      go_ret
      exact ⟨rfl, below_two _ _ _⟩
  · have h1' := ne_beq h1
    simp only [h1, decide_false, Bool.false_and]
    clear h1
    go_enter Try.func21, Try.ntmps21
    go_wp2
    go_ret
    exact ⟨rfl, below_two _ _ _⟩

set_option maxHeartbeats 400000 in
theorem refBlank_any (v : V) (w : World) : Calls Try.prog 45 #[v.val] w fun e w' => e = .returned (.bool (blankB v)) ∧ Below w.heap.size w w' := by
  obtain ⟨k, n, s⟩ := v
  simp only [V.val, blankB]
  by_cases h1 : k = 0
  · subst h1
    by_cases h2 : n = 0
    · subst h2
      by_cases h3 : s.size = 0
      · obtain rfl := size_zero s h3
        clear h3
        go_enter Try.func45, Try.ntmps45
        go_wp2
        go_ret
        exact ⟨rfl, below_alloc1 _ _⟩
      · have h3' := list_some s h3
        simp only [h3, decide_true, decide_false, Bool.and_false]
        clear h3
        go_enter Try.func45, Try.ntmps45
        go_wp2
        go_ret
        exact ⟨rfl, below_alloc1 _ _⟩
    · have h2' := ne_beq h2
      simp only [h2, decide_true, decide_false, Bool.and_false, Bool.false_and]
      clear h2
      go_enter Try.func45, Try.ntmps45
      go_wp2
      go_ret
      exact ⟨rfl, below_alloc1 _ _⟩
  · have h1' := ne_beq h1
    simp only [h1, decide_false, Bool.false_and]
    clear h1
    go_enter Try.func45, Try.ntmps45
    go_wp2
    go_ret
    exact ⟨rfl, below_alloc1 _ _⟩

end Go.Proofs.Ytndbhalkhejgjaa
