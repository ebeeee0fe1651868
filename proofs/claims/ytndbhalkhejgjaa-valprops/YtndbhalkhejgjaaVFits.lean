/- The contracts of what a kind does: which values fit it, its bytes, how they are read. -/
import Derived.Test.YtndbhalkhejgjaaVKinds
import Derived.Test.YtndbhalkhejgjaaVRef
namespace Go.Proofs.Ytndbhalkhejgjaa
open Go.RowKit

set_option maxHeartbeats 400000 in
theorem fitsNone_any (k n : Int) (s : ByteArray) (w : World) (b : Bool) (hb : (decide (n = 0) && decide (s.size = 0)) = b) :
    Calls Try.prog 55 #[.agg #[.int .i64 k, .int .i64 n, .string s]] w fun e w' => e = .returned (.bool b) ∧ Below w.heap.size w w' := by
  subst hb
  by_cases h2 : n = 0
  · subst h2
    by_cases h3 : s.size = 0
    · obtain rfl := size_zero s h3
      clear h3
      go_enter Try.func55, Try.ntmps55
      go_wp2
      go_ret
      exact ⟨rfl, below_alloc1 _ _⟩
    · have h3' := list_some s h3
      simp only [h3, decide_true, decide_false, Bool.and_false]
      clear h3
      go_enter Try.func55, Try.ntmps55
      go_wp2
      go_ret
      exact ⟨rfl, below_alloc1 _ _⟩
  · have h2' := ne_beq h2
    simp only [h2, decide_false, Bool.false_and]
    clear h2
    go_enter Try.func55, Try.ntmps55
    go_wp2
    go_ret
    exact ⟨rfl, below_alloc1 _ _⟩

set_option maxHeartbeats 400000 in
theorem fitsBool_any (k n : Int) (s : ByteArray) (w : World) (b : Bool) (hb : ((decide (n = 0) || decide (n = 1)) && decide (s.size = 0)) = b) :
    Calls Try.prog 58 #[.agg #[.int .i64 k, .int .i64 n, .string s]] w fun e w' => e = .returned (.bool b) ∧ Below w.heap.size w w' := by
  subst hb
  by_cases h2 : n = 0 ∨ n = 1
  · have hq : (decide (n = 0) || decide (n = 1)) = true := by simpa using h2
    rw [hq, Bool.true_and]
    clear hq
    by_cases h3 : s.size = 0
    · obtain rfl := size_zero s h3
      clear h3
      rcases h2 with rfl | rfl
      all_goals
        go_enter Try.func58, Try.ntmps58
        go_wp2
        go_ret
        exact ⟨rfl, below_alloc1 _ _⟩
    · have h3' := list_some s h3
      simp only [h3, decide_false]
      clear h3
      rcases h2 with rfl | rfl
      all_goals
        go_enter Try.func58, Try.ntmps58
        go_wp2
        go_ret
        exact ⟨rfl, below_alloc1 _ _⟩
  · have e0 : (n == 0) = false := ne_beq (by omega)
    have e1 : (n == 1) = false := ne_beq (by omega)
    have hq : (decide (n = 0) || decide (n = 1)) = false := by simpa using h2
    rw [hq, Bool.false_and]
    clear hq h2
    go_enter Try.func58, Try.ntmps58
    go_wp2
    go_ret
    exact ⟨rfl, below_alloc1 _ _⟩

set_option maxHeartbeats 400000 in
theorem fitsInt_any (k n : Int) (s : ByteArray) (w : World) (b : Bool) (hb : decide (s.size = 0) = b) :
    Calls Try.prog 61 #[.agg #[.int .i64 k, .int .i64 n, .string s]] w fun e w' => e = .returned (.bool b) ∧ Below w.heap.size w w' := by
  subst hb
  by_cases h3 : s.size = 0
  · obtain rfl := size_zero s h3
    clear h3
    go_enter Try.func61, Try.ntmps61
    go_wp2
    go_ret
    exact ⟨rfl, below_alloc1 _ _⟩
  · have h3' := list_some s h3
    simp only [h3, decide_false]
    clear h3
    go_enter Try.func61, Try.ntmps61
    go_wp2
    go_ret
    exact ⟨rfl, below_alloc1 _ _⟩

set_option maxHeartbeats 400000 in
theorem fitsText_any (k n : Int) (s : ByteArray) (w : World) (b : Bool) (hb : (decide (n = 0) && decide (s.size ≤ 1024)) = b) :
    Calls Try.prog 64 #[.agg #[.int .i64 k, .int .i64 n, .string s]] w fun e w' => e = .returned (.bool b) ∧ Below w.heap.size w w' := by
  subst hb
  by_cases h2 : n = 0
  · subst h2
    by_cases h3 : s.size ≤ 1024
    · have h3' : (s.size : Int) ≤ 1024 := by omega
      simp only [h3, decide_true, Bool.and_self]
      clear h3
      go_enter Try.func64, Try.ntmps64
      go_wp2
      go_ret
      exact ⟨rfl, below_alloc1 _ _⟩
    · have h3' : ¬ (s.size : Int) ≤ 1024 := by omega
      simp only [h3, decide_true, decide_false, Bool.and_false]
      clear h3
      go_enter Try.func64, Try.ntmps64
      go_wp2
      go_ret
      exact ⟨rfl, below_alloc1 _ _⟩
  · have h2' := ne_beq h2
    simp only [h2, decide_false, Bool.false_and]
    clear h2
    go_enter Try.func64, Try.ntmps64
    go_wp2
    go_ret
    exact ⟨rfl, below_alloc1 _ _⟩

/-- Does a value fit its kind? -/
def fitB (v : V) : Bool := goodB v || blankB v

end Go.Proofs.Ytndbhalkhejgjaa
