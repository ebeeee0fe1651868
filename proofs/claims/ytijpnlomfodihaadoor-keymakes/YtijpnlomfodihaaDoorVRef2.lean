/- The contracts of the document's Good, Name and Compare. -/
import Derived.Test.YtijpnlomfodihaaDoorVRef
namespace Go.Proofs.YtijpnlomfodihaaDoor
open Go.RowKit

set_option maxHeartbeats 400000 in
theorem refGood_one (n : Int) (s : ByteArray) (w : World) : Calls Tryd.prog 25 #[.agg #[.int .i64 1, .int .i64 n, .string s]] w fun e w' =>
    e = .returned (.bool (goodB ⟨1, n, s⟩)) ∧ Below w.heap.size w w' := by
  by_cases h1 : n = 0 ∨ n = 1
  · by_cases h3 : s.size = 0
    · obtain rfl := size_zero s h3
      have hb : goodB ⟨1, n, ⟨#[]⟩⟩ = true := by unfold goodB; rcases h1 with rfl | rfl <;> rfl
      rw [hb]
      clear h3 hb
      rcases h1 with rfl | rfl
      all_goals
        go_enter Tryd.func25, Tryd.ntmps25
        go_wp2
        go_ret
        exact ⟨rfl, below_alloc1 _ _⟩
    · have h3' := list_some s h3
      have hb : goodB ⟨1, n, s⟩ = false := by unfold goodB; simp [h3]
      rw [hb]
      clear h3 hb
      rcases h1 with rfl | rfl
      all_goals
        go_enter Tryd.func25, Tryd.ntmps25
        go_wp2
        go_ret
        exact ⟨rfl, below_alloc1 _ _⟩
  · have h2 : (n == 0) = false := ne_beq (by omega)
    have h3 : (n == 1) = false := ne_beq (by omega)
    have hb : goodB ⟨1, n, s⟩ = false := by
      unfold goodB
      simp [show n ≠ 0 by omega, show n ≠ 1 by omega]
    rw [hb]
    clear h1 hb
    go_enter Tryd.func25, Tryd.ntmps25
    go_wp2
    go_ret
    exact ⟨rfl, below_alloc1 _ _⟩

set_option maxHeartbeats 400000 in
theorem refGood_two (n : Int) (s : ByteArray) (w : World) : Calls Tryd.prog 25 #[.agg #[.int .i64 2, .int .i64 n, .string s]] w fun e w' =>
    e = .returned (.bool (goodB ⟨2, n, s⟩)) ∧ Below w.heap.size w w' := by
  by_cases h3 : s.size = 0
  · obtain rfl := size_zero s h3
    have hb : goodB ⟨2, n, ⟨#[]⟩⟩ = true := by unfold goodB; simp; rfl
    rw [hb]
    clear h3 hb
    go_enter Tryd.func25, Tryd.ntmps25
    go_wp2
    go_ret
    exact ⟨rfl, below_alloc1 _ _⟩
  · have h3' := list_some s h3
    have hb : goodB ⟨2, n, s⟩ = false := by unfold goodB; simp [h3]
    rw [hb]
    clear h3 hb
    go_enter Tryd.func25, Tryd.ntmps25
    go_wp2
    go_ret
    exact ⟨rfl, below_alloc1 _ _⟩

set_option maxHeartbeats 400000 in
theorem refGood_three (n : Int) (s : ByteArray) (w : World) : Calls Tryd.prog 25 #[.agg #[.int .i64 3, .int .i64 n, .string s]] w fun e w' =>
    e = .returned (.bool (goodB ⟨3, n, s⟩)) ∧ Below w.heap.size w w' := by
  by_cases h1 : n = 0
  · subst h1
    by_cases h3 : s.size ≤ 1024
    · have h3' : (s.size : Int) ≤ 1024 := by omega
      have hb : goodB ⟨3, 0, s⟩ = true := by unfold goodB; simp [h3]
      rw [hb]
      clear h3 hb
      go_enter Tryd.func25, Tryd.ntmps25
      go_wp2
      go_ret
      exact ⟨rfl, below_alloc1 _ _⟩
    · have h3' : ¬ (s.size : Int) ≤ 1024 := by omega
      have hb : goodB ⟨3, 0, s⟩ = false := by unfold goodB; simp [h3]
      rw [hb]
      clear h3 hb
      go_enter Tryd.func25, Tryd.ntmps25
      go_wp2
      go_ret
      exact ⟨rfl, below_alloc1 _ _⟩
  · have h2 : (n == 0) = false := ne_beq h1
    have hb : goodB ⟨3, n, s⟩ = false := by unfold goodB; simp [h1]
    rw [hb]
    clear h1 hb
    go_enter Tryd.func25, Tryd.ntmps25
    go_wp2
    go_ret
    exact ⟨rfl, below_alloc1 _ _⟩

set_option maxHeartbeats 400000 in
theorem refGood_any (v : V) (w : World) : Calls Tryd.prog 25 #[v.val] w fun e w' => e = .returned (.bool (goodB v)) ∧ Below w.heap.size w w' := by
  obtain ⟨k, n, s⟩ := v
  simp only [V.val]
  by_cases h1 : k = 1
  · subst h1; exact refGood_one n s w
  by_cases h2 : k = 2
  · subst h2; exact refGood_two n s w
  by_cases h3 : k = 3
  · subst h3; exact refGood_three n s w
  have hb : goodB ⟨k, n, s⟩ = false := by unfold goodB; simp [h1, h2, h3]
  rw [hb]
  have e1 := ne_beq h1
  have e2 := ne_beq h2
  have e3 := ne_beq h3
  clear h1 h2 h3 hb
  go_enter Tryd.func25, Tryd.ntmps25
  go_wp2
  go_ret
  exact ⟨rfl, below_alloc1 _ _⟩


end Go.Proofs.YtijpnlomfodihaaDoor
