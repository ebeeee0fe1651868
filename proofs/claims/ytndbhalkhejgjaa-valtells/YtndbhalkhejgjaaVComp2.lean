/- The contract of the document's Compare. -/
import Derived.Test.YtndbhalkhejgjaaVRef
namespace Go.Proofs.Ytndbhalkhejgjaa
open Go.RowKit

set_option maxHeartbeats 800000 in
set_option maxRecDepth 100000 in
theorem refCompare_any (a b : V) (w : World) : Calls Try.prog 16 #[a.val, b.val] w fun e w' => e = .returned (.int .i64 (cmpV a b)) ∧ Below w.heap.size w w' := by
  rcases cmpV_cases a b with ⟨e, h⟩ | ⟨e, h⟩ | ⟨e, h⟩
  · rw [e]
    clear e
    obtain ⟨k, n, s⟩ := a
    obtain ⟨k', n', s'⟩ := b
    simp only [V.val] at *
    rcases h with h | ⟨h, h2 | ⟨h2, h3⟩⟩
    · go_enter Try.func16, Try.ntmps16
      go_wp2
      go_ret
      exact ⟨rfl, below_two _ _ _⟩
    · subst h
      go_enter Try.func16, Try.ntmps16
      go_wp2
      go_ret
      exact ⟨rfl, below_two _ _ _⟩
    · subst h
      subst h2
      unfold ltS at h3
      go_enter Try.func16, Try.ntmps16
      go_wp2
      go_ret
      exact ⟨rfl, below_two _ _ _⟩
  · rw [e]
    clear e
    subst h
    obtain ⟨k, n, s⟩ := a
    simp only [V.val] at *
    have h2 := bl_irrefl s.toList
    go_enter Try.func16, Try.ntmps16
    go_wp2
    go_ret
    exact ⟨rfl, below_two _ _ _⟩
  · rw [e]
    clear e
    obtain ⟨k, n, s⟩ := a
    obtain ⟨k', n', s'⟩ := b
    simp only [V.val] at *
    rcases h with h | ⟨h, h2 | ⟨h2, h3⟩⟩
    · have e1 : ¬ k < k' := by omega
      have e2 : (k == k') = false := ne_beq (by omega)
      go_enter Try.func16, Try.ntmps16
      go_wp2
      go_ret
      exact ⟨rfl, below_two _ _ _⟩
    · subst h
      have e1 : ¬ n < n' := by omega
      have e2 : (n == n') = false := ne_beq (by omega)
      go_enter Try.func16, Try.ntmps16
      go_wp2
      go_ret
      exact ⟨rfl, below_two _ _ _⟩
    · subst h
      subst h2
      have e1 := ltS_asymm h3
      have e2 : (s.toList == s'.toList) = false := list_ne (fun q => ltS_ne h3 q.symm)
      unfold ltS at h3 e1
      go_enter Try.func16, Try.ntmps16
      go_wp2
      go_ret
      exact ⟨rfl, below_two _ _ _⟩

end Go.Proofs.Ytndbhalkhejgjaa
