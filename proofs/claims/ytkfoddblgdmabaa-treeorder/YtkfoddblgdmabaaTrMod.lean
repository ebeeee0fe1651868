/- Layer 10: Mod, the same in every world. -/
import Derived.Test.YtkfoddblgdmabaaTrArgs
namespace Go.Proofs.Ytkfoddblgdmabaa.tr
open Go.RowKit

theorem tmod_mod (k : Int) (n : Nat) (hn : 1 ≤ n) : ∃ r : Nat, r < n ∧ (k.tmod n + n).tmod n = (r : Int) ∧ -(n : Int) < k.tmod n ∧ k.tmod n < n := by
  have h1 : k.tmod n < n := Int.tmod_lt_of_pos _ (by omega)
  have h2 : -(n : Int) < k.tmod n := Int.lt_tmod_of_pos k (b := (n : Int)) (by omega)
  refine ⟨((k.tmod n + n).tmod n).toNat, ?_, ?_, h2, h1⟩
  · have h3 : (k.tmod n + n).tmod n < n := Int.tmod_lt_of_pos _ (by omega)
    have h4 : 0 ≤ (k.tmod n + n).tmod n := Int.tmod_nonneg _ (by omega)
    omega
  · have h4 : 0 ≤ (k.tmod n + n).tmod n := Int.tmod_nonneg _ (by omega)
    omega
set_option maxHeartbeats 400000 in
/-- Mod, the same in every world. -/
theorem mod_all (k : Int) (n : Nat) (_h : i64B k) (hn : 1 ≤ n) (hn2 : n ≤ 100000) : ∃ r : Nat, r < n ∧ ∀ w, Calls Try.prog 23 #[.int .i64 k, .int .i64 (n : Int)] w fun e w' => e = .returned (.int .i64 (r : Int)) ∧ w' = w := by
  obtain ⟨r, hr, he, b1, b2⟩ := tmod_mod k n hn
  refine ⟨r, hr, fun w => ?_⟩
  have hz : ((n : Int) == 0) = false := by rw [beq_eq_false_iff_ne]; omega
  have hm1 : ((n : Int) == -1) = false := by rw [beq_eq_false_iff_ne]; omega
  have hlt : decide ((n : Int) < 1) = false := by simp; omega
  generalize hq : k.tmod (n : Int) = q at *
  go_enter Try.func23, Try.ntmps23
  go_wp2_with fail
  go_ret
  exact ⟨rfl, rfl⟩

end Go.Proofs.Ytkfoddblgdmabaa.tr
