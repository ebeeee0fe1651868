/- The device's small calls. -/
import Derived.Test.YtkjioabhdglkpaaGreatDMem
namespace Go.Proofs.YtkjioabhdglkpaaGreat
open Go.RowKit

section
variable {B : Nat} {w : World} {g gs : Nat} {hv : Value} {D : DS}

set_option maxHeartbeats 400000 in
theorem has_any (h : Dev B w g gs hv D) (at_ : Int) : Calls Tryz.prog 99 #[.pointer (some ⟨g, 0, none⟩), .int .i64 at_] w fun e w' => e = .returned (.bool (decide (0 ≤ at_) && decide (at_ < (D.n : Int)))) ∧ w' = w := by
  have c0 := h.cell.1
  by_cases h0 : 0 ≤ at_
  · have d0 : decide (0 ≤ at_) = true := by simpa using h0
    have d1 : decide (at_ < 0) = false := by simpa using h0
    go_enter Tryz.func99, Tryz.ntmps99
    go_wp2_with fail
    go_ret
    exact ⟨by simp [h0], rfl⟩
  · have d0 : decide (0 ≤ at_) = false := by simpa using h0
    have d1 : decide (at_ < 0) = true := by simp; omega
    go_enter Tryz.func99, Tryz.ntmps99
    go_wp2_with fail
    go_ret
    exact ⟨by simp, rfl⟩

set_option maxHeartbeats 400000 in
theorem down_any (h : Dev B w g gs hv D) : Calls Tryz.prog 75 #[.pointer (some ⟨g, 0, none⟩)] w fun e w' => e = .returned (.bool (D.left == 0)) ∧ w' = w := by
  have c0 := h.cell.2.2.2.1
  go_enter Tryz.func75, Tryz.ntmps75
  go_wp2_with fail
  refine (aload_any _ D.left w c0).mono ?_
  rintro e w1 ⟨rfl, h1⟩
  rw [h1]
  go_wp2_with fail
  go_ret
  exact ⟨rfl, rfl⟩

set_option maxHeartbeats 400000 in
theorem sectors_any (h : Dev B w g gs hv D) : Calls Tryz.prog 111 #[.pointer (some ⟨g, 0, none⟩)] w fun e w' => e = .returned (.int .i64 (D.n : Int)) ∧ w' = w := by
  have c0 := h.cell.1
  go_enter Tryz.func111, Tryz.ntmps111
  go_wp2_with fail
  go_ret
  exact ⟨rfl, rfl⟩

set_option maxHeartbeats 400000 in
theorem arm_any (h : Dev B w g gs hv D) (x y : Int) (hy : max x (-1) = y) : Calls Tryz.prog 51 #[.pointer (some ⟨g, 0, none⟩), .int .i64 x] w fun e w' => e = .returned (.tuple #[]) ∧ Dev B w' g gs hv { D with left := y } ∧ Fr (foot g gs hv) w w' := by
  subst hy
  have c0 := h.cell.2.2.2.1
  have f0 := h.free.1 3
  go_enter Tryz.func51, Tryz.ntmps51
  go_wp2_with fail
  refine (astore_any _ D.left _ w c0 f0).mono ?_
  rintro e w1 ⟨rfl, h1⟩
  rw [h1]
  go_wp2_with fail
  go_end0
  exact ⟨rfl, h.setLeft _, (Fr.refl _ _).set (Or.inl (Or.inl rfl)) _⟩

set_option maxHeartbeats 400000 in
theorem refuse_any (h : Dev B w g gs hv D) (x y : Int) (hy : max x 0 = y) : Calls Tryz.prog 52 #[.pointer (some ⟨g, 0, none⟩), .int .i64 x] w fun e w' => e = .returned (.tuple #[]) ∧ Dev B w' g gs hv { D with next := y } ∧ Fr (foot g gs hv) w w' := by
  subst hy
  have c0 := h.cell.2.2.2.2
  have f0 := h.free.1 4
  go_enter Tryz.func52, Tryz.ntmps52
  go_wp2_with fail
  refine (astore_any _ D.next _ w c0 f0).mono ?_
  rintro e w1 ⟨rfl, h1⟩
  rw [h1]
  go_wp2_with fail
  go_end0
  exact ⟨rfl, h.setNext _, (Fr.refl _ _).set (Or.inl (Or.inl rfl)) _⟩

set_option maxHeartbeats 400000 in
theorem count_any (h : Dev B w g gs hv D) (ho : 0 ≤ D.ops ∧ D.ops ≤ 100000000) (hl : -100000000 ≤ D.left) (hl2 : D.left ≤ 9223372036854775807) : Calls Tryz.prog 76 #[.pointer (some ⟨g, 0, none⟩)] w fun e w' => e = .returned (.tuple #[]) ∧ Dev B w' g gs hv { D with ops := D.ops + 1, left := D.left - 1 } ∧ Fr (foot g gs hv) w w' := by
  have c0 := h.cell.2.2.1
  have f0 := h.free.1 2
  have h1 := h.setOps (D.ops + 1)
  have c1 := h1.cell.2.2.2.1
  have f1 := h1.free.1 3
  go_enter Tryz.func76, Tryz.ntmps76
  go_wp2_with fail
  refine (aadd_any _ D.ops _ (D.ops + 1) w c0 f0 rfl (by omega) (by omega)).mono ?_
  rintro e w1 ⟨rfl, e1⟩
  rw [e1]
  go_wp2_with fail
  refine (aadd_any _ D.left _ (D.left - 1) _ c1 f1 (by omega) (by omega) (by omega)).mono ?_
  rintro e w2 ⟨rfl, e2⟩
  rw [e2]
  go_wp2_with fail
  go_end0
  exact ⟨rfl, h1.setLeft _, ((Fr.refl _ _).set (Or.inl (Or.inl rfl)) _).set (Or.inl (Or.inl rfl)) _⟩
end

/-- How many bytes are there of a write. -/
def kept (n : Int) : Nat := if n = 1 then 512 else if 2 ≤ n ∧ n < 514 then (n - 2).toNat else 0

theorem kept_le (n : Int) : kept n ≤ 512 := by unfold kept; split <;> (try split) <;> omega

set_option maxHeartbeats 400000 in
theorem kept_any (x : Int) (w : World) (k : Nat) (hk : k = kept x) : Calls Tryz.prog 50 #[.int .i64 x] w fun e w' => e = .returned (.int .i64 (k : Int)) ∧ w' = w := by
  subst hk
  by_cases h1 : x = 1
  · subst h1
    go_enter Tryz.func50, Tryz.ntmps50
    go_wp2_with fail
    go_ret
    exact ⟨rfl, rfl⟩
  · have d1 : (x == 1) = false := by simpa using h1
    by_cases h2 : 2 ≤ x
    · have d2 : decide (2 ≤ x) = true := by simpa using h2
      by_cases h3 : x < 514
      · have d3 : decide (x < 514) = true := by simpa using h3
        have e : ((kept x : Nat) : Int) = x - 2 := by unfold kept; rw [if_neg h1, if_pos ⟨h2, h3⟩]; omega
        rw [e]
        clear e h1
        go_enter Tryz.func50, Tryz.ntmps50
        go_wp2_with fail
        go_ret
        exact ⟨rfl, rfl⟩
      · have d3 : decide (x < 514) = false := by simpa using h3
        have e : kept x = 0 := by unfold kept; rw [if_neg h1, if_neg (fun h => h3 h.2)]
        rw [e]
        clear e h1
        go_enter Tryz.func50, Tryz.ntmps50
        go_wp2_with fail
        go_ret
        exact ⟨rfl, rfl⟩
    · have d2 : decide (2 ≤ x) = false := by simpa using h2
      have e : kept x = 0 := by unfold kept; rw [if_neg h1, if_neg (fun h => h2 h.1)]
      rw [e]
      clear e h1
      go_enter Tryz.func50, Tryz.ntmps50
      go_wp2_with fail
      go_ret
      exact ⟨rfl, rfl⟩

end Go.Proofs.YtkjioabhdglkpaaGreat
