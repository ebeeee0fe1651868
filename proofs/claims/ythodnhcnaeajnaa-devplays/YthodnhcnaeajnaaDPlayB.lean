/- DevPlays: no device. -/
import Derived.Test.YthodnhcnaeajnaaDCopy
namespace Go.Proofs.Ythodnhcnaeajnaa
open Go.RowKit

set_option maxHeartbeats 1600000 in
set_option maxRecDepth 100000 in
theorem devPlays_bad (x : Int) (v : Value) (w : World) (hx : x < 1 ∨ 8192 < x) :
    Calls Try.prog 3 #[.int .i64 x, v] w fun e w' => e = .returned (.bool true) ∧ Below w.heap.size w w' := by
  have cN := fun w => new_bad x w hx
  have cR := fun w => rnew_bad x w hx
  rcases hx with hx | hx
  · have hd0 : decide ((200 : Int) < x) = false := by simp; omega
    clear hx
    go_enter Try.func3, Try.ntmps3
    go_wp2_with fail
    refine (cN _).mono ?_
    rintro e w1 ⟨rfl, e1⟩
    rw [e1]
    go_wp2_with fail
    refine (cR _).mono ?_
    rintro e w2 ⟨rfl, e2⟩
    rw [e2]
    go_wp2_with fail
    refine (wakes_any w).mono ?_
    rintro e w3 ⟨rfl, b3⟩
    go_wp2_with fail
    go_ret
    exact ⟨rfl, b3⟩
  · have hd0 : decide ((200 : Int) < x) = true := by simp; omega
    have hd1 : decide (x ≤ 8192) = false := by simp; omega
    clear hx
    go_enter Try.func3, Try.ntmps3
    go_wp2_with fail
    refine (cN _).mono ?_
    rintro e w1 ⟨rfl, e1⟩
    rw [e1]
    go_wp2_with fail
    refine (cR _).mono ?_
    rintro e w2 ⟨rfl, e2⟩
    rw [e2]
    go_wp2_with fail
    refine (wakes_any w).mono ?_
    rintro e w3 ⟨rfl, b3⟩
    go_wp2_with fail
    go_ret
    exact ⟨rfl, b3⟩

set_option maxHeartbeats 1600000 in
set_option maxRecDepth 100000 in
theorem devPlays_zero (x : Int) (v : Value) (w : World) (hx1 : 200 < x) (hx2 : x ≤ 8192) (hx3 : x.tmod 200 = 0) :
    Calls Try.prog 3 #[.int .i64 x, v] w fun e w' => e = .returned (.bool true) ∧ Below w.heap.size w w' := by
  have cN := fun w => new_bad 0 w (Or.inl (by omega))
  have cR := fun w => rnew_bad 0 w (Or.inl (by omega))
  have hd0 : decide ((200 : Int) < x) = true := by simp; omega
  have hd1 : decide (x ≤ 8192) = true := by simp; omega
  clear hx1 hx2
  go_enter Try.func3, Try.ntmps3
  go_wp2_with fail
  refine (cN _).mono ?_
  rintro e w1 ⟨rfl, e1⟩
  rw [e1]
  go_wp2_with fail
  refine (cR _).mono ?_
  rintro e w2 ⟨rfl, e2⟩
  rw [e2]
  go_wp2_with fail
  refine (wakes_any w).mono ?_
  rintro e w3 ⟨rfl, b3⟩
  go_wp2_with fail
  go_ret
  exact ⟨rfl, b3⟩

end Go.Proofs.Ythodnhcnaeajnaa
