/- RowsNone: the walk. -/
import Derived.Test.YtkjioabhdglkpaaGreatWAll
namespace Go.Proofs.YtkjioabhdglkpaaGreat
open Go.RowKit

set_option maxHeartbeats 3200000 in
set_option maxRecDepth 100000 in
theorem rowsNone_on (i : Int) (w : World) (_hi : -9223372036854775808 ≤ i ∧ i ≤ 9223372036854775807) :
    Calls Tryz.prog 6 #[.int .i64 i] w fun e w' => e = .returned (.bool true) ∧ Below w.heap.size w w' := by
  have c1 := new_nil w
  have c2 := rget_nil i w
  have c3 := rput_nil i ⟨#[]⟩ w
  have c4 := rdel_nil i w
  have c5 := roids_nil w
  have c6 := rpieces_nil i w
  have c7 := wakes9_any
  clear _hi
  go_enter Tryz.func6, Tryz.ntmps6
  go_wp2_with fail
  refine c1.mono ?_
  rintro e w1 ⟨rfl, hw⟩
  rw [hw]
  clear hw c1
  go_wp2_with fail
  refine c2.mono ?_
  rintro e w1 ⟨rfl, hw⟩
  rw [hw]
  clear hw c2
  go_wp2_with fail
  refine c3.mono ?_
  rintro e w1 ⟨rfl, hw⟩
  rw [hw]
  clear hw c3
  go_wp2_with fail
  refine c4.mono ?_
  rintro e w1 ⟨rfl, hw⟩
  rw [hw]
  clear hw c4
  go_wp2_with fail
  refine c5.mono ?_
  rintro e w1 ⟨rfl, hw⟩
  rw [hw]
  clear hw c5
  go_wp2_with fail
  refine c6.mono ?_
  rintro e w1 ⟨rfl, hw⟩
  rw [hw]
  clear hw c6
  go_wp2_with fail
  refine (c7 w).mono ?_
  rintro e w4 ⟨rfl, b4⟩
  clear c7
  go_wp2_with fail
  go_ret
  exact ⟨rfl, b4⟩
end Go.Proofs.YtkjioabhdglkpaaGreat
