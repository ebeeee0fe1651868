/- HeapNone: the walk. -/
import Derived.Test.YtjmdenlocmleiaaHAll
namespace Go.Proofs.Ytjmdenlocmleiaa
open Go.RowKit

set_option maxHeartbeats 3200000 in
set_option maxRecDepth 100000 in
theorem heapNone_on (row : ByteArray) (k : Int) (w : World) (_hrs : row.size ≤ maxLen) (_hk : -9223372036854775808 ≤ k ∧ k ≤ 9223372036854775807) :
    Calls Try.prog 4 #[.string row, .int .i64 k] w fun e w' => e = .returned (.bool true) ∧ Below w.heap.size w w' := by
  have c1 := new_none w
  have c2 := insert_nil row w
  have c3 := get_nil k w
  have c4 := places_nil w
  have c5 := pages_nil w
  have c6 := put_nil k row w
  have c7 := delete_nil k
  have c8 := hwakes_any
  clear _hrs _hk
  go_enter Try.func4, Try.ntmps4
  go_wp2_with fail
  refine c1.mono ?_
  rintro e w1 ⟨rfl, hw⟩
  rw [hw]
  clear hw c1
  go_wp2_with fail
  refine c2.mono ?_
  rintro e w1 ⟨rfl, hw⟩
  rw [hw]
  clear hw c2
  go_wp2_with fail
  refine c3.mono ?_
  rintro e w1 ⟨rfl, hw⟩
  rw [hw]
  clear hw c3
  go_wp2_with fail
  refine c4.mono ?_
  rintro e w1 ⟨rfl, hw⟩
  rw [hw]
  clear hw c4
  go_wp2_with fail
  refine c5.mono ?_
  rintro e w1 ⟨rfl, hw⟩
  rw [hw]
  clear hw c5
  go_wp2_with fail
  refine c6.mono ?_
  rintro e w2 ⟨rfl, b2⟩
  clear c6
  go_wp2_with fail
  refine (c7 w2).mono ?_
  rintro e w3 ⟨rfl, b3⟩
  clear c7
  go_wp2_with fail
  refine (c8 w3).mono ?_
  rintro e w4 ⟨rfl, b4⟩
  clear c8
  go_wp2_with fail
  go_ret
  exact ⟨rfl, below2 (below2 b2 b3) b4⟩
end Go.Proofs.Ytjmdenlocmleiaa
