/- TreeNone: the walk. -/
import Derived.Test.YtkfoddblgdmabaaTrWakes
namespace Go.Proofs.Ytkfoddblgdmabaa
open Go.RowKit

set_option maxHeartbeats 3200000 in
set_option maxRecDepth 100000 in
theorem treeNone_on (key : ByteArray) (w : World) (_hks : key.size ≤ maxLen) :
    Calls Try.prog 8 #[.string key] w fun e w' => e = .returned (.bool true) ∧ Below w.heap.size w w' := by
  have c1 := tr.put_nil w key 1
  have c2 := tr.get_nil w key
  clear _hks
  go_enter Try.func8, Try.ntmps8
  go_wp2_with fail
  refine c1.mono ?_
  rintro e w1 ⟨rfl, hw⟩
  rw [hw]
  clear hw c1
  go_wp2_with fail
  refine c2.mono ?_
  rintro e w1 ⟨rfl, hw⟩
  rw [hw]
  clear hw c2
  go_wp2_with fail
  refine (tr.at_nil w key).mono ?_
  rintro e w1 ⟨rfl, b1⟩
  go_wp2_with fail
  refine (tr.before_nil w1 key).mono ?_
  rintro e w2 ⟨rfl, b2⟩
  have hb := tr.below2 b1 b2
  clear b1 b2
  go_wp2_with fail
  refine (tr.delete_nil w2 key).mono ?_
  rintro e w3 ⟨rfl, hw⟩
  rw [hw]
  clear hw w3
  go_wp2_with fail
  refine (tr.range_nil w2 ⟨#[]⟩ ⟨#[]⟩ 9).mono ?_
  rintro e w3 ⟨rfl, b3⟩
  go_wp2_with fail
  refine (tr.len_nil w3).mono ?_
  rintro e w4 ⟨rfl, hw⟩
  rw [hw]
  clear hw w4
  go_wp2_with fail
  refine (tr.depth_nil w3).mono ?_
  rintro e w4 ⟨rfl, hw⟩
  rw [hw]
  clear hw w4
  go_wp2_with fail
  refine (tr.copy_nil w3).mono ?_
  rintro e w4 ⟨rfl, hw⟩
  rw [hw]
  clear hw w4
  go_wp2_with fail
  refine (tr.wakes_any w3).mono ?_
  rintro e w4 ⟨rfl, b4⟩
  go_wp2_with fail
  go_ret
  exact ⟨rfl, (hb.trans (b3.mono hb.size)).trans (b4.mono (Nat.le_trans hb.size b3.size))⟩

end Go.Proofs.Ytkfoddblgdmabaa
