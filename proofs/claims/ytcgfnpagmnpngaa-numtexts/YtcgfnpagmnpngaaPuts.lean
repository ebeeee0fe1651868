/- The walk of NumPuts: for every number, signed number and text the statement returns true. -/
import Derived.Test.YtcgfnpagmnpngaaRefPut
import Derived.Test.YtcgfnpagmnpngaaInts
namespace Go.Proofs.Ytcgfnpagmnpngaa
open Go.RowKit

set_option maxHeartbeats 400000 in
set_option maxRecDepth 100000 in
theorem puts_walk (n m : Int) (t : ByteArray) (w : World) (hn : 0 ≤ n ∧ n ≤ 18446744073709551615) (hm : -9223372036854775808 ≤ m ∧ m ≤ 9223372036854775807) (_ht : t.size ≤ maxLen) :
    Calls Try.prog 3 #[.int .u64 n, .int .i64 m, .string t] w fun e w' => e = .returned (.bool true) ∧ Below w.heap.size w w' := by
  by_cases h : 100000 < t.size
  · clear hn hm
    go_enter Try.func3, Try.ntmps3
    go_wp2_with fail
    refine (wakes_any w).mono ?_
    rintro e w1 ⟨rfl, hb1⟩
    go_wp2_with fail
    go_ret
    exact ⟨rfl, hb1⟩
  · obtain ⟨A, hA⟩ : ∃ S, S = ba (enc n.toNat) := ⟨_, rfl⟩
    obtain ⟨B, hB⟩ : ∃ S, S = ba (enc (zig m)) := ⟨_, rfl⟩
    obtain ⟨C, hC⟩ : ∃ S, S = ba (putT t.data.toList) := ⟨_, rfl⟩
    have c1 := fun w => put_S n w A hA hn.1 (by omega)
    have c2 := fun w => refPut_S n w A hA hn.1 (by omega)
    have c3 := fun w => putInt_S m w B hB hm
    have c4 := fun w => refPutInt_S m w B hB hm
    have c5 := fun w => putText_S t w C hC (by omega)
    have c6 := fun w => refPutText_S t w C hC (by omega)
    clear hA hB hC hn hm
    go_enter Try.func3, Try.ntmps3
    go_wp2_with fail
    refine (c1 w).mono ?_
    rintro e w1 ⟨rfl, hb1⟩
    go_wp2_with fail
    refine (c2 w1).mono ?_
    rintro e w2 ⟨rfl, hb2⟩
    go_wp2_with fail
    refine (c3 w2).mono ?_
    rintro e w3 ⟨rfl, hb3⟩
    go_wp2_with fail
    refine (c4 w3).mono ?_
    rintro e w4 ⟨rfl, hb4⟩
    go_wp2_with fail
    refine (c5 w4).mono ?_
    rintro e w5 ⟨rfl, hb5⟩
    go_wp2_with fail
    refine (c6 w5).mono ?_
    rintro e w6 ⟨rfl, hb6⟩
    go_wp2_with fail
    refine (wakes_any w6).mono ?_
    rintro e w7 ⟨rfl, hb7⟩
    go_wp2_with fail
    go_ret
    exact ⟨rfl, below3 (below3 hb1 hb2 hb3) (below3 hb4 hb5 hb6) hb7⟩

end Go.Proofs.Ytcgfnpagmnpngaa
