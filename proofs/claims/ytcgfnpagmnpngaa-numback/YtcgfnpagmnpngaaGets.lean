/- The walk of NumGets: for every text, place and bound the statement returns true. -/
import Derived.Test.YtcgfnpagmnpngaaRefGetInt
import Derived.Test.YtcgfnpagmnpngaaPuts
namespace Go.Proofs.Ytcgfnpagmnpngaa
open Go.RowKit

set_option maxHeartbeats 800000 in
set_option maxRecDepth 100000 in
theorem gets_walk (s : ByteArray) (p most : Int) (w : World) (_hs : s.size ≤ maxLen) (_hp : -9223372036854775808 ≤ p ∧ p ≤ 9223372036854775807) (hm : -9223372036854775808 ≤ most ∧ most ≤ 9223372036854775807) :
    Calls Try.prog 4 #[.string s, .int .i64 p, .int .i64 most] w fun e w' => e = .returned (.bool true) ∧ Below w.heap.size w w' := by
  by_cases h : 100000 < s.size
  · clear hm _hp
    go_enter Try.func4, Try.ntmps4
    go_wp2_with fail
    refine (wakes_any w).mono ?_
    rintro e w1 ⟨rfl, hb1⟩
    go_wp2_with fail
    go_ret
    exact ⟨rfl, hb1⟩
  · have c1 := fun w => get_any s p w
    have c2 := fun w => getInt_any s p w
    have c3 := fun w => getText_any s p most w (by omega) hm
    have c4 := fun w => refGet_any s p w (by omega)
    have c5 := fun w => refGetInt_any s p w (by omega)
    have c6 := fun w => refGetText_any s p most w (by omega) hm
    generalize getTextAt s.data.toList p most = g at *
    generalize getAt s.data.toList p = d at *
    obtain ⟨N, k, b⟩ := d
    obtain ⟨T, j, f⟩ := g
    simp only [gotV, gotA] at c1 c2 c3 c4 c5 c6
    generalize zag N = Z at *
    generalize ba T = T at *
    clear hm _hp
    go_enter Try.func4, Try.ntmps4
    go_wp2_with fail
    refine (c1 _).mono ?_
    rintro e w1 ⟨rfl, rfl⟩
    go_wp2_with fail
    refine (c2 _).mono ?_
    rintro e w2 ⟨rfl, rfl⟩
    go_wp2_with fail
    refine (c3 _).mono ?_
    rintro e w3 ⟨rfl, hb3⟩
    go_wp2_with fail
    refine (c4 _).mono ?_
    rintro e w4 ⟨rfl, hb4⟩
    go_wp2_with fail
    refine (c5 _).mono ?_
    rintro e w5 ⟨rfl, hb5⟩
    go_wp2_with fail
    refine (c6 _).mono ?_
    rintro e w6 ⟨rfl, hb6⟩
    go_wp2_with fail
    refine (wakes_any _).mono ?_
    rintro e w7 ⟨rfl, hb7⟩
    go_wp2_with fail
    go_ret
    exact ⟨rfl, below2 (below2 hb3 (below3 hb4 hb5 hb6)) (below2 (below_alloc3 _ _ _ _) hb7)⟩

end Go.Proofs.Ytcgfnpagmnpngaa
