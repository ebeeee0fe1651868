/- The laws' own example answers true. -/
import Derived.Test.YtcgfnpagmnpngaaPutInt
namespace Go.Proofs.Ytcgfnpagmnpngaa
open Go.RowKit

theorem get_300 (w : World) : Calls Try.prog 16 #[.string { data := #[172, 2] }, .int .i64 0] w fun e w' =>
    e = .returned (.tuple #[.int .u64 300, .int .i64 2, .bool true]) ∧ w' = w := by
  have h := get_any { data := #[172, 2] } 0 w
  rw [show getAt (ByteArray.mk #[172, 2]).data.toList 0 = (300, 2, true) from by decide +kernel] at h
  exact h

theorem get_no (w : World) : Calls Try.prog 16 #[.string { data := #[128, 0] }, .int .i64 0] w fun e w' =>
    e = .returned (.tuple #[.int .u64 0, .int .i64 0, .bool false]) ∧ w' = w := by
  have h := get_any { data := #[128, 0] } 0 w
  rw [show getAt (ByteArray.mk #[128, 0]).data.toList 0 = (0, 0, false) from by decide +kernel] at h
  exact h

theorem put_300 (w : World) : Calls Try.prog 10 #[.int .u64 300] w fun e w' => e = .returned (.string { data := #[172, 2] }) ∧ Below w.heap.size w w' := by
  have h := put_any 300 w (by omega)
  rw [show enc 300 = [172, 2] from by decide +kernel] at h
  exact h

theorem putInt_m1 (w : World) : Calls Try.prog 12 #[.int .i64 (-1)] w fun e w' => e = .returned (.string { data := #[1] }) ∧ Below w.heap.size w w' := by
  have h := putInt_any (-1) w (by omega) (by omega)
  rw [show enc (zig (-1)) = [1] from by decide +kernel] at h
  exact h

theorem putText_ab (w : World) : Calls Try.prog 14 #[.string { data := #[97, 98] }] w fun e w' => e = .returned (.string { data := #[2, 97, 98] }) ∧ Below w.heap.size w w' := by
  have h := putText_any { data := #[97, 98] } w (by decide)
  rw [show putT (ByteArray.mk #[97, 98]).data.toList = [2, 97, 98] from by decide +kernel] at h
  exact h

set_option maxHeartbeats 400000 in
set_option maxRecDepth 100000 in
theorem wakes_any (w : World) : Calls Try.prog 9 #[] w fun e w' => e = .returned (.bool true) ∧ Below w.heap.size w w' := by
  go_enter Try.func9, Try.ntmps9
  go_wp2_with fail
  refine (get_300 w).mono ?_
  rintro e w0 ⟨rfl, rfl⟩
  go_wp2_with fail
  refine (get_no w0).mono ?_
  rintro e w1 ⟨rfl, rfl⟩
  go_wp2_with fail
  refine (put_300 w1).mono ?_
  rintro e w2 ⟨rfl, hb2⟩
  go_wp2_with fail
  refine (putInt_m1 w2).mono ?_
  rintro e w3 ⟨rfl, hb3⟩
  go_wp2_with fail
  refine (putText_ab w3).mono ?_
  rintro e w4 ⟨rfl, hb4⟩
  go_wp2_with fail
  go_ret
  exact ⟨rfl, (hb2.trans (hb3.mono hb2.size)).trans (hb4.mono (Nat.le_trans hb2.size hb3.size))⟩

end Go.Proofs.Ytcgfnpagmnpngaa
