/- The contracts of oneByte and of what a kind puts and gets. -/
import Derived.Test.YtndbhalkhejgjaaVFits
import Derived.Test.YtndbhalkhejgjaaRefPut
namespace Go.Proofs.Ytndbhalkhejgjaa
open Go.RowKit

set_option maxHeartbeats 400000 in
theorem oneByte_any (n : Nat) (hn : n < 256) (w : World) : Calls Try.prog 44 #[.int .i64 (n : Int)] w fun e w' => e = .returned (.string (ba [UInt8.ofNat n])) ∧ Below w.heap.size w w' := by
  have hb := byte_low n hn
  have HT := one_text (w.alloc (.cells #[.int .u8 (n : Int)] 5)) w.heap.size (UInt8.ofNat n) (by rw [hb]; simp)
  clear hb
  go_enter Try.func44, Try.ntmps44
  go_wp2_with fail
  go_ret
  exact ⟨rfl, (Below.refl _ _).alloc (Nat.le_refl _) _⟩

set_option maxHeartbeats 400000 in
theorem putNone_any (k n : Int) (s : ByteArray) (w : World) : Calls Try.prog 56 #[.agg #[.int .i64 k, .int .i64 n, .string s]] w fun e w' => e = .returned (.string (ba [])) ∧ Below w.heap.size w w' := by
  go_enter Try.func56, Try.ntmps56
  go_wp2_with fail
  go_ret
  exact ⟨rfl, below_alloc1 _ _⟩

set_option maxHeartbeats 400000 in
theorem putBool_any (k : Int) (n : Nat) (hn : n < 256) (s : ByteArray) (w : World) : Calls Try.prog 59 #[.agg #[.int .i64 k, .int .i64 (n : Int), .string s]] w fun e w' => e = .returned (.string (ba [UInt8.ofNat n])) ∧ Below w.heap.size w w' := by
  have hO := fun w => oneByte_any n hn w
  go_enter Try.func59, Try.ntmps59
  go_wp2_with fail
  refine (hO _).mono ?_
  rintro e w1 ⟨rfl, hb1⟩
  go_wp2_with fail
  go_ret
  exact ⟨rfl, below2 (below_alloc1 _ _) hb1⟩

set_option maxHeartbeats 400000 in
theorem vputInt_any (k n : Int) (s : ByteArray) (w : World) (hn : -9223372036854775808 ≤ n ∧ n ≤ 9223372036854775807) : Calls Try.prog 62 #[.agg #[.int .i64 k, .int .i64 n, .string s]] w fun e w' => e = .returned (.string (ba (enc (zig n)))) ∧ Below w.heap.size w w' := by
  have hO := fun w => putInt_S n w _ rfl hn
  clear hn
  go_enter Try.func62, Try.ntmps62
  go_wp2_with fail
  refine (hO _).mono ?_
  rintro e w1 ⟨rfl, hb1⟩
  go_wp2_with fail
  go_ret
  exact ⟨rfl, below2 (below_alloc1 _ _) hb1⟩

set_option maxHeartbeats 400000 in
theorem vputText_any (k n : Int) (s : ByteArray) (w : World) (hs : s.size ≤ 9223372036854775797) : Calls Try.prog 65 #[.agg #[.int .i64 k, .int .i64 n, .string s]] w fun e w' => e = .returned (.string (ba (putT s.data.toList))) ∧ Below w.heap.size w w' := by
  have hO := fun w => putText_S s w _ rfl hs
  clear hs
  go_enter Try.func65, Try.ntmps65
  go_wp2_with fail
  refine (hO _).mono ?_
  rintro e w1 ⟨rfl, hb1⟩
  go_wp2_with fail
  go_ret
  exact ⟨rfl, below2 (below_alloc1 _ _) hb1⟩

end Go.Proofs.Ytndbhalkhejgjaa
