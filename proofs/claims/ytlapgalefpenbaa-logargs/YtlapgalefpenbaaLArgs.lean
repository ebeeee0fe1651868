/- LogArgs: the walk. -/
import Derived.Test.YtlapgalefpenbaaLWakes
namespace Go.Proofs.Ytlapgalefpenbaa
open Go.RowKit

set_option maxHeartbeats 3200000 in
set_option maxRecDepth 100000 in
theorem logArgs_long (n : Int) (t : ByteArray) (w : World) (_hn : -9223372036854775808 ≤ n ∧ n ≤ 9223372036854775807) (_ht : t.size ≤ maxLen) (hl : 1000 < t.size) :
    Calls Try.prog 6 #[.int .i64 n, .string t] w fun e w' => e = .returned (.bool true) ∧ Below w.heap.size w w' := by
  have h : (1000 : Int) < (t.size : Int) := by omega
  go_enter Try.func6, Try.ntmps6
  go_wp2_with fail
  refine (wakes_any _).mono ?_
  rintro e w1 ⟨rfl, b1⟩
  go_wp2_with fail
  go_ret
  exact ⟨rfl, b1⟩

set_option maxHeartbeats 6400000 in
set_option maxRecDepth 100000 in
theorem logArgs_short (n : Int) (t : ByteArray) (w : World) (hn : -9223372036854775808 ≤ n ∧ n ≤ 9223372036854775807) (hl : t.size ≤ 1000) :
    Calls Try.prog 6 #[.int .i64 n, .string t] w fun e w' => e = .returned (.bool true) ∧ Below w.heap.size w w' := by
  have h : ¬ (1000 : Int) < (t.size : Int) := by omega
  go_enter Try.func6, Try.ntmps6
  go_wp2_with fail
  refine (format_nil t w).mono ?_
  rintro e w1 ⟨rfl, e1⟩
  rw [e1]
  go_wp2_with fail
  refine (open_nil w).mono ?_
  rintro e w2 ⟨rfl, e2⟩
  rw [e2]
  go_wp2_with fail
  refine (mod_any n 7 _ hn.1 hn.2 (by omega) (by omega)).mono ?_
  rintro e w3 ⟨k, rfl, hk, e3⟩
  rw [e3]
  go_wp2_with fail
  rw [show (1 : Int) + (k : Int) = ((1 + k : Nat) : Int) by omega]
  refine (new_any (1 + k) w (by omega) (by omega)).mono ?_
  rintro e w4 ⟨g, gs, rfl, d4, b4⟩
  go_wp2_with fail
  refine (format_small d4 (by show 1 + k < 8; omega) ⟨#[]⟩).mono ?_
  rintro e w5 ⟨rfl, e5⟩
  rw [e5]
  go_wp2_with fail
  refine (open_small d4 (by show 1 + k < 8; omega)).mono ?_
  rintro e w6 ⟨rfl, e6⟩
  rw [e6]
  go_wp2_with fail
  refine (new_any 20 w4 (by omega) (by omega)).mono ?_
  rintro e w7 ⟨g7, gs7, rfl, d7, b7⟩
  go_wp2_with fail
  refine (open_none d7 b7.size (by show 8 ≤ 20; omega) (by show (-1 : Int) ≠ 0; omega) rfl).mono ?_
  rintro e w8 ⟨rfl, S8, lb8, hv8, rv8, l8, f8, g8⟩
  have b8 : Below w4.heap.size w4 w8 := f8.belowD b7 d7 (Nat.le_refl _)
  have b9 := below2 b4 b8
  clear l8 f8 g8 d7 d4
  go_wp2_with fail
  refine (append_nil t _).mono ?_
  rintro e wa ⟨rfl, ea⟩
  rw [ea]
  go_wp2_with fail
  refine (flush_nil _).mono ?_
  rintro e wb ⟨rfl, eb⟩
  rw [eb]
  go_wp2_with fail
  refine (replace_nil t _).mono ?_
  rintro e wc ⟨rfl, ec⟩
  rw [ec]
  go_wp2_with fail
  refine (base_nil _).mono ?_
  rintro e wd ⟨rfl, ed⟩
  rw [ed]
  go_wp2_with fail
  refine (records_nil _).mono ?_
  rintro e we ⟨rfl, ee⟩
  rw [ee]
  go_wp2_with fail
  refine (room_nil _).mono ?_
  rintro e wf ⟨rfl, ef⟩
  rw [ef]
  go_wp2_with fail
  refine (wakes_any _).mono ?_
  rintro e wg ⟨rfl, bg⟩
  go_wp2_with fail
  go_ret
  exact ⟨rfl, below2 b9 bg⟩

theorem logArgs_any (n : Int) (t : ByteArray) (w : World) (hn : -9223372036854775808 ≤ n ∧ n ≤ 9223372036854775807) (ht : t.size ≤ maxLen) :
    Calls Try.prog 6 #[.int .i64 n, .string t] w fun e w' => e = .returned (.bool true) ∧ Below w.heap.size w w' := by
  by_cases h : 1000 < t.size
  · exact logArgs_long n t w hn ht h
  · exact logArgs_short n t w hn (by omega)

end Go.Proofs.Ytlapgalefpenbaa
