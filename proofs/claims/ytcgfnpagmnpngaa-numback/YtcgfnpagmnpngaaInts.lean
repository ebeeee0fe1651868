/- The walk of NumInts: for every signed number the statement returns true. -/
import Derived.Test.YtcgfnpagmnpngaaOrder
namespace Go.Proofs.Ytcgfnpagmnpngaa
open Go.RowKit

set_option maxHeartbeats 400000 in
set_option maxRecDepth 100000 in
theorem ints_walk (n : Int) (w : World) (hn : -9223372036854775808 ≤ n ∧ n ≤ 9223372036854775807) :
    Calls Try.prog 8 #[.int .i64 n] w fun e w' => e = .returned (.bool true) ∧ Below w.heap.size w w' := by
  obtain ⟨S, hS⟩ : ∃ S, S = ba (enc (zig n)) := ⟨_, rfl⟩
  have hA := putInt_S n w S hS hn
  have hlen : (1 < S.size) ↔ 128 ≤ zig n := by rw [hS, ba_size]; exact enc_one (zig n)
  by_cases h : n < 0
  · have hz : zig n = (-2 * n - 1).toNat := by unfold zig; rw [if_pos h]
    have hB := fun w => put_S (2 * (-(n + 1)) + 1) w S (by rw [hS, hz, show (-2 * n - 1) = 2 * (-(n + 1)) + 1 from by omega]) (by omega) (by omega)
    have e1 : n < -64 ↔ (1 : Int) < (S.size : Int) := by
      have := hlen
      rw [hz] at this
      omega
    have HS : Hid (S = ba (enc (zig n))) := hS
    clear hS hlen hz
    have hn1 := hn.1
    clear hn
    go_enter Try.func8, Try.ntmps8
    go_wp2_with fail
    refine hA.mono ?_
    rintro e w1 ⟨rfl, hb1⟩
    go_wp2_with fail
    refine (hB w1).mono ?_
    rintro e w2 ⟨rfl, hb2⟩
    go_wp2_with fail
    refine (wakes_any w2).mono ?_
    rintro e w3 ⟨rfl, hb3⟩
    go_wp2_with fail
    go_ret
    exact ⟨rfl, (hb1.trans (hb2.mono hb1.size)).trans (hb3.mono (Nat.le_trans hb1.size hb2.size))⟩
  · have hz : zig n = (2 * n).toNat := by unfold zig; rw [if_neg h]
    have hB := fun w => put_S (2 * n) w S (by rw [hS, hz]) (by omega) (by omega)
    have e1 : 64 ≤ n ↔ (1 : Int) < (S.size : Int) := by
      have := hlen
      rw [hz] at this
      omega
    have HS : Hid (S = ba (enc (zig n))) := hS
    clear hS hlen hz
    have hn1 := hn.2
    have h0 : 0 ≤ n := by omega
    clear hn h
    go_enter Try.func8, Try.ntmps8
    go_wp2_with fail
    refine hA.mono ?_
    rintro e w1 ⟨rfl, hb1⟩
    go_wp2_with fail
    refine (hB w1).mono ?_
    rintro e w2 ⟨rfl, hb2⟩
    go_wp2_with fail
    refine (wakes_any w2).mono ?_
    rintro e w3 ⟨rfl, hb3⟩
    go_wp2_with fail
    go_ret
    exact ⟨rfl, (hb1.trans (hb2.mono hb1.size)).trans (hb3.mono (Nat.le_trans hb1.size hb2.size))⟩

end Go.Proofs.Ytcgfnpagmnpngaa
