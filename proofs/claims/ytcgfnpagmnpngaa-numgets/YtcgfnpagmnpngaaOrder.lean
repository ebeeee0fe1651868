/- NumOrder: for every two numbers, the statement returns true. -/
import Derived.Test.YtcgfnpagmnpngaaWakes
import Derived.Test.YtcgfnpagmnpngaaBase
namespace Go.Proofs.Ytcgfnpagmnpngaa
open Go.RowKit

set_option maxHeartbeats 400000 in
set_option maxRecDepth 100000 in
theorem order_walk (a b : Int) (w : World) (ha : 0 ≤ a ∧ a ≤ 18446744073709551615) (hb : 0 ≤ b ∧ b ≤ 18446744073709551615) :
    Calls Try.prog 6 #[.int .u64 a, .int .u64 b] w fun e w' => e = .returned (.bool true) ∧ Below w.heap.size w w' := by
  obtain ⟨ha0, ha1⟩ := ha
  obtain ⟨hb0, hb1⟩ := hb
  obtain ⟨S, hS⟩ : ∃ S, S = ba (enc a.toNat) := ⟨_, rfl⟩
  obtain ⟨T, hT⟩ : ∃ T, T = ba (enc b.toNat) := ⟨_, rfl⟩
  have hA := put_S a w S hS ha0 (by omega)
  have hB := fun w => put_S b w T hT hb0 (by omega)
  have l1 := enc_len a.toNat
  have hS1 : 1 ≤ S.size := by rw [hS, ba_size]; exact l1.1
  have hS2 : S.size ≤ 10 := by rw [hS, ba_size]; exact l1.2
  rcases Int.lt_trichotomy a b with h | h | h
  · have hle : S.size ≤ T.size := by rw [hS, hT, ba_size, ba_size]; exact enc_mono _ _ (by omega)
    have e1 : (a == b) = false := by rw [beq_eq_false_iff_ne]; omega
    have e2 : (S.toList == T.toList) = false := by
      rw [beq_eq_false_iff_ne, hS, hT, ba_list, ba_list]
      intro he
      have := enc_inj _ _ (by omega) (by omega) he
      omega
    clear ha1 hb1 hS hT l1
    go_enter Try.func6, Try.ntmps6
    go_wp2_with fail
    refine hA.mono ?_
    rintro e w1 ⟨rfl, hb1⟩
    go_wp2_with fail
    refine (hB w1).mono ?_
    rintro e w2 ⟨rfl, hb2⟩
    go_wp2_with fail
    refine (wakes_any w2).mono ?_
    rintro e w3 ⟨rfl, hb3⟩
    go_wp2_with fail
    go_ret
    exact ⟨rfl, (hb1.trans (hb2.mono hb1.size)).trans (hb3.mono (Nat.le_trans hb1.size hb2.size))⟩
  · subst h
    obtain rfl : S = T := by rw [hS, hT]
    clear ha1 hb1 hS hT l1
    go_enter Try.func6, Try.ntmps6
    go_wp2_with fail
    refine hA.mono ?_
    rintro e w1 ⟨rfl, hb1⟩
    go_wp2_with fail
    refine (hB w1).mono ?_
    rintro e w2 ⟨rfl, hb2⟩
    go_wp2_with fail
    refine (wakes_any w2).mono ?_
    rintro e w3 ⟨rfl, hb3⟩
    go_wp2_with fail
    go_ret
    exact ⟨rfl, (hb1.trans (hb2.mono hb1.size)).trans (hb3.mono (Nat.le_trans hb1.size hb2.size))⟩
  · have e1 : (a == b) = false := by rw [beq_eq_false_iff_ne]; omega
    have e2 : (S.toList == T.toList) = false := by
      rw [beq_eq_false_iff_ne, hS, hT, ba_list, ba_list]
      intro he
      have := enc_inj _ _ (by omega) (by omega) he
      omega
    clear ha1 hb1 hS hT l1
    go_enter Try.func6, Try.ntmps6
    go_wp2_with fail
    refine hA.mono ?_
    rintro e w1 ⟨rfl, hb1⟩
    go_wp2_with fail
    refine (hB w1).mono ?_
    rintro e w2 ⟨rfl, hb2⟩
    go_wp2_with fail
    refine (wakes_any w2).mono ?_
    rintro e w3 ⟨rfl, hb3⟩
    go_wp2_with fail
    go_ret
    exact ⟨rfl, (hb1.trans (hb2.mono hb1.size)).trans (hb3.mono (Nat.le_trans hb1.size hb2.size))⟩

end Go.Proofs.Ytcgfnpagmnpngaa
