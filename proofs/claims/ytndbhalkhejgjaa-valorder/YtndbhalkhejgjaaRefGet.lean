/- The contracts of the document's own answers for Get, GetInt, GetText. -/
import Derived.Test.YtndbhalkhejgjaaGetInt
namespace Go.Proofs.Ytndbhalkhejgjaa
open Go.RowKit

/-- What the document's Get answers. -/
def gotA (d : Nat × Nat × Bool) : Value := .agg #[.int .u64 (d.1 : Int), .int .i64 (d.2.1 : Int), .bool d.2.2]

theorem gotA_no {d : Nat × Nat × Bool} (h : d = (0, 0, false)) : Ending.returned (.agg #[.int .u64 0, .int .i64 0, .bool false]) = .returned (gotA d) := by rw [h]; rfl

theorem gotA_yes {d : Nat × Nat × Bool} {x y : Int} {n k : Nat} (h : d = (n, k, true)) (hx : x = (n : Int)) (hy : y = (k : Int)) :
    Ending.returned (.agg #[.int .u64 x, .int .i64 y, .bool true]) = .returned (gotA d) := by rw [h, hx, hy]; rfl

theorem gatherR (acc k c : Nat) (V : Int) (hc : c < 256) (hk : k ≤ 9) (h9 : k = 9 → c % 128 ≤ 1) (ha : acc < 128 ^ k) (hV : V = ((128 ^ k : Nat) : Int)) :
    IntKind.u64.wrap ((acc : Int) + IntKind.u64.wrap ((c : Int) % 128 * V)) = ((acc + c % 128 * 128 ^ k : Nat) : Int) := by
  have hb := mul_bound (c % 128) k (by omega) hk h9
  have h1 := hb.1
  have h2 := hb.2 acc ha
  rw [hV, show ((c : Int) % 128) = ((c % 128 : Nat) : Int) from by omega, ← Int.natCast_mul, IntKind.wrap_u64, IntKind.wrap_u64]
  have _ := hc
  omega

theorem by_step (V : Int) (k : Nat) (hk : k ≤ 8) (hV : V = ((128 ^ k : Nat) : Int)) : IntKind.u64.wrap (V * 128) = ((128 ^ (k + 1) : Nat) : Int) := by
  have h1 : (128 : Nat) ^ (k + 1) ≤ 128 ^ 9 := Nat.pow_le_pow_right (by omega) (by omega)
  rw [Nat.pow_succ] at h1 ⊢
  rw [hV, IntKind.wrap_u64]
  omega

set_option maxHeartbeats 800000 in
set_option maxRecDepth 100000 in
theorem refGet_out (s : ByteArray) (p : Int) (w : World) (hp : p < 0 ∨ (s.size : Int) < p) :
    Calls Try.prog 53 #[.string s, .int .i64 p] w fun e w' => e = .returned (gotA (0, 0, false)) ∧ Below w.heap.size w w' := by
  rcases hp with h | h
  · go_enter Try.func53, Try.ntmps53
    go_wp2
    exact bodyPost_ret (v := .agg #[.int .u64 0, .int .i64 0, .bool false]) (by simp [results, Try.results53, go_sem]) rfl ⟨rfl, (Below.refl _ _).alloc (Nat.le_refl _) _⟩
  · have h0 : 0 ≤ p := by omega
    go_enter Try.func53, Try.ntmps53
    go_wp2
    exact bodyPost_ret (v := .agg #[.int .u64 0, .int .i64 0, .bool false]) (by simp [results, Try.results53, go_sem]) rfl ⟨rfl, (Below.refl _ _).alloc (Nat.le_refl _) _⟩

set_option maxHeartbeats 800000 in
set_option maxRecDepth 100000 in
theorem refGet_in (s : ByteArray) (p : Nat) (w : World) (hp : p ≤ s.size) (hs : s.size ≤ 281474976710656) :
    Calls Try.prog 53 #[.string s, .int .i64 (p : Int)] w fun e w' => e = .returned (gotA (dec (s.data.toList.drop p))) ∧ Below w.heap.size w w' := by
  obtain ⟨d, hd⟩ : ∃ d, d = dec (s.data.toList.drop p) := ⟨_, rfl⟩
  rw [← hd]
  have HD : Hid (d = dec (s.data.toList.drop p)) := hd
  clear hd
  have hq1 : decide (s.size < p) = false := by simp; omega
  have hq2 : decide ((p : Int) < 0) = false := by simp
  go_enter Try.func53, Try.ntmps53
  go_wp2
  clear hq1 hq2
  go_loop [5, 6, 7] (fun sn sb si => ∃ (k acc : Nat) (V : Int), k ≤ 9 ∧ p + k ≤ s.size ∧ Hid (acc < 128 ^ k) ∧ Hid (V = ((128 ^ k : Nat) : Int)) ∧ si = .int .i64 (k : Int) ∧ sn = .int .u64 (acc : Int) ∧ sb = .int .u64 V ∧ Hid (decF k acc (s.data.toList.drop (p + k)) = d)) (fun _ _ si => 10 - (intOf si).toNat)
  case atStart => exact ⟨0, 0, 1, by omega, by omega, show 0 < 128 ^ 0 from by omega, show (1 : Int) = ((128 ^ 0 : Nat) : Int) from rfl, rfl, rfl, rfl, show decF 0 0 (s.data.toList.drop (p + 0)) = d from by rw [HD.out]; rfl⟩
  case round =>
    obtain ⟨k, acc, V, hk, hpk, HA, HV, rfl, rfl, rfl, HL⟩ := hrel
    by_cases hlt : p + k < s.size
    · obtain ⟨c, hc⟩ : ∃ c : Nat, s[p + k].toNat = c := ⟨_, rfl⟩
      have hc2 : c < 256 := by rw [← hc]; exact s[p + k].toNat_lt
      have HC : Hid (s[p + k].toNat = c) := hc
      have HL2 : Hid (decF k acc (s[p + k] :: s.data.toList.drop (p + k + 1)) = d) := by rw [← HL.out, drop_cons s (p + k) hlt]; rfl
      clear HL HD
      go_wp2
      · have h1 : (1 : Int) < (c : Int) ∨ ((c : Int) == 0) = true := by assumption
        have h2 : (k : Int) = 9 := by assumption
        have h3 : (c : Int) ≤ 1 := by assumption
        have hd : d = (0, 0, false) := by
          rw [← HL2.out]
          refine decF_zero (by omega) ?_
          rw [HC.out]
          rcases h1 with h | h
          · omega
          · simpa using h
        exact bodyPost_ret (v := .agg #[.int .u64 0, .int .i64 0, .bool false]) (by simp [results, Try.results53, go_sem]) rfl ⟨gotA_no hd, (Below.refl _ _).alloc (Nat.le_refl _) _⟩
      · have h1 : (c : Int) ≤ 1 ∧ ((c : Int) == 0) = false := by assumption
        have h2 : (k : Int) = 9 := by assumption
        have h4 := h1.2
        rw [beq_eq_false_iff_ne] at h4
        refine bodyPost_ret (v := .agg #[.int .u64 (IntKind.u64.wrap ((acc : Int) + IntKind.u64.wrap ((c : Int) % 128 * V))), .int .i64 10, .bool true]) (by simp [results, Try.results53, go_sem]) rfl ⟨?_, (Below.refl _ _).alloc (Nat.le_refl _) _⟩
        exact gotA_yes (HL2.out.symm.trans (decF_last (fun _ => by rw [HC.out]; omega) (fun _ => by rw [HC.out]; omega) (by rw [HC.out]; omega))) (by rw [HC.out]; exact gatherR acc k c V hc2 hk (by omega) HA.out HV.out) (by omega)
      · have h1 : (1 : Int) < (c : Int) := by assumption
        have h2 : (k : Int) = 9 := by assumption
        have hd : d = (0, 0, false) := by
          rw [← HL2.out]
          exact decF_nine (by omega) (by rw [HC.out]; omega)
        exact bodyPost_ret (v := .agg #[.int .u64 0, .int .i64 0, .bool false]) (by simp [results, Try.results53, go_sem]) rfl ⟨gotA_no hd, (Below.refl _ _).alloc (Nat.le_refl _) _⟩
      · have h1 : ((c : Int) == 0) = true := by assumption
        have h2 : 0 < k := by assumption
        have hd : d = (0, 0, false) := by
          rw [← HL2.out]
          exact decF_zero h2 (by rw [HC.out]; simpa using h1)
        exact bodyPost_ret (v := .agg #[.int .u64 0, .int .i64 0, .bool false]) (by simp [results, Try.results53, go_sem]) rfl ⟨gotA_no hd, (Below.refl _ _).alloc (Nat.le_refl _) _⟩
      · have h1 : ((c : Int) == 0) = false := by assumption
        have h2 : ¬ (k : Int) = 9 := by assumption
        rw [beq_eq_false_iff_ne] at h1
        refine bodyPost_ret (v := .agg #[.int .u64 (IntKind.u64.wrap ((acc : Int) + IntKind.u64.wrap ((c : Int) % 128 * V))), .int .i64 ((k : Int) + 1), .bool true]) (by simp [results, Try.results53, go_sem]) rfl ⟨?_, (Below.refl _ _).alloc (Nat.le_refl _) _⟩
        exact gotA_yes (HL2.out.symm.trans (decF_last (fun _ => by rw [HC.out]; omega) (fun _ => by omega) (by rw [HC.out]; omega))) (by rw [HC.out]; exact gatherR acc k c V hc2 hk (by omega) HA.out HV.out) (by omega)
      · have h1 : (128 : Int) ≤ (c : Int) := by assumption
        have h2 : ¬ (k : Int) = 9 := by assumption
        go_round
        case rel => exact ⟨k + 1, acc + c % 128 * 128 ^ k, _, by omega, by omega, show acc + c % 128 * 128 ^ k < 128 ^ (k + 1) from lt_step acc c k HA.out, show IntKind.u64.wrap (V * 128) = ((128 ^ (k + 1) : Nat) : Int) from by_step V k (by omega) HV.out, by go_num, by rw [gatherR acc k c V hc2 hk (by omega) HA.out HV.out], rfl, show decF (k + 1) (acc + c % 128 * 128 ^ k) (s.data.toList.drop (p + (k + 1))) = d from by rw [← HL2.out, decF_more (by omega) (by rw [HC.out]; omega), HC.out]; rfl⟩
        case measure => simp [intOf]; omega
      · have h2 : ¬ (k : Int) = 9 := by assumption
        refine bodyPost_ret (v := .agg #[.int .u64 (IntKind.u64.wrap ((acc : Int) + IntKind.u64.wrap ((c : Int) % 128 * V))), .int .i64 ((k : Int) + 1), .bool true]) (by simp [results, Try.results53, go_sem]) rfl ⟨?_, (Below.refl _ _).alloc (Nat.le_refl _) _⟩
        exact gotA_yes (HL2.out.symm.trans (decF_last (fun _ => by omega) (fun _ => by omega) (by rw [HC.out]; omega))) (by rw [HC.out]; exact gatherR acc k c V hc2 hk (by omega) HA.out HV.out) (by omega)
      · have h1 : (128 : Int) ≤ (c : Int) := by assumption
        have h2 : ¬ (k : Int) = 9 := by assumption
        go_round
        case rel => exact ⟨k + 1, acc + c % 128 * 128 ^ k, _, by omega, by omega, show acc + c % 128 * 128 ^ k < 128 ^ (k + 1) from lt_step acc c k HA.out, show IntKind.u64.wrap (V * 128) = ((128 ^ (k + 1) : Nat) : Int) from by_step V k (by omega) HV.out, by go_num, by rw [gatherR acc k c V hc2 hk (by omega) HA.out HV.out], rfl, show decF (k + 1) (acc + c % 128 * 128 ^ k) (s.data.toList.drop (p + (k + 1))) = d from by rw [← HL2.out, decF_more (by omega) (by rw [HC.out]; omega), HC.out]; rfl⟩
        case measure => simp [intOf]; omega
    · have hd : d = (0, 0, false) := by rw [← HL.out, drop_all s (p + k) hlt]; rfl
      have HN : Hid (d = (0, 0, false)) := hd
      clear hd HL HD
      go_wp2
      exact bodyPost_ret (v := .agg #[.int .u64 0, .int .i64 0, .bool false]) (by simp [results, Try.results53, go_sem]) rfl ⟨gotA_no HN.out, (Below.refl _ _).alloc (Nat.le_refl _) _⟩

theorem refGet_any (s : ByteArray) (p : Int) (w : World) (hs : s.size ≤ 281474976710656) :
    Calls Try.prog 53 #[.string s, .int .i64 p] w fun e w' => e = .returned (gotA (getAt s.data.toList p)) ∧ Below w.heap.size w w' := by
  have hl : s.data.toList.length = s.size := by simp
  by_cases h : 0 ≤ p ∧ p ≤ (s.data.toList.length : Int)
  · unfold getAt
    rw [if_pos h]
    have hc := refGet_in s p.toNat w (by omega) hs
    rw [show ((p.toNat : Nat) : Int) = p from by omega] at hc
    exact hc
  · unfold getAt
    rw [if_neg h]
    exact refGet_out s p w (by omega)

end Go.Proofs.Ytndbhalkhejgjaa
