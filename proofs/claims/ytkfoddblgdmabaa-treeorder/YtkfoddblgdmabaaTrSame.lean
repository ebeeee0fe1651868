/- Layer 10: the law's Same; the document's Depth. -/
import Derived.Test.YtkfoddblgdmabaaTrRefAll
import Derived.Test.YtkfoddblgdmabaaTrDepth
import Derived.BigQuiet
namespace Go.Proofs.Ytkfoddblgdmabaa.tr
open Go.RowKit

section
variable {w : World} {B1 B2 : Nat} {v1 v2 : Value} {l : List Ent}
set_option maxHeartbeats 6400000 in
set_option maxRecDepth 100000 in
theorem same_any (h : RowE w B1 v1 l) (g : RowR w B2 v2 l) (hlen : l.length ≤ 100000) : Calls Try.prog 20 #[v1, v2] w fun e w' => e = .returned (.bool true) ∧ Below w.heap.size w w' := by
  obtain ⟨va, vc, e1, _, _⟩ := h.len
  obtain ⟨ua, uc, e2, _, _⟩ := g.len
  have HE : Hid (RowE w B1 v1 l) := h
  have HR : Hid (RowR w B2 v2 l) := g
  subst e1 e2
  clear h g
  go_enter Try.func20, Try.ntmps20
  go_wp2_with fail
  go_loopw [5] (fun sk wr => ∃ k : Nat, k ≤ l.length ∧ sk = .int .i64 (k : Int) ∧ Hid (Below w.heap.size w wr)) (fun sk _ => l.length - (Go.RowKit.intOf sk).toNat)
  case atStart => exact ⟨0, Nat.zero_le _, rfl, Below.refl _ _⟩
  case round =>
    obtain ⟨k, hk, rfl, hb⟩ := hrel
    by_cases hlt : k < l.length
    · have hlt2 : (k : Int) < (l.length : Int) := by omega
      have hx : l[k]? = some l[k] := by simp [hlt]
      generalize l[k] = y at hx
      obtain ⟨a, c, e, _, _, al, s0⟩ := HE.out.cell gE_len hx
      obtain ⟨b, d, e', _, _, bl, t0⟩ := HR.out.cell gE_len hx
      injection e with f1 f2 f3
      injection e' with g1 g2 g3
      subst f1 f3 g1 g3
      have r0 := (hb.out.cell (p := ⟨a, k * 2, none⟩) al).trans (s0 0 _ rfl).1
      have r1 := (hb.out.cell (p := ⟨a, k * 2 + 1, none⟩) al).trans (s0 1 _ rfl).1
      have q0 := (hb.out.cell (p := ⟨b, k * 2, none⟩) bl).trans (t0 0 _ rfl).1
      have q1 := (hb.out.cell (p := ⟨b, k * 2 + 1, none⟩) bl).trans (t0 1 _ rfl).1
      have n1 : (!(y.key.toList == y.key.toList)) = false := by simp
      have HB : Hid (∀ j, Below w.heap.size w (wr.drewN j)) := fun j => hb.out.trans ((below_drewN wr j).mono hb.out.size)
      clear s0 t0 f2 g2 hx
      go_wp2_with fail
      go_quiet (fail)
      go_wp2_with fail
      go_roundw
      case rel => exact ⟨k + 1, by omega, by go_num, HB.out _⟩
      case measure => simp [Go.RowKit.intOf]; omega
    · obtain rfl : k = l.length := by omega
      go_wp2_with fail
      go_ret
      exact ⟨rfl, hb.out⟩
end

/-- How many levels fit. -/
theorem levels (n h : Nat) (hn : n ≠ 0) (hh : 2 ≤ h) : ∃ K, 2 * h ^ K ≤ n + 1 ∧ n + 1 < 2 * h ^ (K + 1) := by
  refine Classical.byContradiction fun q => ?_
  have h1 : ∀ K, 2 * h ^ K ≤ n + 1 := fun K => by
    induction K with
    | zero => simp; omega
    | succ K ih => exact Nat.not_lt.1 fun z => q ⟨K, ih, z⟩
  have h2 := h1 (n + 1)
  have h3 : n + 1 < h ^ (n + 1) := Nat.lt_pow_self (by omega)
  omega

set_option maxHeartbeats 3200000 in
set_option maxRecDepth 100000 in
theorem rdepth_pos (n f h K : Nat) (hn : n ≤ 4096) (h0 : n ≠ 0) (hh : (f + 1) / 2 = h) (hb : 2 ≤ h ∧ h ≤ 32) (hK1 : 2 * h ^ K ≤ n + 1) (hK2 : n + 1 < 2 * h ^ (K + 1)) (w : World) : Calls Try.prog 19 #[.int .i64 (n : Int), .int .i64 (f : Int)] w fun e w' => e = .returned (.int .i64 ((K + 1 : Nat) : Int)) ∧ w' = w := by
  have q1 : ((f : Int) + 1).tdiv 2 = (h : Int) := by rw [Int.tdiv_eq_ediv_of_nonneg (by omega)]; omega
  have q2 : ((f : Int) + 1) / 2 = (h : Int) := by omega
  have hf : (f : Int) ≤ 64 := by omega
  have hn0 : ((n : Int) == 0) = false := by rw [beq_eq_false_iff_ne]; omega
  have HM : Hid (∀ k, k ≤ K → 2 * h ^ k ≤ n + 1) := fun k hk => by
    have h5 : h ^ k ≤ h ^ K := Nat.pow_le_pow_right (by omega) hk
    omega
  have HK : Hid (∀ k, n + 1 < 2 * h ^ (k + 1) → k ≤ K → k = K) := fun k h1 h2 => by
    refine Decidable.byContradiction fun q => ?_
    have := HM.out (k + 1) (by omega)
    omega
  have HK2 : Hid (∀ k, 2 * h ^ (k + 1) ≤ n + 1 → k < K) := fun k h1 => by
    refine Decidable.byContradiction fun q => ?_
    have h5 : h ^ (K + 1) ≤ h ^ (k + 1) := Nat.pow_le_pow_right (by omega) (by omega)
    omega
  clear h0 hh hK1 hK2
  go_enter Try.func19, Try.ntmps19
  go_wp2_with fail
  go_loopw [5, 6] (fun sd sp wr => ∃ k p : Nat, sd = .int .i64 (k : Int) ∧ sp = .int .i64 (p : Int) ∧ k < p ∧ 2 ≤ p ∧ p ≤ 5000 ∧ Hid (p = 2 * h ^ k) ∧ Hid (k ≤ K) ∧ Hid (wr = w)) (fun _ sp _ => 10000 - (Go.RowKit.intOf sp).toNat)
  case atStart => exact ⟨0, 2, rfl, rfl, by omega, Nat.le_refl _, by omega, by show _ = _; simp, Nat.zero_le _, rfl⟩
  case round =>
    obtain ⟨k, p, rfl, rfl, hkp, hp2, hp5, hpe, hkK, hwr⟩ := hrel
    rw [hwr.out]
    clear hwr
    obtain ⟨m, hm⟩ : ∃ m, p * h = m := ⟨_, rfl⟩
    have hmi : (p : Int) * (h : Int) = (m : Int) := by rw [← hm]; simp
    have hm1 : 2 * p ≤ m := by rw [← hm, Nat.mul_comm]; exact Nat.mul_le_mul_left _ hb.1
    have hm2 : m ≤ 5000 * 32 := by rw [← hm]; exact Nat.mul_le_mul hp5 hb.2
    have HP : Hid (m = 2 * h ^ (k + 1)) := by show _ = _; rw [← hm, hpe.out, Nat.pow_succ, Nat.mul_assoc]
    clear hm
    by_cases hle : m ≤ n + 1
    · have hle2 : (m : Int) ≤ (n : Int) + 1 := by omega
      have hk2 : Hid (k + 1 ≤ K) := HK2.out k (by rw [← HP.out]; omega)
      go_wp2_with fail
      go_roundw
      case rel => exact ⟨k + 1, m, by go_num, rfl, by omega, by omega, by omega, HP, hk2, True.intro⟩
      case measure => simp [Go.RowKit.intOf]; omega
    · have hle2 : ¬ ((m : Int) ≤ (n : Int) + 1) := by omega
      have HF : Hid (k = K) := HK.out k (by rw [← HP.out]; omega) hkK.out
      go_wp2_with fail
      go_ret
      exact ⟨by rw [← HF.out]; simp; omega, rfl⟩
set_option maxHeartbeats 800000 in
theorem rdepth_zero (f : Nat) (w : World) : Calls Try.prog 19 #[.int .i64 0, .int .i64 (f : Int)] w fun e w' => e = .returned (.int .i64 0) ∧ w' = w := by
  go_enter Try.func19, Try.ntmps19
  go_wp2_with fail
  go_ret
  exact ⟨rfl, rfl⟩
/-- **Depth** of the document. -/
theorem rdepth_any (n f : Nat) (hn : n ≤ 4096) (h3 : 3 ≤ f) (h64 : f ≤ 64) : ∃ D : Nat, D ≤ 20000 ∧ (∀ d, Dp f n d → d ≤ D) ∧ ∀ w, Calls Try.prog 19 #[.int .i64 (n : Int), .int .i64 (f : Int)] w fun e w' => e = .returned (.int .i64 (D : Int)) ∧ w' = w := by
  by_cases h0 : n = 0
  · subst h0
    exact ⟨0, by omega, fun d hd => by rw [hd.zero rfl]; exact Nat.le_refl _, fun w => rdepth_zero f w⟩
  · obtain ⟨K, k1, k2⟩ := levels n ((f + 1) / 2) h0 (by omega)
    refine ⟨K + 1, ?_, fun d hd => ?_, fun w => rdepth_pos n f _ K hn h0 rfl (by omega) k1 k2 w⟩
    · have h1 : K < ((f + 1) / 2) ^ K := Nat.lt_pow_self (by omega)
      omega
    · obtain ⟨H, rfl, h2, _⟩ := hd.pos h0
      by_cases hH : H ≤ K
      · omega
      · have h4 := h2 (by omega)
        have h5 : ((f + 1) / 2) ^ (K + 1) ≤ ((f + 1) / 2) ^ H := Nat.pow_le_pow_right (by omega) (by omega)
        omega

end Go.Proofs.Ytkfoddblgdmabaa.tr
