/- Plain mathematics: what was put is got, what is got is put as it stood; a greater number has no fewer bytes. -/
import Derived.Test.YtkjioabhdglkpaaGreatGet
namespace Go.Proofs.YtkjioabhdglkpaaGreat

theorem pow_last (m : Nat) (h : m * 128 ^ 9 < 18446744073709551616) : m < 2 := by omega

theorem pow_split (acc m k : Nat) : acc + m % 128 * 128 ^ k + m / 128 * 128 ^ (k + 1) = acc + m * 128 ^ k := by
  have h1 : m / 128 * 128 ^ (k + 1) = m / 128 * 128 * 128 ^ k := by rw [Nat.pow_succ, Nat.mul_comm (128 ^ k) 128, Nat.mul_assoc]
  have h2 : (m % 128 + m / 128 * 128) * 128 ^ k = m * 128 ^ k := by rw [show m % 128 + m / 128 * 128 = m from by omega]
  rw [Nat.add_mul] at h2
  omega

theorem byte_low (m : Nat) (h : m < 256) : (UInt8.ofNat m).toNat = m := by
  simp [UInt8.toNat_ofNat']
  omega

theorem decF_enc (f k acc m : Nat) (rest : List UInt8) (hf : k + f = 9) (hk : k = 0 ∨ 0 < m) (hm : m * 128 ^ k < 18446744073709551616) :
    decF k acc (encF f m ++ rest) = (acc + m * 128 ^ k, k + (encF f m).length, true) := by
  induction f generalizing k acc m with
  | zero =>
    have hk9 : k = 9 := by omega
    subst hk9
    have h2 := pow_last m hm
    have hm1 : m = 1 := by omega
    subst hm1
    rfl
  | succ f ih =>
    by_cases h : m < 128
    · rw [encF_small _ _ h]
      have hb := byte_low m (by omega)
      simp only [List.cons_append, List.nil_append]
      rw [decF_last (by rw [hb]; omega) (by omega) (by rw [hb]; exact h), hb, Nat.mod_eq_of_lt h]
      rfl
    · rw [encF_big _ _ (by omega)]
      have hb := byte_low (m % 128 + 128) (by omega)
      simp only [List.cons_append]
      rw [decF_more (by omega) (by rw [hb]; omega), hb, show (m % 128 + 128) % 128 = m % 128 from by omega, ih (k + 1) _ _ (by omega) (by omega) (pow_step k m hm), pow_split]
      simp only [List.length_cons]
      rw [show k + 1 + (encF f (m / 128)).length = k + ((encF f (m / 128)).length + 1) from by omega]

theorem dec_enc (n : Nat) (rest : List UInt8) (hn : n < 18446744073709551616) : dec (enc n ++ rest) = (n, (enc n).length, true) := by
  unfold dec enc
  rw [decF_enc 9 0 0 n rest rfl (.inl rfl) (by omega)]
  simp

theorem enc_inj (a b : Nat) (ha : a < 18446744073709551616) (hb : b < 18446744073709551616) (h : enc a = enc b) : a = b := by
  have h1 := dec_enc a [] ha
  have h2 := dec_enc b [] hb
  rw [h, h2] at h1
  simpa using (congrArg Prod.fst h1).symm

theorem encF_mono (f a b : Nat) (h : a ≤ b) : (encF f a).length ≤ (encF f b).length := by
  induction f generalizing a b with
  | zero => simp [encF]
  | succ f ih =>
    by_cases h1 : a < 128
    · rw [encF_small _ _ h1]
      exact (encF_len _ _).1
    · rw [encF_big _ _ (by omega), encF_big _ _ (by omega)]
      have := ih (a / 128) (b / 128) (by omega)
      simpa using this

theorem enc_mono (a b : Nat) (h : a ≤ b) : (enc a).length ≤ (enc b).length := encF_mono 9 a b h

theorem enc_one (n : Nat) : (enc n).length > 1 ↔ 128 ≤ n := by
  unfold enc
  by_cases h : n < 128
  · rw [encF_small _ _ h]
    simp
    omega
  · rw [encF_big _ _ (by omega)]
    have := (encF_len 8 (n / 128)).1
    simp
    omega

theorem decF_back (l : List UInt8) (k acc n j : Nat) (hk : k ≤ 9) (h : decF k acc l = (n, j, true)) :
    ∃ m, n = acc + m * 128 ^ k ∧ k < j ∧ j ≤ 10 ∧ encF (9 - k) m = l.take (j - k) ∧ (0 < k → 0 < m) ∧ j - k ≤ l.length ∧ m * 128 ^ k < 18446744073709551616 := by
  induction l generalizing k acc with
  | nil => simp [decF] at h
  | cons b l ih =>
    have hb := b.toNat_lt
    have hbb : UInt8.ofNat b.toNat = b := by simp
    rw [decF] at h
    by_cases h1 : 0 < k ∧ b.toNat = 0
    · rw [if_pos h1] at h
      simp at h
    rw [if_neg h1] at h
    by_cases h2 : k = 9 ∧ b.toNat ≠ 1
    · rw [if_pos h2] at h
      simp at h
    rw [if_neg h2] at h
    by_cases h3 : b.toNat < 128
    · rw [if_pos h3] at h
      simp only [Prod.mk.injEq] at h
      obtain ⟨rfl, rfl, _⟩ := h
      refine ⟨b.toNat, by rw [Nat.mod_eq_of_lt h3], by omega, by omega, ?_, by omega, by simp, ?_⟩
      · rw [encF_small _ _ h3, hbb, show k + 1 - k = 1 from by omega]
        rfl
      · exact (mul_bound b.toNat k h3 hk (by omega)).1
    · rw [if_neg h3] at h
      have hk8 : k ≤ 8 := by omega
      obtain ⟨m, rfl, h5, h6, h7, h8, h9, h10⟩ := ih (k + 1) _ (by omega) h
      refine ⟨b.toNat % 128 + m * 128, ?_, by omega, h6, ?_, by omega, by simp; omega, ?_⟩
      · have := pow_split acc (b.toNat % 128 + m * 128) k
        rw [show (b.toNat % 128 + m * 128) % 128 = b.toNat % 128 from by omega, show (b.toNat % 128 + m * 128) / 128 = m from by omega] at this
        exact this
      · rw [show 9 - k = (9 - (k + 1)) + 1 from by omega, encF_big _ _ (by have := h8 (by omega); omega), show (b.toNat % 128 + m * 128) / 128 = m from by omega, h7, show j - k = (j - (k + 1)) + 1 from by omega, List.take_succ_cons, show (b.toNat % 128 + m * 128) % 128 + 128 = b.toNat from by omega, hbb]
      · have hs := pow_split 0 (b.toNat % 128 + m * 128) k
        rw [show (b.toNat % 128 + m * 128) % 128 = b.toNat % 128 from by omega, show (b.toNat % 128 + m * 128) / 128 = m from by omega] at hs
        have hm1 := h8 (by omega)
        have e1 : b.toNat % 128 * 128 ^ k < 128 ^ (k + 1) := by
          have : b.toNat % 128 * 128 ^ k ≤ 127 * 128 ^ k := Nat.mul_le_mul_right _ (by omega)
          have : 0 < 128 ^ k := Nat.pow_pos (by omega)
          rw [Nat.pow_succ]
          omega
        have e3 : 2 ^ (64 - 7 * (k + 1)) * 128 ^ (k + 1) = 18446744073709551616 := by
          rw [pow_128, ← Nat.pow_add, show 64 - 7 * (k + 1) + 7 * (k + 1) = 64 from by omega]
        rw [← e3] at h10
        have e4 := Nat.lt_of_mul_lt_mul_right h10
        have e5 : (m + 1) * 128 ^ (k + 1) ≤ 2 ^ (64 - 7 * (k + 1)) * 128 ^ (k + 1) := Nat.mul_le_mul_right _ e4
        rw [e3, Nat.add_mul] at e5
        omega

theorem dec_back (l : List UInt8) (n j : Nat) (h : dec l = (n, j, true)) : 0 < j ∧ j ≤ 10 ∧ j ≤ l.length ∧ enc n = l.take j ∧ n < 18446744073709551616 := by
  obtain ⟨m, rfl, h1, h2, h3, _, h5, h6⟩ := decF_back l 0 0 n j (by omega) h
  simp only [Nat.zero_add, Nat.pow_zero, Nat.mul_one, Nat.sub_zero] at *
  exact ⟨h1, h2, h5, h3, h6⟩

theorem decF_no (l : List UInt8) (k acc : Nat) : (decF k acc l).2.2 = false → decF k acc l = (0, 0, false) := by
  induction l generalizing k acc with
  | nil => intro _; rfl
  | cons b l ih =>
    rw [decF]
    split
    · intro _; rfl
    · split
      · intro _; rfl
      · split
        · intro h; simp at h
        · exact ih _ _

theorem dec_no (l : List UInt8) (h : (dec l).2.2 = false) : dec l = (0, 0, false) := decF_no l 0 0 h

end Go.Proofs.YtkjioabhdglkpaaGreat
