/- Plain mathematics of layer 1: a number's bytes; no program, no kit. -/
namespace Go.Proofs.YtkjioabhdglkpaaGreat

/-- A number's bytes, by fuel: at most fuel + 1 of them. -/
def encF : Nat → Nat → List UInt8
  | 0, n => [UInt8.ofNat n]
  | f + 1, n => if n < 128 then [UInt8.ofNat n] else UInt8.ofNat (n % 128 + 128) :: encF f (n / 128)

/-- The bytes of a number below 2 to the 64. -/
def enc (n : Nat) : List UInt8 := encF 9 n

theorem encF_small (f n : Nat) (h : n < 128) : encF f n = [UInt8.ofNat n] := by
  cases f <;> simp [encF, h]

theorem encF_big (f n : Nat) (h : 128 ≤ n) : encF (f + 1) n = UInt8.ofNat (n % 128 + 128) :: encF f (n / 128) := by
  simp [encF, Nat.not_lt.2 h]

theorem encF_len (f n : Nat) : 1 ≤ (encF f n).length ∧ (encF f n).length ≤ f + 1 := by
  induction f generalizing n with
  | zero => simp [encF]
  | succ f ih =>
    by_cases h : n < 128
    · simp [encF, h]
    · have := ih (n / 128)
      simp [encF, h]
      omega

theorem enc_len (n : Nat) : 1 ≤ (enc n).length ∧ (enc n).length ≤ 10 := encF_len 9 n

end Go.Proofs.YtkjioabhdglkpaaGreat
