/- The contracts of num.PutInt and num.PutText, and of the laws' own example. -/
import Derived.Test.YtkjioabhdglkpaaGreatGet
namespace Go.Proofs.YtkjioabhdglkpaaGreat
open Go.RowKit

/-- A signed number as one without a sign. -/
def zig (n : Int) : Nat := if n < 0 then (-2 * n - 1).toNat else (2 * n).toNat

/-- A text of these bytes. -/
def tx (l : List UInt8) : Value := .string ⟨l.toArray⟩

theorem put_int (x : Int) (w : World) (h0 : 0 ≤ x) (h1 : x < 18446744073709551616) :
    Calls Tryz.prog 90 #[.int .u64 x] w fun e w' => e = .returned (tx (enc x.toNat)) ∧ Below w.heap.size w w' := by
  have h := put_any x.toNat w (by omega)
  rw [show ((x.toNat : Nat) : Int) = x from by omega] at h
  exact h

theorem not64 (n : Int) (h0 : -9223372036854775808 ≤ n) (h1 : n ≤ 9223372036854775807) : bits .xor .i64 (-1) n = -1 - n := by
  show IntKind.i64.wrap ((BitVec.ofInt 64 (-1) ^^^ BitVec.ofInt 64 n).toNat : Int) = _
  have h1 : BitVec.ofInt 64 (-1) = BitVec.allOnes 64 := by decide
  rw [h1, BitVec.allOnes_xor, BitVec.toNat_not, BitVec.toNat_ofInt]
  simp [IntKind.wrap, IntKind.bits, IntKind.signed]
  omega

theorem or_one : ∀ x : Nat, x % 2 = 0 → x ||| 1 = x + 1 := by
  intro x hx
  have := Nat.two_pow_add_eq_or_of_lt (i := 1) (b := 1) (by omega) (x / 2)
  rw [show 2 ^ 1 * (x / 2) = x from by omega] at this
  omega

theorem neg_code (n : Int) (h0 : n < 0) (h1 : -9223372036854775808 ≤ n) :
    bits .or .u64 (IntKind.u64.wrap (IntKind.u64.wrap (bits .xor .i64 (-1) n) * 2)) 1 = ((zig n : Nat) : Int) := by
  rw [not64 n h1 (by omega), IntKind.wrap_u64, IntKind.wrap_u64]
  rw [show (-1 - n) % 18446744073709551616 * 2 % 18446744073709551616 = (((-1 - n).toNat * 2 : Nat) : Int) from by omega]
  have h := u64_or_nat ((-1 - n).toNat * 2) 1 (by omega) (by omega)
  rw [or_one _ (by omega)] at h
  refine Eq.trans h ?_
  unfold zig
  rw [if_pos h0]
  omega

theorem zig_lt (n : Int) (h0 : -9223372036854775808 ≤ n) (h1 : n ≤ 9223372036854775807) : zig n < 18446744073709551616 := by
  unfold zig
  split <;> omega

/-- A text with its length ahead. -/
def putT (t : List UInt8) : List UInt8 := enc t.length ++ t

theorem tx_add (a b : List UInt8) (s : ByteArray) (h : s.data.toList = b) : Value.string (ByteArray.mk a.toArray ++ s) = tx (a ++ b) := by
  subst h
  have := ByteArray.mk_append_mk a s.data.toList
  rw [show (ByteArray.mk s.data.toList.toArray) = s from by simp] at this
  unfold tx
  rw [this]


end Go.Proofs.YtkjioabhdglkpaaGreat
