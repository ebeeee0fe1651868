/- The contracts of the document's own answers for Get, GetInt, GetText. -/
import Derived.Test.YtijpnlomfodihaaDoorGetInt
namespace Go.Proofs.YtijpnlomfodihaaDoor
open Go.RowKit

/-- What the document's Get answers. -/
def gotA (d : Nat × Nat × Bool) : Value := .agg #[.int .u64 (d.1 : Int), .int .i64 (d.2.1 : Int), .bool d.2.2]

theorem gotA_no {d : Nat × Nat × Bool} (h : d = (0, 0, false)) : Ending.returned (.agg #[.int .u64 0, .int .i64 0, .bool false]) = .returned (gotA d) := by rw [h]; rfl

theorem gotA_yes {d : Nat × Nat × Bool} {x y : Int} {n k : Nat} (h : d = (n, k, true)) (hx : x = (n : Int)) (hy : y = (k : Int)) :
    Ending.returned (.agg #[.int .u64 x, .int .i64 y, .bool true]) = .returned (gotA d) := by rw [h, hx, hy]; rfl

theorem gatherR (acc k c : Nat) (V : Int) (hc : c < 256) (hk : k ≤ 9) (h9 : k = 9 → c % 128 ≤ 1) (ha : acc < 128 ^ k) (hV : V = ((128 ^ k : Nat) : Int)) :
    IntKind.u64.wrap ((acc : Int) + IntKind.u64.wrap ((c : Int) % 128 * V)) = ((acc + c % 128 * 128 ^ k : Nat) : Int) := by
  have hb := mul_bound (c % 128) k (by omega) hk h9
  have h1 := hb.1
  have h2 := hb.2 acc ha
  rw [hV, show ((c : Int) % 128) = ((c % 128 : Nat) : Int) from by omega, ← Int.natCast_mul, IntKind.wrap_u64, IntKind.wrap_u64]
  have _ := hc
  omega

theorem by_step (V : Int) (k : Nat) (hk : k ≤ 8) (hV : V = ((128 ^ k : Nat) : Int)) : IntKind.u64.wrap (V * 128) = ((128 ^ (k + 1) : Nat) : Int) := by
  have h1 : (128 : Nat) ^ (k + 1) ≤ 128 ^ 9 := Nat.pow_le_pow_right (by omega) (by omega)
  rw [Nat.pow_succ] at h1 ⊢
  rw [hV, IntKind.wrap_u64]
  omega

end Go.Proofs.YtijpnlomfodihaaDoor
