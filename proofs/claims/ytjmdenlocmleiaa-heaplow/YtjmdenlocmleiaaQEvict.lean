/- Evict. -/
import Derived.Test.YtjmdenlocmleiaaQSect
namespace Go.Proofs.Ytjmdenlocmleiaa
open Go.RowKit

/-- Which of m is meant by n. -/
theorem tmod_emod (n : Int) (m : Nat) (hm : 1 ≤ m) : (n.tmod m < 0 ∧ n.tmod m + m = n % m ∧ -(m : Int) < n.tmod m) ∨ (0 ≤ n.tmod m ∧ n.tmod m = n % m) := by
  have h1 : n = m * n.tdiv m + n.tmod m := (Int.mul_tdiv_add_tmod n m).symm
  have h2 : n % m = (n.tmod m) % m := by
    conv => lhs; rw [h1]
    rw [Int.add_comm, Int.add_mul_emod_self_left]
  obtain ⟨r, hr, _, h3, h4⟩ := tmod_mod n m hm
  rcases Int.lt_or_le (n.tmod m) 0 with h | h
  · refine Or.inl ⟨h, ?_, h3⟩
    rw [h2, ← Int.add_emod_right, Int.emod_eq_of_lt (by omega) (by omega)]
  · exact Or.inr ⟨h, by rw [h2, Int.emod_eq_of_lt h h4]⟩

def evictS (S : St) (n : Int) : Int × St :=
  match (uAt S.l 0)[(n % ((uAt S.l 0).length : Int)).toNat]? with
  | none => (60, S)
  | some i => match S.l[i]? with
    | none => (60, S)
    | some f => giveS S i f

section
variable {B bd : Nat} {w : World} {x : PX}

theorem unL_len (L : List (Nat × Fm)) (k : Nat) : (unL L).length = (uAt (frs L) k).length := by
  induction L generalizing k with
  | nil => rfl
  | cons y L ih =>
    by_cases hp : y.2.pins = 0
    · have e2 : uAt (frs (y :: L)) k = k :: uAt (frs L) (k + 1) := by
        show uAt (y.2 :: frs L) k = _
        conv => lhs; unfold uAt
        rw [if_pos hp]
      rw [show unL (y :: L) = y :: unL L by simp [unL, hp], e2, List.length_cons, List.length_cons, ih]
    · have e2 : uAt (frs (y :: L)) k = uAt (frs L) (k + 1) := by
        show uAt (y.2 :: frs L) k = _
        conv => lhs; unfold uAt
        rw [if_neg hp]
      rw [show unL (y :: L) = unL L by simp [unL, hp], e2, ih]

end
end Go.Proofs.Ytjmdenlocmleiaa
