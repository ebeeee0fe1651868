/- Both devices. -/
import Derived.Test.YtghocbaafdnddaaGreatRRefCrash
import Derived.Test.YtghocbaafdnddaaGreatRRefNew
namespace Go.Proofs.YtghocbaafdnddaaGreat
open Go.RowKit

/-- A device and the document's one. -/
structure Rel (D : DS) (Q : RS) : Prop where
  n : D.n = Q.n
  seen : D.seen = Q.seen
  safe : D.safe = Q.safe
  held : D.held = Q.held
  ops : D.ops = Q.ops
  arm : (Q.armed = false ∧ D.left < 0) ∨ (Q.armed = true ∧ D.left = Q.left ∧ 0 ≤ Q.left)
  ref : (Q.refuse = 0 ∧ D.next ≤ 0) ∨ (0 < Q.refuse ∧ D.next = Q.refuse)

theorem rel_new (n : Nat) : Rel (D0 n) (R0 n) := ⟨rfl, rfl, rfl, rfl, rfl, Or.inl ⟨rfl, of_decide_eq_true rfl⟩, Or.inl ⟨rfl, of_decide_eq_true rfl⟩⟩

theorem Rel.down {D : DS} {Q : RS} (h : Rel D Q) : (D.left == 0) = Q.down := by
  unfold RS.down
  rcases h.arm with ⟨a, l⟩ | ⟨a, l, m⟩
  · rw [a, Bool.false_and, beq_eq_false_iff_ne]; omega
  · rw [a, Bool.true_and, l]
    by_cases e : Q.left = 0
    · rw [e]; rfl
    · rw [show (Q.left == 0) = false by simpa using e]
      symm
      simp
      omega

theorem Rel.arms {D : DS} {Q : RS} (h : Rel D Q) (x : Int) : Rel { D with left := max x (-1) } { Q with armed := decide (0 ≤ x), left := x } := by
  refine ⟨h.n, h.seen, h.safe, h.held, h.ops, ?_, h.ref⟩
  by_cases e : 0 ≤ x
  · right; exact ⟨by simpa using e, by show max x (-1) = x; omega, e⟩
  · left; exact ⟨by simpa using e, by show max x (-1) < 0; omega⟩

theorem Rel.refuses {D : DS} {Q : RS} (h : Rel D Q) (x : Int) : Rel { D with next := max x 0 } { Q with refuse := max x 0 } := by
  refine ⟨h.n, h.seen, h.safe, h.held, h.ops, h.arm, ?_⟩
  by_cases e : 0 < x
  · right; exact ⟨by show 0 < max x 0; omega, rfl⟩
  · left; exact ⟨by show max x 0 = 0; omega, by show max x 0 ≤ 0; omega⟩

theorem Rel.broken {D : DS} {Q : RS} (h : Rel D Q) : Rel { D with next := 0 } { Q with refuse := 0 } :=
  ⟨h.n, h.seen, h.safe, h.held, h.ops, h.arm, Or.inl ⟨rfl, Int.le_refl _⟩⟩

theorem Rel.counted {D : DS} {Q : RS} (h : Rel D Q) (hl : D.left ≠ 0) : Rel { D with ops := D.ops + 1, left := D.left - 1 } Q.counted := by
  refine ⟨h.n, h.seen, h.safe, h.held, by show D.ops + 1 = Q.ops + 1; rw [h.ops], ?_, h.ref⟩
  rcases h.arm with ⟨a, l⟩ | ⟨a, l, m⟩
  · left
    exact ⟨a, by show D.left - 1 < 0; omega⟩
  · right
    refine ⟨a, ?_, ?_⟩
    · show D.left - 1 = if Q.armed = true then Q.left - 1 else Q.left
      rw [if_pos a, l]
    · show 0 ≤ if Q.armed = true then Q.left - 1 else Q.left
      rw [if_pos a]
      omega

theorem Rel.wrote {D : DS} {Q : RS} (h : Rel D Q) (i : Nat) (s : ByteArray) (hl : D.left ≠ 0) (hn : D.next ≠ 1) : Rel (D.wrote i s) (Q.wrote i s) := by
  have h1 : Rel { D with seen := upd D.seen i s, held := D.held ++ [(i, s)], next := D.next - 1 } { Q with refuse := if 0 < Q.refuse then Q.refuse - 1 else Q.refuse, seen := upd Q.seen i s, held := Q.held ++ [(i, s)] } := by
    refine ⟨h.n, by rw [h.seen], h.safe, by rw [h.held], h.ops, h.arm, ?_⟩
    rcases h.ref with ⟨a, l⟩ | ⟨a, l⟩
    · left
      refine ⟨?_, by show D.next - 1 ≤ 0; omega⟩
      show (if 0 < Q.refuse then Q.refuse - 1 else Q.refuse) = 0
      rw [if_neg (by omega), a]
    · right
      refine ⟨?_, ?_⟩
      · show 0 < (if 0 < Q.refuse then Q.refuse - 1 else Q.refuse)
        rw [if_pos a]
        omega
      · show D.next - 1 = (if 0 < Q.refuse then Q.refuse - 1 else Q.refuse)
        rw [if_pos a, l]
  exact h1.counted hl

theorem Rel.flushed {D : DS} {Q : RS} {b : Nat} (h : Rel D Q) (hi : Inv b D) (hl : D.left ≠ 0) : Rel D.flushed Q.flushed := by
  have h1 : Rel { D with safe := flN D.safe D.held D.held.length, held := [] } { Q with safe := Q.seen, held := [] } :=
    ⟨h.n, h.seen, by rw [hi.seen, h.seen], rfl, h.ops, h.arm, h.ref⟩
  exact h1.counted hl

theorem Rel.crashed {D : DS} {Q : RS} {b : Nat} (h : Rel D Q) (hi : Inv b D) (L : List Int) : Rel (D.crashed L) (Q.crashed L) := by
  refine ⟨h.n, ?_, ?_, rfl, h.ops, Or.inl ⟨rfl, by show (-1 : Int) < 0; omega⟩, Or.inl ⟨rfl, Int.le_refl _⟩⟩
  · show seN D.seen (crN D.safe D.held L D.held.length) D.held D.held.length = crN Q.safe Q.held L Q.held.length
    rw [seN_all _ _ _ _ _ hi.seen, h.safe, h.held]
  · show crN D.safe D.held L D.held.length = crN Q.safe Q.held L Q.held.length
    rw [h.safe, h.held]

end Go.Proofs.YtghocbaafdnddaaGreat
