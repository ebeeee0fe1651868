/- A take in a region that draws its order, its slot written out. -/
import Derived.Test.YtjmdenlocmleiaaPWrite
namespace Go.Proofs.Ytjmdenlocmleiaa
open Go.RowKit


def JoinQ (A : Act) (R : World → Prop) : Exit → Act → World → Prop
  | .normal, a, V => a = A ∧ R V
  | _, _, _ => False
def JoinV (A : Value → Act) (R : World → Prop) : Exit → Act → World → Prop
  | .normal, a, V => ∃ v, a = A v ∧ R V
  | _, _, _ => False

theorem wp_join {P : Program} {c : Code} {Q : Exit → Act → World → Prop} {act : Act} {w : World} (A : Act) (R : World → Prop) (h : c.wp P (JoinQ A R) act w) (hk : ∀ V, R V → Q .normal A V) : c.wp P Q act w := by
  refine Code.wp_mono (fun e a V h => ?_) h
  cases e with
  | normal => obtain ⟨rfl, r⟩ := h; exact hk V r
  | _ => exact (h : False).elim
theorem wp_joinV {P : Program} {c : Code} {Q : Exit → Act → World → Prop} {act : Act} {w : World} (A : Value → Act) (R : World → Prop) (h : c.wp P (JoinV A R) act w) (hk : ∀ v V, R V → Q .normal (A v) V) : c.wp P Q act w := by
  refine Code.wp_mono (fun e a V h => ?_) h
  cases e with
  | normal => obtain ⟨v, rfl, r⟩ := h; exact hk v V r
  | _ => exact (h : False).elim

theorem bytes_ne {a b : ByteArray} (h : ¬ a = b) : (a.toList == b.toList) = false := by
  rw [beq_eq_false_iff_ne, ByteArray.toList_eq, ByteArray.toList_eq]
  intro q
  exact h (ByteArray.ext (Array.ext' q))


end Go.Proofs.Ytjmdenlocmleiaa
