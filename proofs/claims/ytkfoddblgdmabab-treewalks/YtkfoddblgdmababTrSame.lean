/- Layer 10: the law's Same; the document's Depth. -/
import Derived.Test.YtkfoddblgdmababTrRefAll
import Derived.Test.YtkfoddblgdmababTrDepth
import Derived.BigQuiet
namespace Go.Proofs.Ytkfoddblgdmabab.tr
open Go.RowKit

section
variable {w : World} {B1 B2 : Nat} {v1 v2 : Value} {l : List Ent}
end

/-- How many levels fit. -/
theorem levels (n h : Nat) (hn : n ≠ 0) (hh : 2 ≤ h) : ∃ K, 2 * h ^ K ≤ n + 1 ∧ n + 1 < 2 * h ^ (K + 1) := by
  refine Classical.byContradiction fun q => ?_
  have h1 : ∀ K, 2 * h ^ K ≤ n + 1 := fun K => by
    induction K with
    | zero => simp; omega
    | succ K ih => exact Nat.not_lt.1 fun z => q ⟨K, ih, z⟩
  have h2 := h1 (n + 1)
  have h3 : n + 1 < h ^ (n + 1) := Nat.lt_pow_self (by omega)
  omega

end Go.Proofs.Ytkfoddblgdmabab.tr
