/- A pool that wakes. -/
import Derived.Test.YtkjioabhdglkpaaGreatQOne
import Derived.Test.YtkjioabhdglkpaaGreatDBlock
namespace Go.Proofs.YtkjioabhdglkpaaGreat
open Go.RowKit

def w0S : St := ⟨1, [], 0, 0, D0 4⟩
def w1S : St := ⟨1, [⟨0, blk 0, 1, false⟩], 1, 0, D0 4⟩
def w2S : St := ⟨1, [⟨0, blk 5, 1, true⟩], 1, 0, D0 4⟩
def w3S : St := ⟨1, [⟨0, blk 5, 0, true⟩], 1, 0, D0 4⟩
def w4S : St := ⟨1, [⟨1, blk 0, 1, false⟩], 2, 1, (D0 4).wrote 0 (blk 5)⟩

theorem wk1 : pinS w0S 0 = ((blk 0, 0), w1S) := rfl
theorem wk2 : setS w1S 0 (blk 5) = (0, w2S) := by
  have h := blk_size 5
  simp [setS, idx, w1S, w2S, h]
theorem wk3 : pinS w2S 1 = ((⟨#[]⟩, 70), w2S) := rfl
theorem wk4 : unpinS w2S 0 = (0, w3S) := rfl
theorem wk5 : pinS w3S 1 = ((blk 0, 0), w4S) := rfl

end Go.Proofs.YtkjioabhdglkpaaGreat
