/- A sector of one byte. -/
import Derived.Test.YtkjioabhdglkpaaGreatDMem
namespace Go.Proofs.YtkjioabhdglkpaaGreat
open Go.RowKit

/-- A sector of one byte. -/
def blk (b : UInt8) : ByteArray := ba (List.replicate 512 b)
theorem blk_size (b : UInt8) : (blk b).size = 512 := by rw [blk, ba_size, List.length_replicate]

end Go.Proofs.YtkjioabhdglkpaaGreat
