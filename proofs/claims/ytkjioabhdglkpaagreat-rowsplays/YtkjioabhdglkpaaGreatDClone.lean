/- The contract of strings.Clone: the same text; nothing that was there has turned. -/
import Derived.Test.YtkjioabhdglkpaaGreatClone
namespace Go.Proofs.YtkjioabhdglkpaaGreat
open Go.RowKit

end Go.Proofs.YtkjioabhdglkpaaGreat
