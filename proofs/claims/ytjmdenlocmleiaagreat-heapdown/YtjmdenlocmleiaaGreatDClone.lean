/- The contract of strings.Clone: the same text; nothing that was there has turned. -/
import Derived.Test.YtjmdenlocmleiaaGreatClone
namespace Go.Proofs.YtjmdenlocmleiaaGreat
open Go.RowKit

end Go.Proofs.YtjmdenlocmleiaaGreat
