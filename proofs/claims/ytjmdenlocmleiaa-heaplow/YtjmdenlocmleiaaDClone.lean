/- The contract of strings.Clone: the same text; nothing that was there has turned. -/
import Derived.Test.YtjmdenlocmleiaaClone
namespace Go.Proofs.Ytjmdenlocmleiaa
open Go.RowKit

end Go.Proofs.Ytjmdenlocmleiaa
