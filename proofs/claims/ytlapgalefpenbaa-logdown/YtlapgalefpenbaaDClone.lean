/- The contract of strings.Clone: the same text; nothing that was there has turned. -/
import Derived.Test.YtlapgalefpenbaaClone
namespace Go.Proofs.Ytlapgalefpenbaa
open Go.RowKit

end Go.Proofs.Ytlapgalefpenbaa
