/- What the document's Same answers of two packets that say the same: true. No condition. -/
import Derived.Test.YtdpbhhoabnmbpaaGreatPkD
import Derived.Test.YtdpbhhoabnmbpaaGreatJTd
import Derived.Test.YtdpbhhoabnmbpaaGreatJSrB
import Derived.Test.YtdpbhhoabnmbpaaGreatJIc
set_option maxRecDepth 100000
namespace Go.Proofs.YtdpbhhoabnmbpaaGreat
open Go.RowKit
set_option linter.unusedVariables false

section
variable {ops : Array Oper} {rest : List Oper} {o : Oper} {a : Act} {w : World} {Q : Exit → Act → World → Prop}
end

end Go.Proofs.YtdpbhhoabnmbpaaGreat
