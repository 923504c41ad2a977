/- Arguments opened: a slice of parts (an int and a slice of bytes). No condition. -/
import Derived.Test.YtdpbhhoabnmbpaaGreatLawKit7
set_option maxRecDepth 100000
namespace Go.Proofs.YtdpbhhoabnmbpaaGreat
open Go.ChangeShapes Go.WideShapes Go.ChangeAt Go.RowKit

section
variable {H : Type} {enc : TypeId × Value → H}
end
end Go.Proofs.YtdpbhhoabnmbpaaGreat
