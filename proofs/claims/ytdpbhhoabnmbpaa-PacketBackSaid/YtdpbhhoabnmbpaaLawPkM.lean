/- The walk of harrierlaw13.PacketMakes: it answers true, where the program's own functions tell what the page says. Conditions: these; the addresses are 16 bytes. -/
import Derived.Test.YtdpbhhoabnmbpaaLawPkP
set_option maxRecDepth 100000
namespace Go.Proofs.Ytdpbhhoabnmbpaa
open Go.RowKit
set_option linter.unusedVariables false

end Go.Proofs.Ytdpbhhoabnmbpaa
