/- The walk of harrierlaw13.PacketParses: it answers true, where the program's own functions tell what the page says. Conditions: these, and at most 2^47 bytes. -/
import Derived.Test.YtdpbhhoabnmbpaaGreatPkK
import Derived.Test.YtdpbhhoabnmbpaaGreatJReg
set_option maxRecDepth 100000
namespace Go.Proofs.YtdpbhhoabnmbpaaGreat
open Go.RowKit
set_option linter.unusedVariables false

/-- errors are small numbers -/
def LowE (e : Int) : Prop := 0 ≤ e ∧ e ≤ 20
theorem LowE.k {e : Int} (h0 : 0 ≤ e) (h1 : e ≤ 20) : LowE e := ⟨h0, h1⟩
end Go.Proofs.YtdpbhhoabnmbpaaGreat
