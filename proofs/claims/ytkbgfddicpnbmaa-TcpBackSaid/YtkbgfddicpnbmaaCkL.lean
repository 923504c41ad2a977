/- What the laws' own small test of layer 2, 'lives', answers: true. No condition. -/
import Derived.Test.YtkbgfddicpnbmaaCkE
namespace Go.Proofs.Ytkbgfddicpnbmaa
open Go.RowKit
set_option linter.unusedVariables false

def z16 : List Int := [0, 0, 0, 0, 0, 0, 0, 0, 0, 0, 0, 0, 0, 0, 0, 0]
theorem z16_all : AllB z16 := fun x hx => by simp [z16] at hx; omega

end Go.Proofs.Ytkbgfddicpnbmaa
