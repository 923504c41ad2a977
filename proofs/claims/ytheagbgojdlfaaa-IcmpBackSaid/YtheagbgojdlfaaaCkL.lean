/- What the laws' own small test of layer 2, 'lives', answers: true. No condition. -/
import Derived.Test.YtheagbgojdlfaaaCkE
namespace Go.Proofs.Ytheagbgojdlfaaa
open Go.RowKit
set_option linter.unusedVariables false

def z16 : List Int := [0, 0, 0, 0, 0, 0, 0, 0, 0, 0, 0, 0, 0, 0, 0, 0]
theorem z16_all : AllB z16 := fun x hx => by simp [z16] at hx; omega

end Go.Proofs.Ytheagbgojdlfaaa
