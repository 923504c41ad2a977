/- What cksum.Pseudo, whole, Check and Fine tell. Conditions: the addresses are 16 bytes each, numbers are ints, the slice is at most 2^47 bytes long. -/
import Derived.Test.YtcdeabiellefcaaDoorCkC
import Derived.Test.YtcdeabiellefcaaDoorReg2
import Derived.Test.YtcdeabiellefcaaDoorOctD
namespace Go.Proofs.YtcdeabiellefcaaDoor
open Go.RowKit
set_option linter.unusedVariables false

/-- an address by value -/
def addrV (s : List Int) : Value := .agg (cellsB s).toArray
/-- what is thought ahead -/
def pseudoL (s d : List Int) (len next : Int) : List Int := s ++ d ++ four (len % 4294967296) ++ [0, 0, 0, next % 256]

end Go.Proofs.YtcdeabiellefcaaDoor
