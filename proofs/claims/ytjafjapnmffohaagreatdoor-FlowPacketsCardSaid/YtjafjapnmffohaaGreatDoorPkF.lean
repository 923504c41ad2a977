/- What the document's own Reason tells. No condition beyond the argument's type. -/
import Derived.Test.YtjafjapnmffohaaGreatDoorPkB
set_option maxRecDepth 100000
namespace Go.Proofs.YtjafjapnmffohaaGreatDoor
open Go.RowKit
set_option linter.unusedVariables false

def tabK : List (Int × Int) := [(0, 0), (3, 1), (6, 3), (7, 4), (4, 10), (13, 9)]
def lookK : List (Int × Int) → Int → Int
  | [], _ => 2
  | p :: r, e => if e = p.1 then p.2 else lookK r e
theorem lookK_all (e : Int) : lookK tabK e = reasonK e := by
  unfold reasonK tabK lookK lookK lookK lookK lookK lookK lookK
  rfl
def errsK : List Value := [.int .i64 0, .int .i64 3, .int .i64 6, .int .i64 7, .int .i64 4, .int .i64 13]
def whysK : List Value := [.int .i64 0, .int .i64 1, .int .i64 3, .int .i64 4, .int .i64 10, .int .i64 9]

end Go.Proofs.YtjafjapnmffohaaGreatDoor
