/- What Find answers, topt's and the document's: the data of the first option of a kind. Condition: at most 2^47 options. -/
import Derived.Test.YtnfiijbnfmcpjaaTpB
import Derived.Test.YtnfiijbnfmcpjaaOctU
import Derived.Test.YtnfiijbnfmcpjaaVals
import Derived.WalkMore
namespace Go.Proofs.Ytnfiijbnfmcpjaa
open Go.RowKit
set_option linter.unusedVariables false

def findO : List Ob → Int → List Int × Bool
  | [], _ => ([], false)
  | o :: l, k => if o.1 = k then (o.2, true) else findO l k
theorem find_drop {os : List Od} {i : Nat} (k : Int) (h : i < os.length) : findO ((os.map Od.v).drop i) k = if (os.getD i zeroO).k = k then ((os.getD i zeroO).d, true) else findO ((os.map Od.v).drop (i + 1)) k := by
  have e : (os.map Od.v).drop i = (os.getD i zeroO).v :: (os.map Od.v).drop (i + 1) := by
    rw [List.drop_eq_getElem_cons (by simpa using h)]
    simp [List.getD, h]
  rw [e]
  rfl

end Go.Proofs.Ytnfiijbnfmcpjaa
