/- What topt.Can answers: whether options can be. Condition: at most 2^47 options. -/
import Derived.Test.YtnfiijbnfmcpjaaTpD
namespace Go.Proofs.Ytnfiijbnfmcpjaa
open Go.RowKit
set_option linter.unusedVariables false
attribute [local go_sem] Oper.semAt_some

theorem BlkV.kept {W W' : World} {t : TypeId} {g B : Nat} {vs : List Value} {row : Option Nat} (h : BlkV W t g vs) (hg : W.grownBy W' row) (hr : ∀ r, row = some r → B ≤ r ∧ ∃ o : Obj, W.heap[r]? = some o ∧ o.isCells = false) : BlkV W' t g vs :=
  (grownBy_keeps_cells hg (fun r e => (hr r e).2) h rfl).trans h
theorem chk_drop {l : List Ob} {i : Nat} (h : i < l.length) : chkO (l.drop i) = if (l.getD i zeroB).1 < 1 ∨ 255 < (l.getD i zeroB).1 then 2 else if fitsO (l.getD i zeroB).1 (l.getD i zeroB).2.length = false then 5 else chkO (l.drop (i + 1)) := by
  have e : l.drop i = l.getD i zeroB :: l.drop (i + 1) := by
    rw [List.drop_eq_getElem_cons h]
    simp [List.getD, h]
  rw [e]
  rfl

/-- between two parts: how much room is left -/
def CanI (w : World) (q : Nat) (ps : List (List Int)) (j : Nat) (W : World) : Prop :=
  (BlkV W 3 q [.int .i64 (40 - ((upto ps j).length : Int))] ∧ BlkV W 29 w.heap.size [.int .i64 0] ∧ (upto ps j).length ≤ 40) ∧ Below w.heap.size w W
/-- there is no room left -/
def CanX (w : World) (ps : List (List Int)) (W : World) : Prop := (BlkV W 29 w.heap.size [.int .i64 8] ∧ 40 < ps.flatten.length) ∧ Below w.heap.size w W
end Go.Proofs.Ytnfiijbnfmcpjaa
