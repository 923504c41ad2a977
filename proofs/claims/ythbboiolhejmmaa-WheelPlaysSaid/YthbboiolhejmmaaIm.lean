/- Maps of the call's own with int keys: two keys are one where the numbers are; what a key reads as; a map in a block that has not turned. No condition. -/
import Derived.Test.YthbboiolhejmmaaVals
import Derived.Test.YthbboiolhejmmaaJOct
import Derived.Maps.RangeWalk
import Derived.Maps.OwnSet
set_option maxRecDepth 100000
namespace Go.Proofs.Ythbboiolhejmmaa
open Go.RowKit Go.Maps
set_option linter.unusedVariables false

theorem sameI (x y : Int) : (Lit.int .i64 x).sameKey (.int .i64 y) = (x == y) := by
  by_cases h : x = y
  · rw [h]
    exact (WideAt.sameKey_self (a := .int .i64 y) trivial).trans (by simp)
  · have h2 : (x == y) = false := by simpa using h
    rw [h2]
    cases hs : (Lit.int .i64 x).sameKey (.int .i64 y)
    · rfl
    · have := WideAt.sameKey_eq hs
      injection this with _ e
      exact absurd e h
theorem keyedP : Keyed Try.prog 3 := int_keyed Try.underlying3
theorem keyP (x : Int) (h : i64ok x) : keyOf Try.prog 3 (.int .i64 x) = some (.int .i64 x) := keyOf_int_mk Try.underlying3 (by
  unfold i64ok at h
  simp [Lit.wf, IntKind.min, IntKind.max, IntKind.bits, IntKind.signed]
  omega)
theorem keyP_inv {x : Int} (h : (Lit.int .i64 x).wf = true) : i64ok x := by
  unfold i64ok
  simp [Lit.wf, IntKind.min, IntKind.max, IntKind.bits, IntKind.signed] at h
  omega
theorem heapP {H : Type} {w w' : World} {P : Program} {k : TypeId} {R : Value → Option (DataW H × List MemPlace)} {b n : Nat} {D : DataW H} (h : w.ownsMap P k R b n D) (e : w'.heap[b]? = w.heap[b]?) : w'.ownsMap P k R b n D := by
  obtain ⟨es, clock, hb, F, hs, hD⟩ := h
  exact ⟨es, clock, e.trans hb, F, hs, hD⟩
end Go.Proofs.Ythbboiolhejmmaa
