/- What octets.Zeros, and the document's own Zeros, answer: whether each byte is 0. Condition: the slice is at most 2^47 bytes long. -/
import Derived.Test.YtnfiijbnfmcpjaaOctA
namespace Go.Proofs.Ytnfiijbnfmcpjaa
open Go.RowKit

def zerosB (xs : List Int) : Bool := xs.all fun x => x == 0
def ZeroTo (xs : List Int) (k : Nat) : Prop := ∀ j, j < k → xs.getD j 0 = 0
theorem ZeroTo.zero (xs : List Int) : ZeroTo xs 0 := fun j h => absurd h (by omega)
theorem ZeroTo.succ {xs : List Int} {k : Nat} (h : ZeroTo xs k) (e : xs.getD k 0 = 0) : ZeroTo xs (k + 1) := fun j hj => by
  rcases Nat.lt_or_ge j k with h1 | h1
  · exact h j h1
  · obtain rfl : j = k := by omega
    exact e
theorem zerosB_true {xs : List Int} (h : ZeroTo xs xs.length) : zerosB xs = true := by
  unfold zerosB
  rw [List.all_eq_true]
  intro x hx
  obtain ⟨i, hi, rfl⟩ := List.mem_iff_getElem.1 hx
  have := h i hi
  simp [List.getD, hi] at this
  simp [this]
theorem zerosB_false {xs : List Int} {k : Nat} (hk : k < xs.length) (h : xs.getD k 0 ≠ 0) : zerosB xs = false := by
  unfold zerosB
  rw [List.all_eq_false]
  refine ⟨xs[k], List.getElem_mem hk, ?_⟩
  have e : xs.getD k 0 = xs[k] := by simp [List.getD, hk]
  rw [e] at h
  simpa using h
theorem ret_bool {a b : Bool} (h : a = b) : Ending.returned (.bool a) = .returned (.bool b) := by rw [h]

end Go.Proofs.Ytnfiijbnfmcpjaa
