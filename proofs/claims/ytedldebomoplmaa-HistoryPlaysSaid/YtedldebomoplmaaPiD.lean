/- Stage 18: what the program's own three functions are to tell, as propositions; what the laws ask of every program; the three walks, given these. No condition. -/
import Derived.Test.YtedldebomoplmaaPiC
set_option maxRecDepth 100000
namespace Go.Proofs.Ytedldebomoplmaa
open Go.RowKit
set_option linter.unusedVariables false

def PiTwos : Prop := ∀ (A : Option Addr) (n c : Nat) (t : List Int) (H : Nat) (w : World), n ≤ 1000 → n ≤ c → H < 18446744073709551616 → Ns w w.heap.size A n t → Calls Try.prog 24 #[.slice A n c, .int .u64 H] w fun e w' => e = .returned (.tuple #[.int .i64 (firstP t H), .int .i64 (secondP t H)]) ∧ Low w w'
theorem first335 : firstP [3, 3, 5] 1 = 3 := by decide +kernel
theorem second335 : secondP [3, 3, 5] 1 = 5 := by decide +kernel
theorem nodes503 : (nodesP [5, 0, 3]).length = 2 := by decide +kernel
theorem has503 : hasP [5, 0, 3] 3 = true := by decide +kernel
theorem has0 : hasP [0] 0 = false := by decide +kernel
theorem ns_fresh (w : World) (t : TypeId) (xs : List Int) (h : AllI xs) : Ns (w.alloc (.cells (cellsN xs).toArray t)) (w.alloc (.cells (cellsN xs).toArray t)).heap.size (some ⟨w.heap.size, 0, none⟩) xs.length xs := by
  have h1 := BlkN.new w t xs
  exact h1.bs h h1.lt rfl
theorem all335 : AllI [3, 3, 5] := .cons (by omega) (by omega) (.cons (by omega) (by omega) (.cons (by omega) (by omega) .nil))
theorem all503 : AllI [5, 0, 3] := .cons (by omega) (by omega) (.cons (by omega) (by omega) (.cons (by omega) (by omega) .nil))
theorem all0 : AllI [0] := .cons (by omega) (by omega) .nil
end Go.Proofs.Ytedldebomoplmaa
