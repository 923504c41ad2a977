/- Stage 16: what the program's own four functions are to tell, as propositions; what the laws ask of every program. No condition. -/
import Derived.Test.YtogmfhofdjiihaaPmB
set_option maxRecDepth 100000
namespace Go.Proofs.Ytogmfhofdjiihaa
open Go.RowKit
set_option linter.unusedVariables false

def PmPrimes : Prop := ∀ (n : Int) (w : World), i64ok n → Calls Try.prog 16 #[.int .i64 n] w fun e w' => e = .returned (.bool (primeB n)) ∧ Low w w'
def PmOffsets : Prop := ∀ (a b node m : Int) (w : World), i64ok node → i64ok m → Calls Try.prog 37 #[keyV a b, .int .i64 node, .int .i64 m] w fun e w' => e = .returned (.int .i64 (offQ a b node m)) ∧ Low w w'
def PmSkips : Prop := ∀ (a b node m : Int) (w : World), i64ok node → i64ok m → Calls Try.prog 38 #[keyV a b, .int .i64 node, .int .i64 m] w fun e w' => e = .returned (.int .i64 (skipQ a b node m)) ∧ Low w w'
def PmOrders : Prop := ∀ (a b node m : Int) (w : World), i64ok node → i64ok m → Calls Try.prog 29 #[keyV a b, .int .i64 node, .int .i64 m] w (GivesI w (ordP a b node m))

theorem prime61 : primeB 61 = true := by decide +kernel
theorem prime1 : primeB 1 = false := by decide +kernel
theorem prime91 : primeB 91 = false := by decide +kernel
theorem skip2 (a b node : Int) : skipQ a b node 2 = 1 := by
  unfold skipQ skipP
  rw [show tableB 2 = true from by decide]
  show ((pairN a b node 2 % 1 + 1 : Nat) : Int) = 1
  rw [Nat.mod_one]
  rfl
theorem order5 (a b node : Int) : (ordP a b node 5).length = 5 := ordP_len (by decide)
end Go.Proofs.Ytogmfhofdjiihaa
