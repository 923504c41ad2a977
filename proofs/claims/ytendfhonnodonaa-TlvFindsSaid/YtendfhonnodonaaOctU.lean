/- The answers of octets and of the document to U16, U32 and Cut, each as one function of the input. Conditions: the slice is at most 2^47 bytes long, places and numbers are ints. -/
import Derived.Test.YtendfhonnodonaaOctL
import Derived.Test.YtendfhonnodonaaApp
namespace Go.Proofs.Ytendfhonnodonaa
open Go.RowKit
set_option linter.unusedVariables false

def is_ (n : Nat) (p k : Int) : Bool := decide (0 ≤ p ∧ 0 ≤ k ∧ p + k ≤ n)
def val2 (xs : List Int) (n : Nat) (p : Int) : Int := if 0 ≤ p ∧ p + 2 ≤ n then num2 xs p.toNat else 0
def val4 (xs : List Int) (n : Nat) (p : Int) : Int := if 0 ≤ p ∧ p + 4 ≤ n then num4 xs p.toNat else 0
def cutL (xs : List Int) (n : Nat) (p k : Int) : List Int := if 0 ≤ p ∧ 0 ≤ k ∧ p + k ≤ n then (xs.drop p.toNat).take k.toNat else []

theorem ret2 {a b : Int} {x y : Bool} {k : IntKind} (h : a = b) (g : x = y) : Ending.returned (.tuple #[.int k a, .bool x]) = .returned (.tuple #[.int k b, .bool y]) := by rw [h, g]

section
variable (A : Option Addr) (n c : Nat) (p k : Int) (xs : List Int) (w : World) (hn : n ≤ 140737488355328) (hp : i64ok p) (hb : Bs w w.heap.size A n xs)
include hn hp hb

end

/-- a list of bytes is handed back, and a bool -/
def GivesB (w : World) (ys : List Int) (ok : Bool) (e : Ending) (w' : World) : Prop :=
  ∃ A' k' c', e = .returned (.tuple #[.slice A' k' c', .bool ok]) ∧ Bs w' w'.heap.size A' k' ys ∧ Below w.heap.size w w'

end Go.Proofs.Ytendfhonnodonaa
