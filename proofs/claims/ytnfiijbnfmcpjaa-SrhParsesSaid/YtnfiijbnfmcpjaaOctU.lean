/- The answers of octets and of the document to U16, U32 and Cut, each as one function of the input. Conditions: the slice is at most 2^47 bytes long, places and numbers are ints. -/
import Derived.Test.YtnfiijbnfmcpjaaOctL
import Derived.Test.YtnfiijbnfmcpjaaApp
namespace Go.Proofs.Ytnfiijbnfmcpjaa
open Go.RowKit
set_option linter.unusedVariables false

def is_ (n : Nat) (p k : Int) : Bool := decide (0 ≤ p ∧ 0 ≤ k ∧ p + k ≤ n)
def val2 (xs : List Int) (n : Nat) (p : Int) : Int := if 0 ≤ p ∧ p + 2 ≤ n then num2 xs p.toNat else 0
def val4 (xs : List Int) (n : Nat) (p : Int) : Int := if 0 ≤ p ∧ p + 4 ≤ n then num4 xs p.toNat else 0
def cutL (xs : List Int) (n : Nat) (p k : Int) : List Int := if 0 ≤ p ∧ 0 ≤ k ∧ p + k ≤ n then (xs.drop p.toNat).take k.toNat else []

theorem ret2 {a b : Int} {x y : Bool} {k : IntKind} (h : a = b) (g : x = y) : Ending.returned (.tuple #[.int k a, .bool x]) = .returned (.tuple #[.int k b, .bool y]) := by rw [h, g]

section
variable (A : Option Addr) (n c : Nat) (p k : Int) (xs : List Int) (w : World) (hn : n ≤ 140737488355328) (hp : i64ok p) (hb : Bs w w.heap.size A n xs)
include hn hp hb

theorem u16_u : Calls Try.prog 27 #[.slice A n c, .int .i64 p] w fun e w' => e = .returned (.tuple #[.int .i64 (val2 xs n p), .bool (is_ n p 2)]) ∧ Below w.heap.size w w' := by
  unfold i64ok at hp
  by_cases h : 0 ≤ p ∧ p + 2 ≤ n
  · refine (u16_yes A n c p p.toNat xs w hn hb (by omega) (by omega)).mono ?_
    rintro e w' ⟨rfl, j, rfl⟩
    exact ⟨ret2 (by rw [val2, if_pos h]) (by simp [is_]; omega), below_drewN (Below.refl _ _) j⟩
  · refine (u16_no A n c p w hn hp.2 (by omega)).mono ?_
    rintro e w' ⟨rfl, rfl⟩
    exact ⟨ret2 (by rw [val2, if_neg h]) (by simp [is_]; omega), Below.refl _ _⟩
end

/-- a list of bytes is handed back, and a bool -/
def GivesB (w : World) (ys : List Int) (ok : Bool) (e : Ending) (w' : World) : Prop :=
  ∃ A' k' c', e = .returned (.tuple #[.slice A' k' c', .bool ok]) ∧ Bs w' w'.heap.size A' k' ys ∧ Below w.heap.size w w'

end Go.Proofs.Ytnfiijbnfmcpjaa
