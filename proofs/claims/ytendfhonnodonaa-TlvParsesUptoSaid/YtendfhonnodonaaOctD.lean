/- What octets.Put16, Put32, Set16 and Cut answer. Conditions: the lists are at most 2^47 bytes long; places and numbers are ints. -/
import Derived.Test.YtendfhonnodonaaOctC
namespace Go.Proofs.Ytendfhonnodonaa
open Go.RowKit
set_option linter.unusedVariables false

theorem getD2_0 {α : Type} (a b : α) (d : α) : [a, b].getD 0 d = a := rfl
theorem getD2_1 {α : Type} (a b : α) (d : α) : [a, b].getD 1 d = b := rfl

/-- two lists in a block of their own -/
theorem Row.two {w : World} {g : Nat} {t : TypeId} {a0 a1 : Option Addr} {n0 c0 n1 c1 : Nat} {xs ys : List Int}
    (hg : w.heap[g]? = some (.cells #[.slice a0 n0 c0, .slice a1 n1 c1] t (0, 0))) (h0 : Bs w w.heap.size a0 n0 xs) (h1 : Bs w w.heap.size a1 n1 ys) :
    Row w (some ⟨g, 0, none⟩) [(a0, n0, c0), (a1, n1, c1)] [xs, ys] := by
  refine ⟨rfl, fun i hi => ?_, fun _ => ⟨g, 0, rfl, (Array.getElem?_eq_some_iff.1 hg).1, fun i hi => ?_⟩⟩
  · match i, hi with
    | 0, _ => exact h0
    | 1, _ => exact h1
  · rw [cell_of_row w g _ _ _ _ hg]
    match i, hi with
    | 0, _ => rfl
    | 1, _ => rfl
theorem Row.one {w : World} {g : Nat} {t : TypeId} {a0 : Option Addr} {n0 c0 : Nat} {xs : List Int}
    (hg : w.heap[g]? = some (.cells #[.slice a0 n0 c0] t (0, 0))) (h0 : Bs w w.heap.size a0 n0 xs) :
    Row w (some ⟨g, 0, none⟩) [(a0, n0, c0)] [xs] := by
  refine ⟨rfl, fun i hi => ?_, fun _ => ⟨g, 0, rfl, (Array.getElem?_eq_some_iff.1 hg).1, fun i hi => ?_⟩⟩
  · match i, hi with
    | 0, _ => exact h0
  · rw [cell_of_row w g _ _ _ _ hg]
    match i, hi with
    | 0, _ => rfl
theorem Row.three {w : World} {g : Nat} {t : TypeId} {a0 a1 a2 : Option Addr} {n0 c0 n1 c1 n2 c2 : Nat} {xs ys zs : List Int}
    (hg : w.heap[g]? = some (.cells #[.slice a0 n0 c0, .slice a1 n1 c1, .slice a2 n2 c2] t (0, 0))) (h0 : Bs w w.heap.size a0 n0 xs) (h1 : Bs w w.heap.size a1 n1 ys) (h2 : Bs w w.heap.size a2 n2 zs) :
    Row w (some ⟨g, 0, none⟩) [(a0, n0, c0), (a1, n1, c1), (a2, n2, c2)] [xs, ys, zs] := by
  refine ⟨rfl, fun i hi => ?_, fun _ => ⟨g, 0, rfl, (Array.getElem?_eq_some_iff.1 hg).1, fun i hi => ?_⟩⟩
  · match i, hi with
    | 0, _ => exact h0
    | 1, _ => exact h1
    | 2, _ => exact h2
  · rw [cell_of_row w g _ _ _ _ hg]
    match i, hi with
    | 0, _ => rfl
    | 1, _ => rfl
    | 2, _ => rfl

theorem mod_byte (x : Int) : 0 ≤ x % 256 ∧ x % 256 < 256 := by omega

theorem NewB.wider {t : TypeId} {w0 w w' : World} {n : Nat} {ys : List Int} {v : Value} (h : NewB t w n ys v w') (hb : Below w0.heap.size w0 w) : NewB t w0 n ys v w' := by
  obtain ⟨g, hv, hg, hk, hl, ha, hB⟩ := h
  exact ⟨g, hv, Nat.le_trans hb.size hg, hk, hl, ha, hb.trans (hB.mono hb.size)⟩

/-- the bytes of a number -/
def two (x : Int) : List Int := [x / 256 % 256, x % 256]
def four (x : Int) : List Int := [x / 16777216, x / 65536 % 256, x / 256 % 256, x % 256]
theorem two_all (x : Int) : AllB (two x) := .cons (by omega) (by omega) (.cons (by omega) (by omega) .nil)
theorem four_all (x : Int) (_hx : 0 ≤ x ∧ x < 4294967296) : AllB (four x) := .cons (by omega) (by omega) (.cons (by omega) (by omega) (.cons (by omega) (by omega) (.cons (by omega) (by omega) .nil)))

end Go.Proofs.Ytendfhonnodonaa
