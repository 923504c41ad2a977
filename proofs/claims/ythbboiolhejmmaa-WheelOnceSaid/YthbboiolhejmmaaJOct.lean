/- Texts joined.
  What octets.there, U16 and U32 answer, at any place of any bytes. Conditions: the slice is at most 2^47 bytes long, the place is an int.
  What octets.Zeros, and the document's own Zeros, answer: whether each byte is 0. Condition: the slice is at most 2^47 bytes long.
  What octets.Join answers: all lists, one behind the other, in a new block. Condition: together they are at most 2^48 bytes long.
  What octets.Put16, Put32, Set16 and Cut answer. Conditions: the lists are at most 2^47 bytes long; places and numbers are ints.
  What the laws' own small test, 'lives', answers: true. No condition.
  The answers of octets and of the document to U16, U32 and Cut, each as one function of the input. Conditions: the slice is at most 2^47 bytes long, places and numbers are ints.
  The document's own answers for layer 1 that lay bytes: Two, Four, Set16. Conditions: numbers are ints, the slice is at most 2^47 bytes long.
-/
import Derived.Test.YthbboiolhejmmaaRows
import Derived.Test.YthbboiolhejmmaaBytes
import Derived.Deep.QuietTactic
import Derived.BigQuiet
import Derived.Lib.EndianBits
import Derived.Test.YthbboiolhejmmaaApp
set_option maxRecDepth 100000
namespace Go.Proofs.Ythbboiolhejmmaa
open Go.RowKit

def i64ok (a : Int) : Prop := -9223372036854775808 ≤ a ∧ a ≤ 9223372036854775807

theorem wraps_i64 (n : Int) (h₀ : 0 ≤ n) (h₁ : n < 2 ^ 62) : IntKind.i64.wrap n = n := by rw [IntKind.wrap_i64]; omega
theorem or_i64_8 (x y : Int) (hx : 0 ≤ x) (hx1 : x < 256) (hy : 0 ≤ y) (hy1 : y < 256) : bits .or .i64 (x * 256) y = x * 256 + y :=
  bits_join .i64 62 (by decide) wraps_i64 8 (x * 256) y (by omega) (by omega) (by omega) hy (by omega) (by omega)
theorem or_u32 (i : Nat) (x y : Int) (hx₀ : 0 ≤ x) (hx : x % 2 ^ i = 0) (hx₁ : x < 4294967296) (hy₀ : 0 ≤ y) (hy : y < 2 ^ i) (hy₁ : y < 4294967296) : bits .or .u32 x y = x + y :=
  bits_join .u32 32 (by decide) wraps_u32 i x y hx₀ hx hx₁ hy₀ hy hy₁
theorem or4_u32 (x y z t : Int) (hx : 0 ≤ x ∧ x < 256) (hy : 0 ≤ y ∧ y < 256) (hz : 0 ≤ z ∧ z < 256) (ht : 0 ≤ t ∧ t < 256) :
    bits .or .u32 (bits .or .u32 (bits .or .u32 (x * 16777216) (y * 65536)) (z * 256)) t = x * 16777216 + y * 65536 + z * 256 + t := by
  rw [or_u32 24 (x * 16777216) (y * 65536) (by omega) (by omega) (by omega) (by omega) (by omega) (by omega),
    or_u32 16 (x * 16777216 + y * 65536) (z * 256) (by omega) (by omega) (by omega) (by omega) (by omega) (by omega),
    or_u32 8 (x * 16777216 + y * 65536 + z * 256) t (by omega) (by omega) (by omega) (by omega) (by omega) (by omega)]

/-- the number of two bytes, of four -/
def num2 (xs : List Int) (p : Nat) : Int := xs.getD p 0 * 256 + xs.getD (p + 1) 0
def num4 (xs : List Int) (p : Nat) : Int := xs.getD p 0 * 16777216 + xs.getD (p + 1) 0 * 65536 + xs.getD (p + 2) 0 * 256 + xs.getD (p + 3) 0

/- the document's own answers -/
end Go.Proofs.Ythbboiolhejmmaa

namespace Go.Proofs.Ythbboiolhejmmaa
open Go.RowKit

def zerosB (xs : List Int) : Bool := xs.all fun x => x == 0
def ZeroTo (xs : List Int) (k : Nat) : Prop := ∀ j, j < k → xs.getD j 0 = 0
theorem ZeroTo.zero (xs : List Int) : ZeroTo xs 0 := fun j h => absurd h (by omega)
theorem ZeroTo.succ {xs : List Int} {k : Nat} (h : ZeroTo xs k) (e : xs.getD k 0 = 0) : ZeroTo xs (k + 1) := fun j hj => by
  rcases Nat.lt_or_ge j k with h1 | h1
  · exact h j h1
  · obtain rfl : j = k := by omega
    exact e
theorem zerosB_true {xs : List Int} (h : ZeroTo xs xs.length) : zerosB xs = true := by
  unfold zerosB
  rw [List.all_eq_true]
  intro x hx
  obtain ⟨i, hi, rfl⟩ := List.mem_iff_getElem.1 hx
  have := h i hi
  simp [List.getD, hi] at this
  simp [this]
theorem zerosB_false {xs : List Int} {k : Nat} (hk : k < xs.length) (h : xs.getD k 0 ≠ 0) : zerosB xs = false := by
  unfold zerosB
  rw [List.all_eq_false]
  refine ⟨xs[k], List.getElem_mem hk, ?_⟩
  have e : xs.getD k 0 = xs[k] := by simp [List.getD, hk]
  rw [e] at h
  simpa using h
theorem ret_bool {a b : Bool} (h : a = b) : Ending.returned (.bool a) = .returned (.bool b) := by rw [h]

end Go.Proofs.Ythbboiolhejmmaa

namespace Go.Proofs.Ythbboiolhejmmaa
open Go.RowKit

theorem info5 : (Try.prog.info? 5).map (fun i => (i.zero, i.size, i.bytes)) = some (some (.int .u8 0), 1, 1) := by kernel_rfl
theorem size5 : (Try.prog.info? 5).map (·.size) = some 1 := by kernel_rfl

/-- lists of bytes: the slices, and what each holds -/
structure Row (w : World) (A : Option Addr) (vs : List (Option Addr × Nat × Nat)) (yss : List (List Int)) : Prop where
  len : yss.length = vs.length
  each : ∀ i, i < vs.length → Bs w w.heap.size (vs.getD i (none, 0, 0)).1 (vs.getD i (none, 0, 0)).2.1 (yss.getD i [])
  mem : 0 < vs.length → ∃ b o, A = some ⟨b, o, none⟩ ∧ b < w.heap.size ∧ ∀ i, i < vs.length → w.cell? ⟨b, o + i, none⟩ = some (.slice (vs.getD i (none, 0, 0)).1 (vs.getD i (none, 0, 0)).2.1 (vs.getD i (none, 0, 0)).2.2)

/-- the first k lists, joined -/
def upto (yss : List (List Int)) (k : Nat) : List Int := (yss.take k).flatten
theorem upto_succ (yss : List (List Int)) (k : Nat) (h : k < yss.length) : upto yss (k + 1) = upto yss k ++ yss.getD k [] := by
  unfold upto
  rw [List.take_succ_eq_append_getElem h, List.flatten_append]
  simp [List.getD, h]
theorem upto_all (yss : List (List Int)) (k : Nat) (h : yss.length ≤ k) : upto yss k = yss.flatten := by
  unfold upto; rw [List.take_of_length_le h]
theorem upto_le (yss : List (List Int)) (k : Nat) : (upto yss k).length ≤ yss.flatten.length := by
  have h : yss.flatten = (yss.take k).flatten ++ (yss.drop k).flatten := by rw [← List.flatten_append, List.take_append_drop]
  rw [h, List.length_append]; unfold upto; omega

/-- the row in the making: what is laid, and noughts -/
def laidRow (xs : List Int) (N : Nat) : List Value := cellsB xs ++ List.replicate (N - xs.length) (.int .u8 0)
theorem laidRow_length (xs : List Int) (N : Nat) (h : xs.length ≤ N) : (laidRow xs N).length = N := by simp [laidRow, cellsB_length]; omega
theorem laidRow_splice (xs ys : List Int) (N : Nat) : splice (laidRow xs N) xs.length (cellsB ys) = laidRow (xs ++ ys) N := by
  unfold splice laidRow
  rw [cellsB_append, List.append_assoc]
  congr 1
  · rw [List.take_left' (by rw [cellsB_length])]
  · congr 1
    rw [List.drop_append, List.drop_eq_nil_of_le (by rw [cellsB_length, cellsB_length]; omega), List.nil_append, List.drop_replicate, cellsB_length, cellsB_length]
    congr 1
    simp; omega
theorem laidRow_full (xs : List Int) : laidRow xs xs.length = cellsB xs := by simp [laidRow]
theorem made_laid (N : Nat) : madeCells #[.int .u8 0] N = (laidRow [] N).toArray := by
  apply Array.ext
  · simp [madeCells, laidRow, cellsB]
  · intro i h1 h2
    simp [madeCells, laidRow, cellsB, Nat.mod_one]

end Go.Proofs.Ythbboiolhejmmaa

namespace Go.Proofs.Ythbboiolhejmmaa
open Go.RowKit
set_option linter.unusedVariables false

theorem getD2_0 {α : Type} (a b : α) (d : α) : [a, b].getD 0 d = a := rfl
theorem getD2_1 {α : Type} (a b : α) (d : α) : [a, b].getD 1 d = b := rfl

/-- two lists in a block of their own -/
theorem Row.two {w : World} {g : Nat} {t : TypeId} {a0 a1 : Option Addr} {n0 c0 n1 c1 : Nat} {xs ys : List Int}
    (hg : w.heap[g]? = some (.cells #[.slice a0 n0 c0, .slice a1 n1 c1] t (0, 0))) (h0 : Bs w w.heap.size a0 n0 xs) (h1 : Bs w w.heap.size a1 n1 ys) :
    Row w (some ⟨g, 0, none⟩) [(a0, n0, c0), (a1, n1, c1)] [xs, ys] := by
  refine ⟨rfl, fun i hi => ?_, fun _ => ⟨g, 0, rfl, (Array.getElem?_eq_some_iff.1 hg).1, fun i hi => ?_⟩⟩
  · match i, hi with
    | 0, _ => exact h0
    | 1, _ => exact h1
  · rw [cell_of_row w g _ _ _ _ hg]
    match i, hi with
    | 0, _ => rfl
    | 1, _ => rfl
theorem Row.one {w : World} {g : Nat} {t : TypeId} {a0 : Option Addr} {n0 c0 : Nat} {xs : List Int}
    (hg : w.heap[g]? = some (.cells #[.slice a0 n0 c0] t (0, 0))) (h0 : Bs w w.heap.size a0 n0 xs) :
    Row w (some ⟨g, 0, none⟩) [(a0, n0, c0)] [xs] := by
  refine ⟨rfl, fun i hi => ?_, fun _ => ⟨g, 0, rfl, (Array.getElem?_eq_some_iff.1 hg).1, fun i hi => ?_⟩⟩
  · match i, hi with
    | 0, _ => exact h0
  · rw [cell_of_row w g _ _ _ _ hg]
    match i, hi with
    | 0, _ => rfl
theorem Row.three {w : World} {g : Nat} {t : TypeId} {a0 a1 a2 : Option Addr} {n0 c0 n1 c1 n2 c2 : Nat} {xs ys zs : List Int}
    (hg : w.heap[g]? = some (.cells #[.slice a0 n0 c0, .slice a1 n1 c1, .slice a2 n2 c2] t (0, 0))) (h0 : Bs w w.heap.size a0 n0 xs) (h1 : Bs w w.heap.size a1 n1 ys) (h2 : Bs w w.heap.size a2 n2 zs) :
    Row w (some ⟨g, 0, none⟩) [(a0, n0, c0), (a1, n1, c1), (a2, n2, c2)] [xs, ys, zs] := by
  refine ⟨rfl, fun i hi => ?_, fun _ => ⟨g, 0, rfl, (Array.getElem?_eq_some_iff.1 hg).1, fun i hi => ?_⟩⟩
  · match i, hi with
    | 0, _ => exact h0
    | 1, _ => exact h1
    | 2, _ => exact h2
  · rw [cell_of_row w g _ _ _ _ hg]
    match i, hi with
    | 0, _ => rfl
    | 1, _ => rfl
    | 2, _ => rfl

theorem mod_byte (x : Int) : 0 ≤ x % 256 ∧ x % 256 < 256 := by omega

theorem NewB.wider {t : TypeId} {w0 w w' : World} {n : Nat} {ys : List Int} {v : Value} (h : NewB t w n ys v w') (hb : Below w0.heap.size w0 w) : NewB t w0 n ys v w' := by
  obtain ⟨g, hv, hg, hk, hl, ha, hB⟩ := h
  exact ⟨g, hv, Nat.le_trans hb.size hg, hk, hl, ha, hb.trans (hB.mono hb.size)⟩

/-- the bytes of a number -/
def two (x : Int) : List Int := [x / 256 % 256, x % 256]
def four (x : Int) : List Int := [x / 16777216, x / 65536 % 256, x / 256 % 256, x % 256]
theorem two_all (x : Int) : AllB (two x) := .cons (by omega) (by omega) (.cons (by omega) (by omega) .nil)
theorem four_all (x : Int) (_hx : 0 ≤ x ∧ x < 4294967296) : AllB (four x) := .cons (by omega) (by omega) (.cons (by omega) (by omega) (.cons (by omega) (by omega) (.cons (by omega) (by omega) .nil)))

end Go.Proofs.Ythbboiolhejmmaa

namespace Go.Proofs.Ythbboiolhejmmaa
open Go.RowKit
set_option linter.unusedVariables false

theorem str_append (xs ys : List Int) : strOfNums (xs ++ ys) = strOfNums xs ++ strOfNums ys := by
  apply ByteArray.ext
  simp [strOfNums, ByteArray.data_append]

theorem below_drewN {B : Nat} {a w : World} (h : Below B a w) (n : Nat) : Below B a (w.drewN n) := ⟨h.os, h.tape, h.output, h.size, h.block⟩

end Go.Proofs.Ythbboiolhejmmaa

namespace Go.Proofs.Ythbboiolhejmmaa
open Go.RowKit
set_option linter.unusedVariables false

def is_ (n : Nat) (p k : Int) : Bool := decide (0 ≤ p ∧ 0 ≤ k ∧ p + k ≤ n)
def val2 (xs : List Int) (n : Nat) (p : Int) : Int := if 0 ≤ p ∧ p + 2 ≤ n then num2 xs p.toNat else 0
def val4 (xs : List Int) (n : Nat) (p : Int) : Int := if 0 ≤ p ∧ p + 4 ≤ n then num4 xs p.toNat else 0
def cutL (xs : List Int) (n : Nat) (p k : Int) : List Int := if 0 ≤ p ∧ 0 ≤ k ∧ p + k ≤ n then (xs.drop p.toNat).take k.toNat else []

theorem ret2 {a b : Int} {x y : Bool} {k : IntKind} (h : a = b) (g : x = y) : Ending.returned (.tuple #[.int k a, .bool x]) = .returned (.tuple #[.int k b, .bool y]) := by rw [h, g]

section
variable (A : Option Addr) (n c : Nat) (p k : Int) (xs : List Int) (w : World) (hn : n ≤ 140737488355328) (hp : i64ok p) (hb : Bs w w.heap.size A n xs)
include hn hp hb

end

/-- a list of bytes is handed back, and a bool -/
def GivesB (w : World) (ys : List Int) (ok : Bool) (e : Ending) (w' : World) : Prop :=
  ∃ A' k' c', e = .returned (.tuple #[.slice A' k' c', .bool ok]) ∧ Bs w' w'.heap.size A' k' ys ∧ Below w.heap.size w w'

end Go.Proofs.Ythbboiolhejmmaa

namespace Go.Proofs.Ythbboiolhejmmaa
open Go.RowKit
set_option linter.unusedVariables false

theorem i64_and65535 (n : Int) : bits .and .i64 n 65535 = n % 65536 := by
  have h : (BitVec.ofInt 64 n &&& BitVec.ofInt 64 65535).toNat = (n % 65536).toNat := by
    rw [BitVec.toNat_and, BitVec.toNat_ofInt, show (BitVec.ofInt 64 65535).toNat = 2 ^ 16 - 1 by decide, Nat.and_two_pow_sub_one_eq_mod]
    omega
  show IntKind.i64.wrap ((BitVec.ofInt 64 n &&& BitVec.ofInt 64 65535).toNat : Int) = _
  rw [h, IntKind.wrap_i64]
  omega

theorem four_two (x : Int) (hx : 0 ≤ x ∧ x < 4294967296) : two (x / 65536) ++ two (x % 65536) = four x := by
  unfold two four
  simp only [List.cons_append, List.nil_append]
  congr 1
  · omega
  · congr 1
    congr 1
    · omega
    · congr 1
      omega

theorem set_two (xs : List Int) (p : Nat) (x y : Int) (h : p + 2 ≤ xs.length) : (xs.set p x).set (p + 1) y = xs.take p ++ [x, y] ++ xs.drop (p + 2) := by
  apply List.ext_getElem?
  intro i
  simp only [List.append_assoc, List.cons_append, List.nil_append]
  rcases Nat.lt_or_ge i p with h1 | h1
  · rw [List.getElem?_append_left (by simp; omega)]
    simp [show ¬ p + 1 = i by omega, show ¬ p = i by omega, h1]
  · rw [List.getElem?_append_right (by simp; omega), List.length_take, Nat.min_eq_left (by omega)]
    rcases Nat.lt_or_ge i (p + 1) with h2 | h2
    · obtain rfl : i = p := by omega
      simp [show i < xs.length by omega]
    · rcases Nat.lt_or_ge i (p + 2) with h3 | h3
      · obtain rfl : i = p + 1 := by omega
        simp [show p + 1 < xs.length by omega]
      · obtain ⟨j, rfl⟩ : ∃ j, i = p + 2 + j := ⟨i - (p + 2), by omega⟩
        rw [show p + 2 + j - p = j + 2 by omega]
        simp [show ¬ p + 1 = p + 2 + j by omega, show ¬ p = p + 2 + j by omega]

end Go.Proofs.Ythbboiolhejmmaa
