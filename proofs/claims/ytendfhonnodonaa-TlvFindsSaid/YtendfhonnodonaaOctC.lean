/- What octets.Join answers: all lists, one behind the other, in a new block. Condition: together they are at most 2^48 bytes long. -/
import Derived.Test.YtendfhonnodonaaOctB
namespace Go.Proofs.Ytendfhonnodonaa
open Go.RowKit

theorem info5 : (Try.prog.info? 5).map (fun i => (i.zero, i.size, i.bytes)) = some (some (.int .u8 0), 1, 1) := by kernel_rfl
theorem size5 : (Try.prog.info? 5).map (·.size) = some 1 := by kernel_rfl

/-- lists of bytes: the slices, and what each holds -/
structure Row (w : World) (A : Option Addr) (vs : List (Option Addr × Nat × Nat)) (yss : List (List Int)) : Prop where
  len : yss.length = vs.length
  each : ∀ i, i < vs.length → Bs w w.heap.size (vs.getD i (none, 0, 0)).1 (vs.getD i (none, 0, 0)).2.1 (yss.getD i [])
  mem : 0 < vs.length → ∃ b o, A = some ⟨b, o, none⟩ ∧ b < w.heap.size ∧ ∀ i, i < vs.length → w.cell? ⟨b, o + i, none⟩ = some (.slice (vs.getD i (none, 0, 0)).1 (vs.getD i (none, 0, 0)).2.1 (vs.getD i (none, 0, 0)).2.2)

/-- the first k lists, joined -/
def upto (yss : List (List Int)) (k : Nat) : List Int := (yss.take k).flatten
theorem upto_succ (yss : List (List Int)) (k : Nat) (h : k < yss.length) : upto yss (k + 1) = upto yss k ++ yss.getD k [] := by
  unfold upto
  rw [List.take_succ_eq_append_getElem h, List.flatten_append]
  simp [List.getD, h]
theorem upto_all (yss : List (List Int)) (k : Nat) (h : yss.length ≤ k) : upto yss k = yss.flatten := by
  unfold upto; rw [List.take_of_length_le h]
theorem upto_le (yss : List (List Int)) (k : Nat) : (upto yss k).length ≤ yss.flatten.length := by
  have h : yss.flatten = (yss.take k).flatten ++ (yss.drop k).flatten := by rw [← List.flatten_append, List.take_append_drop]
  rw [h, List.length_append]; unfold upto; omega

/-- the row in the making: what is laid, and noughts -/
def laidRow (xs : List Int) (N : Nat) : List Value := cellsB xs ++ List.replicate (N - xs.length) (.int .u8 0)
theorem laidRow_length (xs : List Int) (N : Nat) (h : xs.length ≤ N) : (laidRow xs N).length = N := by simp [laidRow, cellsB_length]; omega
theorem laidRow_splice (xs ys : List Int) (N : Nat) : splice (laidRow xs N) xs.length (cellsB ys) = laidRow (xs ++ ys) N := by
  unfold splice laidRow
  rw [cellsB_append, List.append_assoc]
  congr 1
  · rw [List.take_left' (by rw [cellsB_length])]
  · congr 1
    rw [List.drop_append, List.drop_eq_nil_of_le (by rw [cellsB_length, cellsB_length]; omega), List.nil_append, List.drop_replicate, cellsB_length, cellsB_length]
    congr 1
    simp; omega
theorem laidRow_full (xs : List Int) : laidRow xs xs.length = cellsB xs := by simp [laidRow]
theorem made_laid (N : Nat) : madeCells #[.int .u8 0] N = (laidRow [] N).toArray := by
  apply Array.ext
  · simp [madeCells, laidRow, cellsB]
  · intro i h1 h2
    simp [madeCells, laidRow, cellsB, Nat.mod_one]

end Go.Proofs.Ytendfhonnodonaa
