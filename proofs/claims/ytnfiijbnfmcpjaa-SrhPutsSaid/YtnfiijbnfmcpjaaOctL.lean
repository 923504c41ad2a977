/- What the laws' own small test, 'lives', answers: true. No condition. -/
import Derived.Test.YtnfiijbnfmcpjaaOctD
namespace Go.Proofs.Ytnfiijbnfmcpjaa
open Go.RowKit
set_option linter.unusedVariables false

/-- a slice of bytes turned into a string -/
theorem conv_blk {w : World} {g n c : Nat} {ys : List Int} (h : Blk w 5 g ys) (hn : ys.length = n) :
    (convert 28 9 (.slice (some ⟨g, 0, none⟩) n c)).run Try.prog w = .ok (.string (strOfNums ys)) w :=
  run_convert_bytes_arg w 28 5 Try.underlying28 Try.underlying5 g 0 n c ys hn
    (fun i hi => by rw [Nat.zero_add, h.cell i, cellsB_get (by omega)]) 9 Try.underlying9
theorem conv_bs {w : World} {B n c : Nat} {A : Option Addr} {ys : List Int} (h : Bs w B A n ys) :
    (convert 28 9 (.slice A n c)).run Try.prog w = .ok (.string (strOfNums ys)) w := by
  rcases Nat.eq_zero_or_pos n with h0 | h0
  · subst h0
    obtain rfl : ys = [] := List.eq_nil_of_length_eq_zero h.len
    cases A with
    | none => exact run_convert_bytes_nil w 28 5 Try.underlying28 Try.underlying5 0 c 9 Try.underlying9
    | some a =>
      rw [run_convert_bytes_string w 28 9 5 _ 0 c Try.underlying28 Try.underlying5 Try.underlying9]
      exact run_bytesToString w a 0 c [] (by simpa using run_loadCells_list (P := Try.prog) w a [] (fun _ _ h => by simp at h))
  · obtain ⟨b, o, rfl, _, hc⟩ := h.mem h0
    exact run_convert_bytes_arg w 28 5 Try.underlying28 Try.underlying5 b o n c ys h.len hc 9 Try.underlying9

theorem str_append (xs ys : List Int) : strOfNums (xs ++ ys) = strOfNums xs ++ strOfNums ys := by
  apply ByteArray.ext
  simp [strOfNums, ByteArray.data_append]

theorem below_drewN {B : Nat} {a w : World} (h : Below B a w) (n : Nat) : Below B a (w.drewN n) := ⟨h.os, h.tape, h.output, h.size, h.block⟩

end Go.Proofs.Ytnfiijbnfmcpjaa
