/- What the laws' own small test, 'lives', answers: true. No condition. -/
import Derived.Test.YtliceelneoelcaaOctD
namespace Go.Proofs.Ytliceelneoelcaa
open Go.RowKit
set_option linter.unusedVariables false

/-- a slice of bytes turned into a string -/
theorem conv_blk {w : World} {g n c : Nat} {ys : List Int} (h : Blk w 5 g ys) (hn : ys.length = n) :
    (convert 22 9 (.slice (some ⟨g, 0, none⟩) n c)).run Try.prog w = .ok (.string (strOfNums ys)) w :=
  run_convert_bytes_arg w 22 5 Try.underlying22 Try.underlying5 g 0 n c ys hn
    (fun i hi => by rw [Nat.zero_add, h.cell i, cellsB_get (by omega)]) 9 Try.underlying9
theorem conv_bs {w : World} {B n c : Nat} {A : Option Addr} {ys : List Int} (h : Bs w B A n ys) :
    (convert 22 9 (.slice A n c)).run Try.prog w = .ok (.string (strOfNums ys)) w := by
  rcases Nat.eq_zero_or_pos n with h0 | h0
  · subst h0
    obtain rfl : ys = [] := List.eq_nil_of_length_eq_zero h.len
    cases A with
    | none => exact run_convert_bytes_nil w 22 5 Try.underlying22 Try.underlying5 0 c 9 Try.underlying9
    | some a =>
      rw [run_convert_bytes_string w 22 9 5 _ 0 c Try.underlying22 Try.underlying5 Try.underlying9]
      exact run_bytesToString w a 0 c [] (by simpa using run_loadCells_list (P := Try.prog) w a [] (fun _ _ h => by simp at h))
  · obtain ⟨b, o, rfl, _, hc⟩ := h.mem h0
    exact run_convert_bytes_arg w 22 5 Try.underlying22 Try.underlying5 b o n c ys h.len hc 9 Try.underlying9

theorem below_drewN {B : Nat} {a w : World} (h : Below B a w) (n : Nat) : Below B a (w.drewN n) := ⟨h.os, h.tape, h.output, h.size, h.block⟩

set_option maxHeartbeats 400000 in
theorem lives_any (w : World) : Calls Try.prog 15 #[] w fun e w' => e = .returned (.bool true) ∧ Below w.heap.size w w' := by
  go_enter Try.func15, Try.ntmps15
  go_wp2_with fail
  have hk1 : Blk (w.alloc (.cells #[.int .u8 1, .int .u8 2] 5)) 5 w.heap.size [1, 2] := Blk.new w 5 [1, 2]
  have hB1 : Below w.heap.size w (w.alloc (.cells #[.int .u8 1, .int .u8 2] 5)) := (Below.refl _ _).alloc (Nat.le_refl _) _
  refine (u16_yes (some ⟨w.heap.size, 0, none⟩) 2 2 0 0 [1, 2] _ (by omega) (hk1.bs (.cons (by omega) (by omega) (.cons (by omega) (by omega) .nil)) (by simp) rfl) rfl (by omega)).mono ?_
  rintro e w1 ⟨rfl, k, rfl⟩
  rw [show num2 [1, 2] 0 = 258 by decide]
  have hB2 := below_drewN hB1 k
  clear hk1 hB1
  generalize (w.alloc (.cells #[.int .u8 1, .int .u8 2] 5)).drewN k = w1 at *
  go_wp2_with fail
  have hB3 := hB2.alloc hB2.size (.cells #[.int .u8 1, .int .u8 2] 5)
  clear hB2
  refine (u16_no _ 2 2 1 _ (by omega) (by omega) (by omega)).mono ?_
  rintro e w2 ⟨rfl, rfl⟩
  generalize w1.alloc (.cells #[.int .u8 1, .int .u8 2] 5) = w2 at *
  go_wp2_with fail
  refine (put16_any none 0 0 (-1) [] _ (by omega) (by unfold i64ok; omega) (Bs.nil _ _ _)).mono ?_
  rintro e w3 ⟨v, rfl, g, rfl, hg, hk, hl, ha, hB⟩
  have hB4 := hB3.trans (hB.mono hB3.size)
  have hcv := conv_blk (c := 2) hk hl
  rw [show strOfNums ([] ++ two (-1)) = ⟨#[255, 255]⟩ by decide] at hcv
  clear hg hk hl ha hB hB3
  go_wp2_with fail
  refine (zeros_any none 0 0 [] _ (by omega) (Bs.nil _ _ _)).mono ?_
  rintro e w4 ⟨rfl, rfl⟩
  rw [show zerosB [] = true by decide]
  clear hcv
  go_wp2_with fail
  have hk5 : Blk (w3.alloc (.cells #[.int .u8 1] 5)) 5 w3.heap.size [1] := Blk.new w3 5 [1]
  have hB5 := hB4.alloc hB4.size (.cells #[.int .u8 1] 5)
  refine (zeros_any (some ⟨w3.heap.size, 0, none⟩) 1 1 [1] _ (by omega) (hk5.bs (.cons (by omega) (by omega) .nil) (by simp) rfl)).mono ?_
  rintro e w6 ⟨rfl, rfl⟩
  rw [show zerosB [1] = false by decide]
  clear hk5 hB4
  go_wp2
  go_ret
  exact ⟨rfl, hB5⟩
end Go.Proofs.Ytliceelneoelcaa
