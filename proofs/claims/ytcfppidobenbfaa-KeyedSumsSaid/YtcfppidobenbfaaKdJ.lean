/- Stage 15: what the laws ask of every program: the example's two hashes, and what is left of two numbers. No condition. -/
import Derived.Test.YtcfppidobenbfaaKdI
import Derived.Test.YtcfppidobenbfaaJOct
set_option maxRecDepth 100000
namespace Go.Proofs.Ytcfppidobenbfaa
open Go.RowKit
set_option linter.unusedVariables false

def fifteenK : List Int := [0, 1, 2, 3, 4, 5, 6, 7, 8, 9, 10, 11, 12, 13, 14]
theorem fifteen_all : AllB fifteenK := by
  intro x hx
  simp only [fifteenK, List.mem_cons, List.not_mem_nil, or_false] at hx
  omega
theorem mod_7_5 : modK 7 5 = 2 := by decide +kernel
theorem mod_7_0 : modK 7 0 = 0 := by decide +kernel
set_option maxHeartbeats 1600000 in
theorem kdlives_any (w : World) : Calls Try.prog 5 #[] w fun e w' => e = .returned (.bool true) ∧ Low w w' := by
  have HB1 := Lib.hid (show Blk (w.alloc (.cells (cellsB fifteenK).toArray 5)) 5 w.heap.size fifteenK from Blk.new w 5 fifteenK)
  have HL1 := Lib.hid (Low.alloc w (.cells (cellsB fifteenK).toArray 5))
  go_enter Try.func5, Try.ntmps5
  go_wp2_with fail
  change Calls _ _ _ (w.alloc (.cells (cellsB fifteenK).toArray 5)) _
  generalize w.alloc (.cells (cellsB fifteenK).toArray 5) = w1 at *
  refine (official_any w1).mono ?_
  rintro e w2 ⟨rfl, hl⟩
  have HB2 := Lib.hid (HB1.out.below hl HB1.out.lt)
  have HL2 := Lib.hid (HL1.out.trans hl)
  clear hl HB1 HL1
  go_wp2_with fail
  refine (ksum_any _ _ none 0 0 [] w2 (by omega) (by omega) (Bs.nil _ _ _)).mono ?_
  rintro e w3 ⟨rfl, hl⟩
  rw [sum_none]
  have HB3 := Lib.hid (HB2.out.below hl HB2.out.lt)
  have HL3 := Lib.hid (HL2.out.trans hl)
  clear hl HB2 HL2
  go_wp2_with fail
  refine (official_any w3).mono ?_
  rintro e w4 ⟨rfl, hl⟩
  have HB4 := Lib.hid (HB3.out.below hl HB3.out.lt)
  have HL4 := Lib.hid (HL3.out.trans hl)
  clear hl HB3 HL3
  go_wp2_with fail
  refine (ksum_any _ _ (some ⟨w.heap.size, 0, none⟩) 15 15 fifteenK w4 (by omega) (by omega) (HB4.out.bs (n := 15) fifteen_all HB4.out.lt rfl)).mono ?_
  rintro e w5 ⟨rfl, hl⟩
  rw [show sumK 506097522914230528 1084818905618843912 fifteenK = 11613035633349379557 from sum_some]
  have HL5 := Lib.hid (HL4.out.trans hl)
  clear hl HB4 HL4
  go_wp2_with fail
  refine (kmod_any 7 5 w5 (by unfold i64ok; omega)).mono ?_
  rintro e w6 ⟨rfl, rfl⟩
  rw [mod_7_5]
  go_wp2_with fail
  refine (kmod_any 7 0 w5 (by unfold i64ok; omega)).mono ?_
  rintro e w6 ⟨rfl, rfl⟩
  rw [mod_7_0]
  go_wp2_with fail
  go_ret
  exact ⟨rfl, HL5.out⟩
end Go.Proofs.Ytcfppidobenbfaa
