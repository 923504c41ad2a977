/- What the laws' own small test of layer 2, 'lives', answers: true. No condition. -/
import Derived.Test.YteojbdchekgooaaCkE
namespace Go.Proofs.Yteojbdchekgooaa
open Go.RowKit
set_option linter.unusedVariables false

def z16 : List Int := [0, 0, 0, 0, 0, 0, 0, 0, 0, 0, 0, 0, 0, 0, 0, 0]
theorem z16_all : AllB z16 := fun x hx => by simp [z16] at hx; omega

set_option maxHeartbeats 400000 in
theorem cklives_any (w : World) : Calls Try.prog 15 #[] w fun e w' => e = .returned (.bool true) ∧ Below w.heap.size w w' := by
  go_enter Try.func15, Try.ntmps15
  go_wp2_with fail
  have hk1 : Blk (w.alloc (.cells #[.int .u8 1, .int .u8 2, .int .u8 3] 5)) 5 w.heap.size [1, 2, 3] := Blk.new w 5 [1, 2, 3]
  have hB1 : Below w.heap.size w (w.alloc (.cells #[.int .u8 1, .int .u8 2, .int .u8 3] 5)) := (Below.refl _ _).alloc (Nat.le_refl _) _
  refine (cksum_any (some ⟨w.heap.size, 0, none⟩) 3 3 [1, 2, 3] _ (by omega) (hk1.bs (.cons (by omega) (by omega) (.cons (by omega) (by omega) (.cons (by omega) (by omega) .nil))) (by simp) rfl)).mono ?_
  rintro e w1 ⟨rfl, hl⟩
  rw [show sumL [1, 2, 3] = 1026 by decide]
  have hB2 := hB1.trans (hl.mono hB1.size)
  clear hk1 hB1 hl
  go_wp2_with fail
  refine (ckjoin_any _ _ _).mono ?_
  rintro e w2 ⟨rfl, rfl⟩
  rw [show jn 65535 2 = 2 by decide]
  go_wp2_with fail
  refine (cknot_any _ _).mono ?_
  rintro e w2 ⟨rfl, rfl⟩
  rw [show nt 0 = 65535 by decide]
  go_wp2_with fail
  refine (fine_any z16 z16 6 none 0 0 [] w1 rfl rfl z16_all z16_all (by unfold i64ok; omega) (by omega) (Bs.nil _ _ _)).mono ?_
  rintro e w2 ⟨rfl, hl⟩
  rw [show fineB z16 z16 6 [] = false by decide]
  have hB3 := hB2.trans (hl.mono hB2.size)
  clear hB2 hl
  go_wp2
  go_ret
  exact ⟨rfl, hB3⟩
end Go.Proofs.Yteojbdchekgooaa
