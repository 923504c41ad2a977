/- The walk of harrierlaw09.TlvParses: it answers true. Condition: at most 2^30 bytes. -/
import Derived.Test.YtendfhonnodonaaTlG
import Derived.Test.YtendfhonnodonaaTlH
import Derived.Test.YtendfhonnodonaaTlI
namespace Go.Proofs.Ytendfhonnodonaa
open Go.RowKit
set_option linter.unusedVariables false

set_option maxHeartbeats 1600000 in
theorem tlr_walk (A : Option Addr) (n c : Nat) (xs : List Int) (w : World) (hn : n ≤ 1073741824) (hc : n ≤ c) (hc2 : c ≤ 9223372036854775807) (hb : Bs w w.heap.size A n xs) :
    Calls Try.prog 4 #[.slice A n c] w fun e w' => e = .returned (.bool true) ∧ Below w.heap.size w w' := by
  have HB := Lib.hid hb
  have hpl : (parseTL xs).1.length ≤ n := by rw [← hb.len]; exact parseT_len _ _
  clear hb
  go_enter Try.func4, Try.ntmps4
  go_wp2_with fail
  refine (tlparse_any A n c xs w (by omega) hc hc2 HB.out).mono ?_
  rintro e w1 ⟨A1, c1, os1, rfl, hv1, ho1, hB1, -⟩
  have HB1 := Lib.hid (HB.out.below' hB1 hB1.size)
  have HO1 := Lib.hid ho1
  have HV1 := Lib.hid hv1
  clear ho1 hv1
  go_wp2_with fail
  refine (rtlparse_any A n c xs w1 (by omega) hc hc2 HB1.out).mono ?_
  rintro e w2 ⟨A2, c2, os2, rfl, hv2, ho2, hB2, -⟩
  have HO2 := Lib.hid ho2
  have HO1' := Lib.hid (HO1.out.below' hB2 hB2.size)
  have HV2 := Lib.hid hv2
  have hBB := Low.trans hB1 hB2
  clear ho2 hv2 hB1 hB2
  generalize parseTL xs = r at *
  obtain ⟨rl, re⟩ := r
  dsimp only at hpl HO1' HO2 HV1 HV2 ⊢
  go_wp2_with fail
  refine (sameT_any A1 A2 rl.length c1 rl.length c2 os1 os2 w2 (by omega) (by omega) HO1'.out HO2.out).mono ?_
  rintro e w3 ⟨rfl, hB3⟩
  rw [decide_eq_true (HV1.out.trans HV2.out.symm)]
  have hBC := Low.trans hBB hB3
  clear hBB hB3
  go_wp2_with fail
  refine (tllives_any _).mono ?_
  rintro e w7 ⟨rfl, hB7⟩
  have hBG := Low.trans hBC hB7
  clear hB7
  go_wp2_with fail
  go_ret
  exact ⟨rfl, hBG⟩
end Go.Proofs.Ytendfhonnodonaa
