/- The walk of harrierlaw06.ToptFinds: it answers true. Condition: at most 2^47 options. -/
import Derived.Test.YtibgonmngjajgaaTpN
import Derived.Test.YtibgonmngjajgaaTpP
namespace Go.Proofs.Ytibgonmngjajgaa
open Go.RowKit
set_option linter.unusedVariables false

set_option maxHeartbeats 1600000 in
theorem tpf_walk (A : Option Addr) (n c : Nat) (os : List Od) (k : Int) (w : World) (hn : n ≤ 140737488355328) (ho : Os w w.heap.size A n os) (hk : i64ok k) :
    Calls Try.prog 5 #[.slice A n c, .int .i64 k] w fun e w' => e = .returned (.bool true) ∧ Below w.heap.size w w' := by
  have HO := Lib.hid ho
  clear ho
  by_cases h60 : 60 < n
  · go_enter Try.func5, Try.ntmps5
    go_wp2_with fail
    refine (tplives_any _).mono ?_
    rintro e w1 ⟨rfl, hB1⟩
    go_wp2_with fail
    go_ret
    exact ⟨rfl, hB1⟩
  · go_enter Try.func5, Try.ntmps5
    go_wp2_with fail
    refine (find_opt A n c os k w hn HO.out).mono ?_
    rintro e w1 ⟨A1, n1, c1, rfl, hb1, hB1⟩
    have HO1 := Lib.hid (HO.out.below' hB1 hB1.size)
    have HB1 := Lib.hid hb1
    clear hb1
    go_wp2_with fail
    refine (rfind_opt A n c os k w1 hn HO1.out).mono ?_
    rintro e w2 ⟨A2, n2, c2, rfl, hb2, hB2⟩
    have HO2 := Lib.hid (HO1.out.below' hB2 hB2.size)
    have hv1 := conv_bs (c := c1) (HB1.out.below' hB2 hB2.size)
    have hv2 := conv_bs (c := c2) hb2
    generalize (findO (os.map Od.v) k).2 = t at *
    generalize (findO (os.map Od.v) k).1 = ys at *
    have hBB := Low.trans hB1 hB2
    clear hb2 hB1 hB2
    go_wp2_with fail
    refine (seg_any A n c os w2 hn HO2.out).mono ?_
    rintro e w3 ⟨rfl, hB3⟩
    have HO3 := Lib.hid (HO2.out.below' hB3 hB3.size)
    have hBC := Low.trans hBB hB3
    clear hBB hB3 hv1 hv2
    go_wp2_with fail
    refine (rseg_any A n c os w3 hn HO3.out).mono ?_
    rintro e w4 ⟨rfl, hB4⟩
    have hBD := Low.trans hBC hB4
    generalize segO (os.map Od.v) = x at *
    clear hBC hB4
    go_wp2_with fail
    refine (tplives_any _).mono ?_
    rintro e w5 ⟨rfl, hB5⟩
    have hBE := Low.trans hBD hB5
    clear hBD hB5
    go_wp2_with fail
    go_ret
    exact ⟨rfl, hBE⟩
end Go.Proofs.Ytibgonmngjajgaa
