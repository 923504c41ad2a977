/- The walk of harrierlaw06.ToptParses: it answers true. Condition: at most 2^47 bytes. -/
import Derived.Test.YtibgonmngjajgaaTpL
import Derived.Test.YtibgonmngjajgaaTpM
import Derived.Test.YtibgonmngjajgaaTpP
namespace Go.Proofs.Ytibgonmngjajgaa
open Go.RowKit
set_option linter.unusedVariables false

set_option maxHeartbeats 1600000 in
theorem tpr_walk (A : Option Addr) (n c : Nat) (xs : List Int) (w : World) (hn : n ≤ 140737488355328) (hc : n ≤ c) (hc2 : c ≤ 9223372036854775807) (hb : Bs w w.heap.size A n xs) :
    Calls Try.prog 4 #[.slice A n c] w fun e w' => e = .returned (.bool true) ∧ Below w.heap.size w w' := by
  have HB := Lib.hid hb
  have HFN := Lib.hid (parseL_fine hb.all)
  have hpl := parseL_len xs
  have hpe := parseL_err xs
  have HLEN := Lib.hid hb.len
  clear hb
  go_enter Try.func4, Try.ntmps4
  go_wp2_with fail
  refine (tparse_any A n c xs w hn hc hc2 HB.out).mono ?_
  rintro e w1 ⟨A1, c1, os1, rfl, hv1, ho1, hB1⟩
  have HB1 := Lib.hid (HB.out.below' hB1 hB1.size)
  have HO1 := Lib.hid ho1
  have HV1 := Lib.hid hv1
  clear ho1 hv1
  go_wp2_with fail
  refine (trparse_any A n c xs w1 hn hc hc2 HB1.out).mono ?_
  rintro e w2 ⟨A2, c2, os2, rfl, hv2, ho2, hB2⟩
  have HO2 := Lib.hid ho2
  have HO1' := Lib.hid (HO1.out.below' hB2 hB2.size)
  have HV2 := Lib.hid hv2
  have hBB := Low.trans hB1 hB2
  clear ho2 hv2 hB1 hB2
  generalize parseL xs = r at *
  obtain ⟨rl, re⟩ := r
  dsimp only at hpl hpe HFN HO1' HO2 HV1 HV2 ⊢
  go_wp2_with fail
  refine (same_any A1 A2 rl.length c1 rl.length c2 os1 os2 w2 (by omega) (by omega) HO1'.out HO2.out).mono ?_
  rintro e w3 ⟨rfl, hB3⟩
  rw [decide_eq_true (HV1.out.trans HV2.out.symm)]
  have HO3 := Lib.hid (HO1'.out.below' hB3 hB3.size)
  have hBC := Low.trans hBB hB3
  clear hBB hB3
  by_cases he : re = 0
  · subst he
    obtain ⟨hcan, hsum⟩ := HFN.out rfl
    obtain ⟨hp1, hp2, hp3⟩ := parse_put hcan
    have hpl3 := putO_len hcan
    rw [HLEN.out] at hsum
    have HP := Lib.hid hp1
    have HCAN := Lib.hid hcan
    clear hp1 hcan
    go_wp2_with fail
    refine (tput_any A1 rl.length c1 os1 w3 (by omega) HO3.out).mono ?_
    rintro e w4 ⟨A4, c4, rfl, hb4, hc4, hB4⟩
    rw [HV1.out] at hb4 hc4 ⊢
    rw [HCAN.out]
    generalize putO rl = ys at *
    obtain ⟨q, hq⟩ : ∃ q, q = ys.length := ⟨_, rfl⟩
    rw [← hq] at hb4 hc4 hp2 hp3 hpl3 ⊢
    have HB4 := Lib.hid hb4
    have HO4 := Lib.hid (HO3.out.below' hB4 hB4.size)
    have hBD := Low.trans hBC hB4
    have hr4 : (q : Int) % 4 = 0 := by omega
    have hle : (q : Int) ≤ (n : Int) + 3 := by omega
    clear hb4 hB4 hq hp3 hBC hpl3 hsum
    go_wp2_with fail
    refine (tparse_any A4 q c4 ys w4 (by omega) hc4.1 hc4.2 HB4.out).mono ?_
    rintro e w5 ⟨A5, c5, os5, rfl, hv5, ho5, hB5⟩
    rw [HP.out] at hv5 ho5 ⊢
    dsimp only at hv5 ho5 ⊢
    have HO5 := Lib.hid ho5
    have HV5 := Lib.hid hv5
    have HO6 := Lib.hid (HO4.out.below' hB5 hB5.size)
    have hBE := Low.trans hBD hB5
    clear ho5 hv5 hB5 hBD
    go_wp2_with fail
    refine (same_any A1 A5 rl.length c1 rl.length c5 os1 os5 w5 (by omega) (by omega) HO6.out HO5.out).mono ?_
    rintro e w6 ⟨rfl, hB6⟩
    rw [decide_eq_true (HV1.out.trans HV5.out.symm)]
    have hBF := Low.trans hBE hB6
    clear hB6 hBE
    go_wp2_with fail
    refine (tplives_any _).mono ?_
    rintro e w7 ⟨rfl, hB7⟩
    have hBG := Low.trans hBF hB7
    clear hBF hB7
    go_wp2_with fail
    go_ret
    exact ⟨rfl, hBG⟩
  · have heb : (re != 0) = true := by simpa using he
    clear he
    go_wp2_with fail
    refine (tplives_any _).mono ?_
    rintro e w4 ⟨rfl, hB4⟩
    have hBD := Low.trans hBC hB4
    clear hBC hB4
    go_wp2_with fail
    go_ret
    exact ⟨rfl, hBD⟩
end Go.Proofs.Ytibgonmngjajgaa
