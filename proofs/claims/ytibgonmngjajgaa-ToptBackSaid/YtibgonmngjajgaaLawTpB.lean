/- The walk of harrierlaw06.ToptBack: it answers true. Condition: at most 2^47 options. -/
import Derived.Test.YtibgonmngjajgaaTpM
import Derived.Test.YtibgonmngjajgaaTpP
namespace Go.Proofs.Ytibgonmngjajgaa
open Go.RowKit
set_option linter.unusedVariables false

set_option maxHeartbeats 1600000 in
theorem tpb_walk (A : Option Addr) (n c : Nat) (os : List Od) (w : World) (hn : n ≤ 140737488355328) (ho : Os w w.heap.size A n os) :
    Calls Try.prog 6 #[.slice A n c] w fun e w' => e = .returned (.bool true) ∧ Below w.heap.size w w' := by
  have HO := Lib.hid ho
  clear ho
  by_cases h60 : 60 < n
  · go_enter Try.func6, Try.ntmps6
    go_wp2_with fail
    refine (tplives_any _).mono ?_
    rintro e w1 ⟨rfl, hB1⟩
    go_wp2_with fail
    go_ret
    exact ⟨rfl, hB1⟩
  · go_enter Try.func6, Try.ntmps6
    go_wp2_with fail
    refine (tcan_any A n c os w hn HO.out).mono ?_
    rintro e w1 ⟨rfl, hB1⟩
    by_cases hcan : canO (os.map Od.v) = 0
    · obtain ⟨hp1, hp2, hp3⟩ := parse_put hcan
      have HP := Lib.hid hp1
      have HCAN := Lib.hid hcan
      rw [hcan]
      have HO1 := Lib.hid (HO.out.below' hB1 hB1.size)
      clear hp1 hcan
      go_wp2_with fail
      refine (tput_any A n c os w1 hn HO1.out).mono ?_
      rintro e w2 ⟨A2, c2, rfl, hb2, hc2, hB2⟩
      rw [HCAN.out]
      generalize putO (os.map Od.v) = ys at *
      obtain ⟨q, hq⟩ : ∃ q, q = ys.length := ⟨_, rfl⟩
      rw [← hq] at hb2 hc2 hp2 hp3 ⊢
      have HB2 := Lib.hid hb2
      have hBB := Low.trans hB1 hB2
      have HO2 := Lib.hid (HO1.out.below' hB2 hB2.size)
      clear hb2 hB1 hB2 hq
      have hr4 : (q : Int) % 4 = 0 := by omega
      clear hp3
      go_wp2_with fail
      refine (tparse_any A2 q c2 ys w2 (by omega) hc2.1 hc2.2 HB2.out).mono ?_
      rintro e w3 ⟨A3, c3, os3, rfl, hv3, ho3, hB3⟩
      rw [HP.out] at hv3 ho3 ⊢
      dsimp only at hv3 ho3 ⊢
      have hlen : (os.map Od.v).length = n := by rw [List.length_map]; exact HO.out.len
      rw [hlen] at ho3 ⊢
      have HO3 := Lib.hid ho3
      have HV3 := Lib.hid hv3
      have hBC := Low.trans hBB hB3
      have HO4 := Lib.hid (HO2.out.below' hB3 hB3.size)
      clear hv3 ho3 hlen hBB hB3
      go_wp2_with fail
      refine (same_any A A3 n c n c3 os os3 w3 hn hn HO4.out HO3.out).mono ?_
      rintro e w4 ⟨rfl, hB4⟩
      rw [decide_eq_true HV3.out.symm]
      have hBD := Low.trans hBC hB4
      clear hBC hB4
      go_wp2_with fail
      refine (tplives_any _).mono ?_
      rintro e w5 ⟨rfl, hB5⟩
      have hBE := Low.trans hBD hB5
      clear hBD hB5
      go_wp2_with fail
      go_ret
      exact ⟨rfl, hBE⟩
    · have hcb : (canO (os.map Od.v) != 0) = true := by simpa using hcan
      generalize canO (os.map Od.v) = x at *
      clear hcan
      go_wp2_with fail
      refine (tplives_any _).mono ?_
      rintro e w2 ⟨rfl, hB2⟩
      have hBB := Low.trans hB1 hB2
      clear hB1 hB2
      go_wp2_with fail
      go_ret
      exact ⟨rfl, hBB⟩
end Go.Proofs.Ytibgonmngjajgaa
