/- The walk of harrierlaw10.SrhPuts: it answers true. Condition: at most 2^47 segments and parts. -/
import Derived.Test.YtnfiijbnfmcpjaaSrG
import Derived.Test.YtnfiijbnfmcpjaaSrL
import Derived.Test.YtnfiijbnfmcpjaaOctL
namespace Go.Proofs.Ytnfiijbnfmcpjaa
open Go.RowKit
set_option linter.unusedVariables false

set_option maxRecDepth 100000 in
set_option maxHeartbeats 1600000 in
theorem srp_walk (s : Sr) (w : World) (hs : s.ok w w.heap.size) :
    Calls Try.prog 3 #[srV s] w fun e w' => e = .returned (.bool true) ∧ Below w.heap.size w w' := by
  unfold srV
  have HT := Lib.hid hs
  clear hs
  go_enter Try.func3, Try.ntmps3
  go_wp2_with ((with_reducible refine wpList_box_sr rfl (.tmp 0) rfl s rfl ?_); intro w1 HK hL hz1; refine Hid.out ?_)
  refine Lib.hid ?_
  replace HK := Lib.hid HK
  clear hz1
  go_wp2_with (with_reducible refine wpList_load_sr rfl (.tmp 1) rfl w.heap.size rfl s HK.out ?_)
  refine (srsmall_any s w1 HT.out.gm HT.out.tm).mono ?_
  rintro e w2 ⟨rfl, hB2⟩
  replace HK := Lib.hid (HK.out.below hB2 HK.out.lt)
  replace hL := hL.trans hB2
  clear hB2
  cases hsm : smallR s
  · go_wp2_with fail
    refine (srlives_any _).mono ?_
    rintro e w3 ⟨rfl, hB3⟩
    replace hL := hL.trans hB3
    clear hB3
    go_wp2_with fail
    go_ret
    exact ⟨rfl, hL⟩
  · go_wp2_with (with_reducible refine wpList_load_sr rfl (.tmp 1) rfl w.heap.size rfl s HK.out ?_)
    refine (srput_any s w2 (HT.out.low hL)).mono ?_
    rintro e w3 ⟨A3, c3, rfl, hown3, hB3⟩
    replace HK := Lib.hid (HK.out.below hB3 HK.out.lt)
    replace hL := hL.trans hB3
    have HB3 := Lib.hid (hown3.bs (Nat.le_refl _))
    clear hB3 hown3
    obtain ⟨x, hx⟩ : ∃ x, x = canR s.v := ⟨_, rfl⟩
    obtain ⟨xs, hxs⟩ : ∃ xs, xs = putR s.v := ⟨_, rfl⟩
    have HX := Lib.hid hx
    have HXS := Lib.hid hxs
    rw [← hxs] at HB3 ⊢
    rw [← hx]
    clear hx hxs
    go_wp2_with (with_reducible refine wpList_load_sr rfl (.tmp 1) rfl w.heap.size rfl s HK.out ?_)
    refine (rsrput_any s w3 (HT.out.low hL)).mono ?_
    rintro e w4 ⟨A4, c4, rfl, hown4, hB4⟩
    rw [← HXS.out] at hown4 ⊢
    rw [← HX.out]
    replace HK := Lib.hid (HK.out.below hB4 HK.out.lt)
    replace hL := hL.trans hB4
    replace HB3 := Lib.hid (HB3.out.below' hB4 hB4.size)
    have HB4 := Lib.hid (hown4.bs (Nat.le_refl _))
    clear hB4 hown4
    go_wp2_with (with_reducible refine wpList_load_sr rfl (.tmp 1) rfl w.heap.size rfl s HK.out ?_)
    refine (srcan_any s w4 (HT.out.low hL)).mono ?_
    rintro e w5 ⟨rfl, hB5⟩
    rw [← HX.out]
    replace hL := hL.trans hB5
    replace HK := Lib.hid (HK.out.below hB5 HK.out.lt)
    have cv1 := conv_bs (c := c3) (HB3.out.below' hB5 hB5.size)
    have cv2 := conv_bs (c := c4) (HB4.out.below' hB5 hB5.size)
    clear hB5 HB3 HB4 HX
    obtain ⟨q, hq⟩ : ∃ q, q = xs.length := ⟨_, rfl⟩
    rw [← hq] at cv1 cv2 ⊢
    have HQ := Lib.hid hq
    clear hq
    generalize strOfNums xs = sx at *
    go_wp2_with (with_reducible refine wpList_load_sr_g rfl (.tmp 1) rfl w.heap.size rfl s HK.out ?_)
    refine (srsize_any s w5 (HT.out.low hL)).mono ?_
    rintro e w6 ⟨rfl, hB6⟩
    rw [← HXS.out, ← HQ.out]
    replace hL := hL.trans hB6
    clear hB6 cv1 cv2 HK
    go_wp2_with fail
    refine (srlives_any _).mono ?_
    rintro e w7 ⟨rfl, hB7⟩
    replace hL := hL.trans hB7
    clear hB7
    go_wp2_with fail
    go_ret
    exact ⟨rfl, hL⟩
end Go.Proofs.Ytnfiijbnfmcpjaa
