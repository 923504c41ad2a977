/- The walk of harrierlaw07.TcpPuts: it answers true. Condition: at most 2^47 options, and as many bytes of payload. -/
import Derived.Test.YtkbgfddicpnbmaaTcH
import Derived.Test.YtkbgfddicpnbmaaTcQ
namespace Go.Proofs.Ytkbgfddicpnbmaa
open Go.RowKit
set_option linter.unusedVariables false

set_option maxRecDepth 100000 in
set_option maxHeartbeats 1600000 in
theorem tcp_puts_walk (t : Sg) (w : World) (ht : t.ok w w.heap.size) :
    Calls Try.prog 3 #[segV t] w fun e w' => e = .returned (.bool true) ∧ Below w.heap.size w w' := by
  unfold segV
  have HT := Lib.hid ht
  clear ht
  go_enter Try.func3, Try.ntmps3
  go_wp2_with ((with_reducible refine wpList_box_seg rfl (.tmp 0) rfl t rfl ?_); intro w1 HK hL hz1; refine Hid.out ?_)
  refine Lib.hid ?_
  replace HK := Lib.hid HK
  clear hz1
  go_wp2_with (with_reducible refine wpList_load_seg rfl (.tmp 1) rfl w.heap.size rfl t HK.out ?_)
  refine (small_any t w1 HT.out.om HT.out.pm).mono ?_
  rintro e w2 ⟨rfl, hB2⟩
  replace HK := Lib.hid (HK.out.below hB2 HK.out.lt)
  replace hL := hL.trans hB2
  clear hB2
  cases hsm : smallB t
  · go_wp2_with fail
    refine (tclives_any _).mono ?_
    rintro e w3 ⟨rfl, hB3⟩
    replace hL := hL.trans hB3
    clear hB3
    go_wp2_with fail
    go_ret
    exact ⟨rfl, hL⟩
  · go_wp2_with (with_reducible refine wpList_load_seg rfl (.tmp 1) rfl w.heap.size rfl t HK.out ?_)
    refine (tcput_any t w2 (HT.out.low hL)).mono ?_
    rintro e w3 ⟨A3, c3, rfl, hb3, -, hB3⟩
    replace HK := Lib.hid (HK.out.below hB3 HK.out.lt)
    replace hL := hL.trans hB3
    have HB3 := Lib.hid hb3
    clear hB3 hb3
    obtain ⟨x, hx⟩ : ∃ x, x = canS t.v := ⟨_, rfl⟩
    obtain ⟨xs, hxs⟩ : ∃ xs, xs = putS t.v := ⟨_, rfl⟩
    have HX := Lib.hid hx
    have HXS := Lib.hid hxs
    rw [← hxs] at HB3 ⊢
    rw [← hx]
    clear hx hxs
    go_wp2_with (with_reducible refine wpList_load_seg rfl (.tmp 1) rfl w.heap.size rfl t HK.out ?_)
    refine (trcput_any t w3 (HT.out.low hL)).mono ?_
    rintro e w4 ⟨A4, c4, rfl, hb4, -, hB4⟩
    rw [← HXS.out] at hb4 ⊢
    rw [← HX.out]
    replace HK := Lib.hid (HK.out.below hB4 HK.out.lt)
    replace hL := hL.trans hB4
    replace HB3 := Lib.hid (HB3.out.below' hB4 hB4.size)
    have HB4 := Lib.hid hb4
    clear hB4 hb4
    go_wp2_with (with_reducible refine wpList_load_seg rfl (.tmp 1) rfl w.heap.size rfl t HK.out ?_)
    refine (tccan_any t w4 (HT.out.low hL)).mono ?_
    rintro e w5 ⟨rfl, hB5⟩
    rw [← HX.out]
    replace hL := hL.trans hB5
    have cv1 := conv_bs (c := c3) (HB3.out.below' hB5 hB5.size)
    have cv2 := conv_bs (c := c4) (HB4.out.below' hB5 hB5.size)
    clear hB5 HB3 HB4 HK HXS HX
    generalize strOfNums xs = sx at *
    generalize xs.length = q at *
    go_wp2_with fail
    refine (tclives_any _).mono ?_
    rintro e w6 ⟨rfl, hB6⟩
    replace hL := hL.trans hB6
    clear hB6
    go_wp2_with fail
    go_ret
    exact ⟨rfl, hL⟩
end Go.Proofs.Ytkbgfddicpnbmaa
