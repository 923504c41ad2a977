/- The walk of harrierlaw07.TcpBack: it answers true. Condition: at most 2^47 options, and as many bytes of payload. -/
import Derived.Test.YtkbgfddicpnbmaaTcO
import Derived.Test.YtkbgfddicpnbmaaTcQ
import Derived.Test.YtkbgfddicpnbmaaTcR
namespace Go.Proofs.Ytkbgfddicpnbmaa
open Go.RowKit
set_option linter.unusedVariables false

set_option maxRecDepth 100000 in
set_option maxHeartbeats 1600000 in
theorem tcp_back_walk (t : Sg) (w : World) (ht : t.ok w w.heap.size) :
    Calls Try.prog 6 #[segV t] w fun e w' => e = .returned (.bool true) ∧ Below w.heap.size w w' := by
  unfold segV
  have HT := Lib.hid ht
  clear ht
  go_enter Try.func6, Try.ntmps6
  go_wp2_with ((with_reducible refine wpList_box_seg rfl (.tmp 0) rfl t rfl ?_); intro w1 HK hL hz1; refine Hid.out ?_)
  refine Lib.hid ?_
  replace HK := Lib.hid HK
  clear hz1
  go_wp2_with (with_reducible refine wpList_load_seg rfl (.tmp 1) rfl w.heap.size rfl t HK.out ?_)
  refine (small_any t w1 HT.out.om HT.out.pm).mono ?_
  rintro e w2 ⟨rfl, hB2⟩
  replace HK := Lib.hid (HK.out.below hB2 HK.out.lt)
  replace hL := hL.trans hB2
  clear hB2
  cases hsm : smallB t
  · go_wp2_with fail
    refine (tclives_any _).mono ?_
    rintro e w3 ⟨rfl, hB3⟩
    replace hL := hL.trans hB3
    clear hB3
    go_wp2_with fail
    go_ret
    exact ⟨rfl, hL⟩
  · go_wp2_with (with_reducible refine wpList_load_seg_g rfl (.tmp 1) rfl w.heap.size rfl t HK.out ?_)
    refine (tccan_any t w2 (HT.out.low hL)).mono ?_
    rintro e w3 ⟨rfl, hB3⟩
    replace HK := Lib.hid (HK.out.below hB3 HK.out.lt)
    replace hL := hL.trans hB3
    clear hB3
    by_cases hcan : canS t.v = 0
    · have HP := Lib.hid (parseS_put hcan HT.out)
      have HCAN := Lib.hid hcan
      have hlen := putS_len t.v
      rw [hcan]
      clear hcan
      go_wp2_with (with_reducible refine wpList_load_seg rfl (.tmp 1) rfl w.heap.size rfl t HK.out ?_)
      refine (tcput_any t w3 (HT.out.low hL)).mono ?_
      rintro e w4 ⟨A4, c4, rfl, hb4, hc4, hB4⟩
      rw [HCAN.out]
      replace HK := Lib.hid (HK.out.below hB4 HK.out.lt)
      replace hL := hL.trans hB4
      have HB4 := Lib.hid hb4
      clear hB4 hb4
      generalize putS t.v = xs at *
      obtain ⟨q, hq⟩ : ∃ q, q = xs.length := ⟨_, rfl⟩
      rw [← hq] at hlen hc4 HB4 ⊢
      clear hq
      go_wp2_with fail
      refine (tcparse_any A4 q c4 xs w4 (by omega) hc4.1 hc4.2 HB4.out).mono ?_
      rintro e w5 ⟨t5, rfl, hv5, hk5, hB5⟩
      rw [HP.out] at hv5 ⊢
      dsimp only at hv5 ⊢
      replace HK := Lib.hid (HK.out.below hB5 HK.out.lt)
      replace hL := hL.trans hB5
      have HV5 := Lib.hid hv5
      have HK5 := Lib.hid hk5
      clear hB5 hv5 hk5 HB4
      unfold segV
      go_wp2_with ((with_reducible refine wpList_alloc_seg rfl rfl ?_); intro w6 HZ6 hl6 hz6; refine Hid.out ?_)
      refine Lib.hid ?_
      replace HZ6 := Lib.hid HZ6
      have hlt5 := HK.out.lt
      replace HK := Lib.hid (HK.out.below hl6 HK.out.lt)
      replace HK5 := Lib.hid (HK5.out.below' hl6 (Nat.le_refl _))
      go_wp2_with ((refine wpList_store_seg rfl (.tmp 5) (.tmp 24) rfl w5.heap.size rfl t5 rfl zeroS HZ6.out ?_); intro w7 HG7 hb7 hz7; refine Hid.out ?_)
      refine Lib.hid ?_
      replace HK := Lib.hid (HK.out.below hb7 hlt5)
      replace HK5 := Lib.hid (HK5.out.below' hb7 (show w5.heap.size ≤ w7.heap.size by omega))
      replace HG7 := Lib.hid HG7
      replace hL : Low w w7 := Below.trans hL ((Below.trans hl6 hb7).mono hL.size)
      clear HZ6 hl6 hb7 hz6 hz7 hlt5
      go_wp2_with (first
        | (with_reducible refine wpList_load_seg_g rfl (.tmp 5) rfl w5.heap.size rfl t5 HG7.out ?_)
        | (with_reducible refine wpList_load_seg_g rfl (.tmp 1) rfl w.heap.size rfl t HK.out ?_))
      refine (tcsame_eq t5 t w7 HK5.out (HT.out.low hL) HV5.out).mono ?_
      rintro e w8 ⟨rfl, hB8⟩
      replace hL := hL.trans hB8
      clear hB8 HK HG7
      go_wp2_with fail
      refine (tclives_any _).mono ?_
      rintro e w9 ⟨rfl, hB9⟩
      replace hL := hL.trans hB9
      clear hB9
      go_wp2_with fail
      go_ret
      exact ⟨rfl, hL⟩
    · have hcb : (canS t.v != 0) = true := by simpa using hcan
      generalize canS t.v = x at *
      clear hcan
      go_wp2_with fail
      refine (tclives_any _).mono ?_
      rintro e w4 ⟨rfl, hB4⟩
      replace hL := hL.trans hB4
      clear hB4
      go_wp2_with fail
      go_ret
      exact ⟨rfl, hL⟩
end Go.Proofs.Ytkbgfddicpnbmaa
