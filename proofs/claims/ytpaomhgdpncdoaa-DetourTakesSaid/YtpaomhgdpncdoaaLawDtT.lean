/- The walk of harrierlaw11.DetourTakes: it answers true. Condition: at most 2^47 - 4096 bytes. -/
import Derived.Test.YtpaomhgdpncdoaaDtL
import Derived.Test.YtpaomhgdpncdoaaDtT
import Derived.Test.YtpaomhgdpncdoaaJSrB
namespace Go.Proofs.Ytpaomhgdpncdoaa
open Go.RowKit
set_option linter.unusedVariables false

set_option maxRecDepth 100000 in
set_option maxHeartbeats 6400000 in
theorem dtt_walk (A : Option Addr) (n c : Nat) (xs : List Int) (w : World) (hn : n ≤ 140737488351232) (hc : n ≤ c) (hc2 : c ≤ 9223372036854775807) (hb : Bs w w.heap.size A n xs) :
    Calls Try.prog 3 #[.slice A n c] w fun e w' => e = .returned (.bool true) ∧ Low w w' := by
  have HB := Lib.hid hb
  clear hb
  obtain ⟨er, her⟩ : ∃ er, er = hdrE xs := ⟨_, rfl⟩
  obtain ⟨hn', hhn⟩ : ∃ q : Nat, q = hdrN xs := ⟨_, rfl⟩
  obtain ⟨ae, hae⟩ : ∃ q, q = advE xs := ⟨_, rfl⟩
  obtain ⟨rl, hrl⟩ : ∃ q, q = remL xs := ⟨_, rfl⟩
  obtain ⟨al, hal⟩ : ∃ q, q = advL xs := ⟨_, rfl⟩
  have HER := Lib.hid her
  have HHN := Lib.hid hhn
  have HAE := Lib.hid hae
  have HRL := Lib.hid hrl
  have HAL := Lib.hid hal
  clear her hhn hae hrl hal
  go_enter Try.func3, Try.ntmps3
  go_wp2_with fail
  refine (header_any A n c xs w (by omega) hc hc2 HB.out).mono ?_
  rintro e w1 ⟨s, rfl, hv, hk, hf, hL⟩
  rw [← HER.out, ← HHN.out]
  have HV := Lib.hid hv
  have HK := Lib.hid hk
  clear hv hk hf
  unfold srV
  go_wp2_with ((with_reducible refine wpList_alloc_sr rfl rfl ?_); intro w2 HZ hl2 hz2; refine Hid.out ?_)
  refine Lib.hid ?_
  replace HZ := Lib.hid HZ
  clear hz2
  go_wp2_with (refine wpList_store_sr rfl (.tmp 3) (.tmp 20) rfl w1.heap.size rfl s rfl zeroSr HZ.out ?_; intro w3 HG3 hb3 ho3 hz3; refine Hid.out ?_)
  refine Lib.hid ?_
  have hl3 : Low w1 w3 := Below.trans hl2 hb3
  replace HK := Lib.hid (HK.out.low hl3)
  replace hL : Low w w3 := hL.trans hl3
  replace HG3 := Lib.hid HG3
  clear hl2 hb3 ho3 hz3 HZ hl3
  generalize w1.heap.size = g3 at *
  go_wp2_with fail
  refine (rheader_any A n c xs w3 hn hc hc2 (HB.out.below' hL hL.size)).mono ?_
  rintro e w4 ⟨t, rfl, hv4, hk4, hf4, hl4⟩
  rw [← HER.out, ← HHN.out]
  have HSV := Lib.hid (show s.v = t.v from HV.out.trans hv4.symm)
  have HT := Lib.hid hk4
  replace HK := Lib.hid (HK.out.low hl4)
  replace HG3 := Lib.hid (HG3.out.below hl4 HG3.out.lt)
  replace hL := hL.trans hl4
  clear hv4 hk4 hf4 hl4 HV
  unfold srV
  go_wp2_with ((with_reducible refine wpList_alloc_sr rfl rfl ?_); intro w5 HZ hl5 hz5; refine Hid.out ?_)
  refine Lib.hid ?_
  replace HZ := Lib.hid HZ
  clear hz5
  go_wp2_with (refine wpList_store_sr rfl (.tmp 6) (.tmp 26) rfl w4.heap.size rfl t rfl zeroSr HZ.out ?_; intro w6 HG6 hb6 ho6 hz6; refine Hid.out ?_)
  refine Lib.hid ?_
  have hl6 : Low w4 w6 := Below.trans hl5 hb6
  replace HK := Lib.hid (HK.out.low hl6)
  replace HT := Lib.hid (HT.out.low hl6)
  replace HG3 := Lib.hid (HG3.out.below hl6 HG3.out.lt)
  replace hL : Low w w6 := hL.trans hl6
  replace HG6 := Lib.hid HG6
  clear hl5 hb6 ho6 hz6 HZ hl6
  generalize w4.heap.size = g6 at *
  go_wp2_with fail
  refine (remove_any A n c xs w6 (by omega) hc hc2 (HB.out.below' hL hL.size)).mono ?_
  rintro e w7 ⟨A7, c7, rfl, -, -, hb7, hB7⟩
  rw [← HER.out, ← HRL.out]
  rw [← HRL.out] at hb7
  have hl7 : Low w6 w7 := hB7
  replace HK := Lib.hid (HK.out.low hl7)
  replace HT := Lib.hid (HT.out.low hl7)
  replace HG3 := Lib.hid (HG3.out.below hl7 HG3.out.lt)
  replace HG6 := Lib.hid (HG6.out.below hl7 HG6.out.lt)
  replace hL := hL.trans hl7
  have HB7 := Lib.hid hb7
  clear hb7 hB7 hl7
  go_wp2_with fail
  refine (rremove_any A n c xs w7 hn hc hc2 (HB.out.below' hL hL.size)).mono ?_
  rintro e w8 ⟨A8, c8, rfl, -, -, hb8, hB8⟩
  rw [← HER.out, ← HRL.out]
  rw [← HRL.out] at hb8
  have hl8 : Low w7 w8 := hB8
  replace HK := Lib.hid (HK.out.low hl8)
  replace HT := Lib.hid (HT.out.low hl8)
  replace HG3 := Lib.hid (HG3.out.below hl8 HG3.out.lt)
  replace HG6 := Lib.hid (HG6.out.below hl8 HG6.out.lt)
  replace HB7 := Lib.hid (HB7.out.below' hl8 hl8.size)
  replace hL := hL.trans hl8
  have HB8 := Lib.hid hb8
  clear hb8 hB8 hl8
  go_wp2_with fail
  refine (advance_any A n c xs w8 (by omega) hc hc2 (HB.out.below' hL hL.size)).mono ?_
  rintro e w9 ⟨A9, c9, rfl, -, -, hb9, hB9⟩
  rw [← HAE.out, ← HAL.out]
  rw [← HAL.out] at hb9
  have hl9 : Low w8 w9 := hB9
  replace HK := Lib.hid (HK.out.low hl9)
  replace HT := Lib.hid (HT.out.low hl9)
  replace HG3 := Lib.hid (HG3.out.below hl9 HG3.out.lt)
  replace HG6 := Lib.hid (HG6.out.below hl9 HG6.out.lt)
  replace HB7 := Lib.hid (HB7.out.below' hl9 hl9.size)
  replace HB8 := Lib.hid (HB8.out.below' hl9 hl9.size)
  replace hL := hL.trans hl9
  have HB9 := Lib.hid hb9
  clear hb9 hB9 hl9
  go_wp2_with fail
  refine (radvance_any A n c xs w9 hn hc hc2 (HB.out.below' hL hL.size)).mono ?_
  rintro e w10 ⟨A10, c10, rfl, -, -, hb10, hB10⟩
  rw [← HAE.out, ← HAL.out]
  rw [← HAL.out] at hb10
  have hl10 : Low w9 w10 := hB10
  replace HK := Lib.hid (HK.out.low hl10)
  replace HT := Lib.hid (HT.out.low hl10)
  replace HG3 := Lib.hid (HG3.out.below hl10 HG3.out.lt)
  replace HG6 := Lib.hid (HG6.out.below hl10 HG6.out.lt)
  replace HB7 := Lib.hid (HB7.out.below' hl10 hl10.size)
  replace HB8 := Lib.hid (HB8.out.below' hl10 hl10.size)
  replace HB9 := Lib.hid (HB9.out.below' hl10 hl10.size)
  replace hL := hL.trans hl10
  have HB10 := Lib.hid hb10
  clear hb10 hB10 hl10 HER HHN HAE HRL HAL
  go_wp2_with (first
    | (with_reducible refine wpList_load_sr rfl (.tmp 3) rfl g3 rfl s HG3.out ?_)
    | (with_reducible refine wpList_load_sr rfl (.tmp 6) rfl g6 rfl t HG6.out ?_))
  refine (srsame_eq s t w10 HK.out HT.out HSV.out).mono ?_
  rintro e w11 ⟨rfl, hB11⟩
  have hl11 : Low w10 w11 := hB11
  replace hL := hL.trans hl11
  have cv7 := conv_bs (c := c7) (HB7.out.below' hl11 hl11.size)
  have cv8 := conv_bs (c := c8) (HB8.out.below' hl11 hl11.size)
  have cv9 := conv_bs (c := c9) (HB9.out.below' hl11 hl11.size)
  have cv10 := conv_bs (c := c10) (HB10.out.below' hl11 hl11.size)
  generalize rl.length = rlen at *
  generalize al.length = alen at *
  generalize strOfNums rl = sr at *
  generalize strOfNums al = sa at *
  clear hB11 hl11 HK HT HG3 HG6 HB7 HB8 HB9 HB10 HSV
  go_wp2_with fail
  refine (dlives_any w11).mono ?_
  rintro e w12 ⟨rfl, hl12⟩
  replace hL := hL.trans hl12
  clear cv7 cv8 cv9 cv10
  go_wp2_with fail
  go_ret
  exact ⟨rfl, hL⟩
end Go.Proofs.Ytpaomhgdpncdoaa
