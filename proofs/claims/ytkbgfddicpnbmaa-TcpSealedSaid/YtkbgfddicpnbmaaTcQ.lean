/- What the laws' own small test of segments answers: true. No condition. -/
import Derived.Test.YtkbgfddicpnbmaaTcC
import Derived.Test.YtkbgfddicpnbmaaTcG
import Derived.Test.YtkbgfddicpnbmaaTcL
namespace Go.Proofs.Ytkbgfddicpnbmaa
open Go.RowKit
set_option linter.unusedVariables false

def exSb : Sb := ⟨1, 2, 7, 0, 2, 0, 0, 0, [], [1, 2]⟩
theorem exS_can : canS exSb = 0 := by decide
theorem exS_len : (putS exSb).length = 22 := by decide
theorem exS_short {xs : List Int} (h : xs.length = 19) : parseS xs = (zeroSb, 3) := by
  have ha : aheadS xs = (0, 3) := by unfold aheadS; rw [if_pos (by omega)]
  unfold parseS
  rw [ha]
  rfl
theorem exS_has1 : hasB 2 1 = false := by decide +kernel
theorem exS_has2 : hasB 2 2 = true := by decide +kernel
theorem exS_has4 : hasB 2 4 = false := by decide +kernel
theorem exS_has16 : hasB 2 16 = false := by decide +kernel

set_option maxRecDepth 100000 in
set_option maxHeartbeats 1600000 in
theorem tclives_any (w : World) : Calls Try.prog 9 #[] w fun e w' => e = .returned (.bool true) ∧ Below w.heap.size w w' := by
  have hk0 : Blk (w.alloc (.cells #[.int .u8 1, .int .u8 2] 5)) 5 w.heap.size [1, 2] := Blk.new w 5 [1, 2]
  have hl0 := Low.alloc w (.cells #[.int .u8 1, .int .u8 2] 5)
  have hz0 : (w.alloc (.cells #[.int .u8 1, .int .u8 2] 5)).heap.size = w.heap.size + 1 := by simp
  have ha : AllB [1, 2] := .cons (by omega) (by omega) (.cons (by omega) (by omega) .nil)
  have hok : Sg.ok (w.alloc (.cells #[.int .u8 1, .int .u8 2] 5)) (w.alloc (.cells #[.int .u8 1, .int .u8 2] 5)).heap.size ⟨1, 2, 7, 0, 2, 0, 0, 0, none, 0, 0, [], some ⟨w.heap.size, 0, none⟩, 2, 2, [1, 2]⟩ :=
    ⟨by simp [i64ok], by simp [i64ok], by simp, by simp, by simp [i64ok], by simp [i64ok], by simp [i64ok], by simp [i64ok], by simp, Os.nil _ _ _, by simp, hk0.bs ha hk0.lt rfl⟩
  have HOK := Lib.hid hok
  clear hok hk0 ha
  go_enter Try.func9, Try.ntmps9
  go_wp2_with ((with_reducible refine wpList_alloc_seg rfl rfl ?_); intro w1 HZ hl1 hz1; refine Hid.out ?_)
  refine Lib.hid ?_
  generalize w.alloc (.cells #[.int .u8 1, .int .u8 2] 5) = w0 at *
  replace HOK := Lib.hid (HOK.out.below' hl1 (Nat.le_refl _))
  rw [hz0] at HZ hz1 HOK
  replace HZ := Lib.hid HZ
  replace hl1 := hl0.trans hl1
  clear hl0 hz0
  obtain ⟨t, ht⟩ : ∃ t : Sg, t = ⟨1, 2, 7, 0, 2, 0, 0, 0, none, 0, 0, [], some ⟨w.heap.size, 0, none⟩, 2, 2, [1, 2]⟩ := ⟨_, rfl⟩
  have HTE := Lib.hid ht
  rw [← ht] at HOK
  have HSV := Lib.hid (show .agg (segC t).toArray = Value.agg #[.int .i64 1, .int .i64 2, .int .u32 7, .int .u32 0, .int .i64 2, .int .i64 0, .int .i64 0, .int .i64 0, .slice none 0 0, .slice (some ⟨w.heap.size, 0, none⟩) 2 2] by rw [ht]; rfl)
  have HV := Lib.hid (show t.v = exSb by rw [ht]; rfl)
  have hfl : t.fl = 2 := by rw [ht]
  have hpm : t.pm = 2 := by rw [ht]
  have HFL := Lib.hid hfl
  have HPM := Lib.hid hpm
  clear ht hfl hpm
  go_wp2_with ((refine wpList_store_seg rfl (.tmp 1) (.tmp 7) rfl (w.heap.size + 1) rfl t HSV.out.symm zeroS HZ.out ?_); intro w2 HK hb2 hz2; refine Hid.out ?_)
  refine Lib.hid ?_
  replace HOK : Hid (t.ok w2 w2.heap.size) := Lib.hid (HOK.out.below' hb2 (by omega))
  replace hl1 : Low w w2 := Below.trans hl1 (hb2.mono (by omega))
  replace HK := Lib.hid HK
  clear HZ HSV hz1 hz2 hb2 HTE
  go_wp2_with (with_reducible refine wpList_load_seg rfl (.tmp 1) rfl (w.heap.size + 1) rfl t HK.out ?_)
  refine (tcput_any t w2 HOK.out).mono ?_
  rintro e w3 ⟨A3, c3, rfl, hb3, hc3, hB3⟩
  rw [HV.out] at hb3 hc3 ⊢
  have hxl := exS_len
  rw [exS_can]
  generalize putS exSb = xs at *
  rw [hxl] at hb3 hc3 ⊢
  obtain ⟨b, o, rfl, hbl, -⟩ := hb3.mem (by omega)
  have HB19 : Hid (Bs w3 w3.heap.size (some ⟨b, o, none⟩) 19 (xs.take 19)) := Lib.hid (by simpa using hb3.mid (s := 0) (m := 19) (by omega) (by omega))
  have HX19 := Lib.hid (exS_short (xs := xs.take 19) (by rw [List.length_take]; omega))
  replace HK := Lib.hid (HK.out.below hB3 HK.out.lt)
  replace hl1 := hl1.trans hB3
  have hc19 : (19 : Int) ≤ c3 := by omega
  clear hb3 hB3 hxl HOK
  go_wp2_with fail
  refine (tcparse_any (some ⟨b, o, none⟩) 19 c3 (xs.take 19) w3 (by omega) (by omega) hc3.2 HB19.out).mono ?_
  rintro e w4 ⟨t4, rfl, -, -, hB4⟩
  rw [HX19.out]
  replace HK := Lib.hid (HK.out.below hB4 HK.out.lt)
  replace hl1 := hl1.trans hB4
  clear hB4 HX19 HB19
  unfold segV
  go_wp2_with ((with_reducible refine wpList_alloc_seg rfl rfl ?_); intro w5 HZ5 hl5 hz5; refine Hid.out ?_)
  refine Lib.hid ?_
  replace HZ5 := Lib.hid HZ5
  have hlt4 := HK.out.lt
  replace HK := Lib.hid (HK.out.below hl5 HK.out.lt)
  go_wp2_with ((refine wpList_store_seg rfl (.tmp 4) (.tmp 20) rfl w4.heap.size rfl t4 rfl zeroS HZ5.out ?_); intro w6 HG6 hb6 hz6; refine Hid.out ?_)
  refine Lib.hid ?_
  replace HK := Lib.hid (HK.out.below hb6 hlt4)
  replace hl1 : Low w w6 := Below.trans hl1 ((Below.trans hl5 hb6).mono hl1.size)
  clear HG6 HZ5 hl5 hb6 hz5 hz6 hlt4
  go_wp2_with (with_reducible refine wpList_load_seg_g rfl (.tmp 1) rfl (w.heap.size + 1) rfl t HK.out ?_)
  refine (span_any t w6 (by rw [HPM.out]; omega)).mono ?_
  rintro e w7 ⟨rfl, hB7⟩
  rw [show spanV t = 3 by unfold spanV; rw [HFL.out, HPM.out, exS_has1, exS_has2]; rfl]
  replace HK := Lib.hid (HK.out.below hB7 HK.out.lt)
  replace hl1 := hl1.trans hB7
  clear hB7
  go_wp2_with (with_reducible refine wpList_load_seg_g rfl (.tmp 1) rfl (w.heap.size + 1) rfl t HK.out ?_)
  refine (first_any t w7).mono ?_
  rintro e w8 ⟨rfl, hB8⟩
  rw [show firstV t = true by unfold firstV; rw [HFL.out, exS_has1, exS_has2, exS_has4, exS_has16]; rfl]
  replace HK := Lib.hid (HK.out.below hB8 HK.out.lt)
  replace hl1 := hl1.trans hB8
  clear hB8
  go_wp2_with (with_reducible refine wpList_load_seg_g rfl (.tmp 1) rfl (w.heap.size + 1) rfl t HK.out ?_)
  refine (thas_any t 16 w8).mono ?_
  rintro e w9 ⟨rfl, hB9⟩
  rw [HFL.out, exS_has16]
  replace hl1 := hl1.trans hB9
  clear hB9 HK
  go_wp2_with fail
  go_ret
  exact ⟨rfl, hl1⟩
end Go.Proofs.Ytkbgfddicpnbmaa
