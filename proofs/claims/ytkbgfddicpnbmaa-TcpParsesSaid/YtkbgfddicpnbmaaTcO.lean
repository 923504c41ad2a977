/- What the document's Same answers of two segments that say the same: true. Condition: at most 2^47 options, and as many bytes of payload. -/
import Derived.Test.YtkbgfddicpnbmaaTcA
import Derived.Test.YtkbgfddicpnbmaaTpM
import Derived.Test.YtkbgfddicpnbmaaOctL
namespace Go.Proofs.Ytkbgfddicpnbmaa
open Go.RowKit
set_option linter.unusedVariables false

set_option maxRecDepth 100000 in
set_option maxHeartbeats 1600000 in
theorem tcsame_eq (a b : Sg) (w : World) (ha : a.ok w w.heap.size) (hb : b.ok w w.heap.size) (h : a.v = b.v) :
    Calls Try.prog 15 #[segV a, segV b] w fun e w' => e = .returned (.bool true) ∧ Below w.heap.size w w' := by
  unfold segV
  obtain ⟨sp, dp, sq, ak, fl, wi, su, ur, oA, om, oc, os, pA, pm, pc, ps⟩ := a
  obtain ⟨sp', dp', sq', ak', fl', wi', su', ur', oA', om', oc', os', pA', pm', pc', ps'⟩ := b
  unfold Sg.v at h
  simp only [Sb.mk.injEq] at h
  obtain ⟨rfl, rfl, rfl, rfl, rfl, rfl, rfl, rfl, hos, rfl⟩ := h
  have HA := Lib.hid ha
  have HB := Lib.hid hb
  have HO := Lib.hid hos
  clear ha hb hos
  go_enter Try.func15, Try.ntmps15
  go_wp2_with (first
    | ((with_reducible refine wpList_box_seg rfl (.tmp 0) rfl ⟨sp, dp, sq, ak, fl, wi, su, ur, oA, om, oc, os, pA, pm, pc, ps⟩ rfl ?_); intro w1 HK1 hl1 hz1)
    | ((with_reducible refine wpList_box_seg rfl (.tmp 1) rfl ⟨sp, dp, sq, ak, fl, wi, su, ur, oA', om', oc', os', pA', pm', pc', ps⟩ rfl ?_); intro w2 HK2 hl2 hz2; refine Hid.out ?_))
  refine Lib.hid ?_
  rw [hz1] at HK2
  replace HK1 := HK1.below hl2 HK1.lt
  have hL : Low w w2 := hl1.trans hl2
  clear hl1 hl2 hz1 hz2
  obtain ⟨a0, a1, a2, a3, a4, a5, a6, a7, a8, a9⟩ := BlkS.cells HK1
  obtain ⟨b0, b1, b2, b3, b4, b5, b6, b7, b8, b9⟩ := BlkS.cells HK2
  dsimp only at a0 a1 a2 a3 a4 a5 a6 a7 a8 a9 b0 b1 b2 b3 b4 b5 b6 b7 b8 b9
  have HK := Lib.hid (And.intro HK1 HK2)
  clear HK1 HK2
  go_wp2_with fail
  refine (same_any oA oA' om oc om' oc' os os' w2 (by have := HA.out.om; dsimp only at this; omega) (by have := HB.out.om; dsimp only at this; omega) (HA.out.low hL).os (HB.out.low hL).os).mono ?_
  rintro e w3 ⟨rfl, hB3⟩
  rw [decide_eq_true HO.out]
  have hL3 := Low.trans hL hB3
  have d9 := (hB3.cell (p := ⟨w.heap.size, 9, none⟩) HK.out.1.lt).trans a9
  have e9 := (hB3.cell (p := ⟨w.heap.size + 1, 9, none⟩) HK.out.2.lt).trans b9
  have cv1 := conv_bs (c := pc) (HA.out.low hL3).ps
  have cv2 := conv_bs (c := pc') (HB.out.low hL3).ps
  dsimp only at cv1 cv2
  clear a0 a1 a2 a3 a4 a5 a6 a7 a8 a9 b0 b1 b2 b3 b4 b5 b6 b7 b8 b9 HK hL hB3
  generalize strOfNums ps = sx at *
  go_wp2_with fail
  go_ret
  exact ⟨rfl, hL3⟩
end Go.Proofs.Ytkbgfddicpnbmaa
