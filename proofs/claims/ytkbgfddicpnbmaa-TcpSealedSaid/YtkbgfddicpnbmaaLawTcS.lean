/- The walk of harrierlaw07.TcpSealed: it answers true. Condition: at most 2^47 options, and as many bytes of payload. -/
import Derived.Test.YtkbgfddicpnbmaaTcO
import Derived.Test.YtkbgfddicpnbmaaTcQ
import Derived.Test.YtkbgfddicpnbmaaTcR
namespace Go.Proofs.Ytkbgfddicpnbmaa
open Go.RowKit
set_option linter.unusedVariables false

set_option maxRecDepth 100000 in
set_option maxHeartbeats 3200000 in
theorem tcp_sealed_walk (s d : List Int) (t : Sg) (w : World) (hs : s.length = 16) (hd : d.length = 16) (vs : AllB s) (vd : AllB d) (ht : t.ok w w.heap.size) :
    Calls Try.prog 7 #[.agg (cellsB (s ++ d)).toArray, segV t] w fun e w' => e = .returned (.bool true) ∧ Below w.heap.size w w' := by
  unfold segV
  have HT := Lib.hid ht
  have HS := Lib.hid hs
  have HD := Lib.hid hd
  have VS := Lib.hid vs
  have VD := Lib.hid vd
  have HE := Lib.hid (Blk.new w 36 (s ++ d))
  have hl0 := Low.alloc w (.cells (cellsB (s ++ d)).toArray 36)
  have hz0 : (w.alloc (.cells (cellsB (s ++ d)).toArray 36)).heap.size = w.heap.size + 1 := by simp
  clear ht hs hd vs vd
  go_enter Try.func7, Try.ntmps7
  go_wp2_with ((with_reducible refine wpList_box_seg rfl (.tmp 1) rfl t rfl ?_); intro w1 HK hl1 hz1; refine Hid.out ?_)
  refine Lib.hid ?_
  generalize w.alloc (.cells (cellsB (s ++ d)).toArray 36) = w0 at *
  rw [hz0] at HK hz1
  replace HE := Lib.hid (HE.out.below hl1 HE.out.lt)
  have hL : Low w w1 := hl0.trans hl1
  replace HK := Lib.hid HK
  clear hl0 hl1 hz0 hz1
  go_wp2_with (with_reducible refine wpList_load_seg rfl (.tmp 3) rfl (w.heap.size + 1) rfl t HK.out ?_)
  refine (small_any t w1 HT.out.om HT.out.pm).mono ?_
  rintro e w2 ⟨rfl, hB2⟩
  replace HE := Lib.hid (HE.out.below hB2 HE.out.lt)
  replace HK := Lib.hid (HK.out.below hB2 HK.out.lt)
  replace hL := hL.trans hB2
  clear hB2
  cases hsm : smallB t
  · go_wp2_with fail
    refine (tclives_any _).mono ?_
    rintro e w3 ⟨rfl, hB3⟩
    replace hL := hL.trans hB3
    clear hB3
    go_wp2_with fail
    go_ret
    exact ⟨rfl, hL⟩
  · go_wp2_with (first
      | (with_reducible refine wpList_load_half1 rfl (.tmp 13) rfl w.heap.size rfl _ s d HE.out HS.out ?_)
      | (with_reducible refine wpList_load_half2 rfl (.tmp 15) rfl w.heap.size rfl _ s d HE.out HS.out HD.out ?_)
      | (with_reducible refine wpList_load_seg rfl (.tmp 3) rfl (w.heap.size + 1) rfl t HK.out ?_))
    refine (tcseal_any s d t w2 HS.out HD.out VS.out VD.out (HT.out.low hL)).mono ?_
    rintro e w3 ⟨rfl, hB3⟩
    replace HE := Lib.hid (HE.out.below hB3 HE.out.lt)
    replace HK := Lib.hid (HK.out.below hB3 HK.out.lt)
    replace hL := hL.trans hB3
    clear hB3
    unfold segV
    have HSO := Lib.hid (sealG_ok (HT.out.low hL) s d)
    have HSD := Lib.hid (show sealG s d t = if canS t.v = 0 then { t with su := sumS s d t.v } else t from rfl)
    have HTO := Lib.hid (HT.out.low hL)
    obtain ⟨sg, hsg⟩ : ∃ sg, sg = sealG s d t := ⟨_, rfl⟩
    rw [← hsg] at HSO HSD ⊢
    clear hsg
    go_wp2_with ((with_reducible refine wpList_alloc_seg rfl rfl ?_); intro w4 HZ4 hl4 hz4; refine Hid.out ?_)
    refine Lib.hid ?_
    replace HZ4 := Lib.hid HZ4
    have hltE := HE.out.lt
    have hltK := HK.out.lt
    replace HE := Lib.hid (HE.out.below hl4 HE.out.lt)
    replace HK := Lib.hid (HK.out.below hl4 HK.out.lt)
    replace HSO := Lib.hid (HSO.out.below' hl4 (Nat.le_refl _))
    replace HTO := Lib.hid (HTO.out.below' hl4 (Nat.le_refl _))
    go_wp2_with ((refine wpList_store_seg rfl (.tmp 5) (.tmp 18) rfl w3.heap.size rfl sg rfl zeroS HZ4.out ?_); intro w5 HG hb5 hz5; refine Hid.out ?_)
    refine Lib.hid ?_
    replace HE := Lib.hid (HE.out.below hb5 hltE)
    replace HK := Lib.hid (HK.out.below hb5 hltK)
    replace HSO := Lib.hid (HSO.out.below' hb5 (show w3.heap.size ≤ w5.heap.size by omega))
    replace HTO := Lib.hid (HTO.out.below' hb5 (show w3.heap.size ≤ w5.heap.size by omega))
    replace HG := Lib.hid HG
    replace hL : Low w w5 := Below.trans hL ((Below.trans hl4 hb5).mono hL.size)
    clear HZ4 hl4 hb5 hz4 hz5 hltE hltK
    go_wp2_with (with_reducible refine wpList_load_seg rfl (.tmp 3) rfl (w.heap.size + 1) rfl t HK.out ?_)
    refine (tccan_any t w5 HTO.out).mono ?_
    rintro e w6 ⟨rfl, hB6⟩
    replace HE := Lib.hid (HE.out.below hB6 HE.out.lt)
    replace HK := Lib.hid (HK.out.below hB6 HK.out.lt)
    replace HG := Lib.hid (HG.out.below hB6 HG.out.lt)
    replace HSO := Lib.hid (HSO.out.low hB6)
    replace HTO := Lib.hid (HTO.out.low hB6)
    replace hL := hL.trans hB6
    clear hB6
    by_cases hcan : canS t.v = 0
    · rw [if_pos hcan] at HSD
      have hsr := sumS_range s d t.v
      have hsv : sg.v = { t.v with su := sumS s d t.v } := by rw [HSD.out]; rfl
      have hoa : ∀ o ∈ t.v.os, AllB o.2 := fun o ho => by
        obtain ⟨od, hod, rfl⟩ := List.mem_map.1 ho
        exact (HT.out.os.all od hod).2.2.all
      have HCS : Hid (canS sg.v = 0) := Lib.hid (by rw [hsv]; exact canS_su hcan _ hsr.1 hsr.2)
      have HFI : Hid (fineB s d 6 (putS sg.v) = true) := Lib.hid (by rw [hsv]; exact sealed_fine (x := t.v) VS.out VD.out hcan HT.out.ps.all hoa HT.out.sq HT.out.ak)
      clear hsv hoa
      have hlen := putS_len sg.v
      rw [hcan]
      clear hcan hsr
      go_wp2_with (with_reducible refine wpList_load_seg rfl (.tmp 5) rfl w3.heap.size rfl sg HG.out ?_)
      refine (tcput_any sg w6 HSO.out).mono ?_
      rintro e w7 ⟨A7, c7, rfl, hb7, -, hB7⟩
      rw [HCS.out]
      replace HE := Lib.hid (HE.out.below hB7 HE.out.lt)
      replace HK := Lib.hid (HK.out.below hB7 HK.out.lt)
      replace HG := Lib.hid (HG.out.below hB7 HG.out.lt)
      replace HTO := Lib.hid (HTO.out.low hB7)
      replace hL := hL.trans hB7
      have HB7 := Lib.hid hb7
      clear hB7 hb7 HSO HCS
      generalize putS sg.v = xs at *
      obtain ⟨q, hq⟩ : ∃ q, q = xs.length := ⟨_, rfl⟩
      rw [← hq] at hlen HB7 ⊢
      clear hq
      go_wp2_with (first
        | (with_reducible refine wpList_load_seg rfl (.tmp 5) rfl w3.heap.size rfl sg HG.out ?_)
        | ((with_reducible refine wpList_alloc_seg rfl rfl ?_); intro w8 HZ8 hl8 hz8; refine Hid.out ?_))
      refine Lib.hid ?_
      replace HZ8 := Lib.hid HZ8
      have hltE := HE.out.lt
      have hltK := HK.out.lt
      replace HE := Lib.hid (HE.out.below hl8 HE.out.lt)
      replace HK := Lib.hid (HK.out.below hl8 HK.out.lt)
      replace HTO := Lib.hid (HTO.out.below' hl8 (Nat.le_refl _))
      replace HB7 := Lib.hid (HB7.out.below' hl8 (Nat.le_refl _))
      go_wp2_with ((refine wpList_store_seg rfl (.tmp 8) (.tmp 33) rfl w7.heap.size rfl sg rfl zeroS HZ8.out ?_); intro w9 HX hb9 hz9; refine Hid.out ?_)
      refine Lib.hid ?_
      replace HE := Lib.hid (HE.out.below hb9 hltE)
      replace HK := Lib.hid (HK.out.below hb9 hltK)
      replace HTO := Lib.hid (HTO.out.below' hb9 (Nat.le_refl _))
      replace HB7 := Lib.hid (HB7.out.below' hb9 (Nat.le_refl _))
      replace hL : Low w w9 := Below.trans hL ((Below.trans hl8 hb9).mono hL.size)
      have hsz : w7.heap.size < w9.heap.size := by omega
      have f6 := HX.frozen 6
      have k6 := (BlkS.cells HX).2.2.2.2.2.2.1
      have c6 := (BlkS.cells HK.out).2.2.2.2.2.2.1
      have HXT : Hid (BlkS (w9.setCell ⟨w7.heap.size, 6, none⟩ (.int .i64 t.su)) w7.heap.size { sg with su := t.su }) := Lib.hid (HX.set_ 6 (.int .i64 t.su))
      have hne : w.heap.size + 1 ≠ w7.heap.size := Nat.ne_of_lt hltK
      have hneE : w.heap.size ≠ w7.heap.size := Nat.ne_of_lt hltE
      clear HZ8 hl8 hb9 hz8 hz9 HG
      replace HE : Hid (Blk (w9.setCell ⟨w7.heap.size, 6, none⟩ (.int .i64 t.su)) 36 w.heap.size (s ++ d)) := Lib.hid (HE.out.far (by exact hneE) _)
      go_wp2_with ((with_reducible refine wpList_load_half1_g rfl (.tmp 40) rfl w.heap.size rfl _ s d HE.out HS.out ?_); refine Hid.out ?_)
      refine Lib.hid ?_
      replace HK : Hid (BlkS (w9.setCell ⟨w7.heap.size, 6, none⟩ (.int .i64 t.su)) (w.heap.size + 1) t) := Lib.hid (HK.out.far (by exact hne) _)
      have hb10 : Below w7.heap.size w9 (w9.setCell ⟨w7.heap.size, 6, none⟩ (.int .i64 t.su)) := (Below.refl w7.heap.size w9).setCell (p := ⟨w7.heap.size, 6, none⟩) (Nat.le_refl _) (.int .i64 t.su)
      have hz10 : (w9.setCell ⟨w7.heap.size, 6, none⟩ (.int .i64 t.su)).heap.size = w9.heap.size := by simp
      replace HTO := Lib.hid (HTO.out.below' hb10 (show w7.heap.size ≤ (w9.setCell ⟨w7.heap.size, 6, none⟩ (.int .i64 t.su)).heap.size by omega))
      replace HB7 := Lib.hid (HB7.out.below' hb10 (show w7.heap.size ≤ (w9.setCell ⟨w7.heap.size, 6, none⟩ (.int .i64 t.su)).heap.size by omega))
      replace hL : Low w (w9.setCell ⟨w7.heap.size, 6, none⟩ (.int .i64 t.su)) := hL.setCell (by show w.heap.size ≤ w7.heap.size; omega) _
      clear hb10 hz10 f6 k6 c6 HX hne hneE hsz hltE hltK
      generalize w9.setCell ⟨w7.heap.size, 6, none⟩ (.int .i64 t.su) = w10 at *
      go_wp2_with (with_reducible refine wpList_load_half2_g rfl (.tmp 42) rfl w.heap.size rfl _ s d HE.out HS.out HD.out ?_)
      refine (tcfine_any s d A7 q c7 xs w10 HS.out HD.out VS.out VD.out (by omega) HB7.out).mono ?_
      rintro e w11 ⟨rfl, hB11⟩
      rw [HFI.out]
      replace HK := Lib.hid (HK.out.below hB11 HK.out.lt)
      replace HXT := Lib.hid (HXT.out.below hB11 HXT.out.lt)
      replace HTO := Lib.hid (HTO.out.low hB11)
      replace hL := hL.trans hB11
      clear hB11 HE HB7 HFI
      have HXO : Hid (Sg.ok w11 w11.heap.size { sg with su := t.su }) := Lib.hid (by rw [HSD.out]; exact HTO.out)
      have HXV : Hid (Sg.v { sg with su := t.su } = t.v) := Lib.hid (by rw [HSD.out])
      go_wp2_with (first
        | (with_reducible refine wpList_load_seg_g rfl (.tmp 8) rfl w7.heap.size rfl { sg with su := t.su } HXT.out ?_)
        | (with_reducible refine wpList_load_seg_g rfl (.tmp 3) rfl (w.heap.size + 1) rfl t HK.out ?_))
      refine (tcsame_eq { sg with su := t.su } t w11 HXO.out HTO.out HXV.out).mono ?_
      rintro e w12 ⟨rfl, hB12⟩
      replace hL := hL.trans hB12
      clear hB12 HXT HK
      go_wp2_with fail
      refine (tclives_any _).mono ?_
      rintro e w13 ⟨rfl, hB13⟩
      replace hL := hL.trans hB13
      clear hB13
      go_wp2_with fail
      go_ret
      exact ⟨rfl, hL⟩
    · rw [if_neg hcan] at HSD
      generalize canS t.v = x at *
      go_wp2_with (first
        | (with_reducible refine wpList_load_seg rfl (.tmp 5) rfl w3.heap.size rfl sg HG.out ?_)
        | (with_reducible refine wpList_load_seg rfl (.tmp 3) rfl (w.heap.size + 1) rfl t HK.out ?_))
      refine (tcsame_eq sg t w6 HSO.out HTO.out (by rw [HSD.out])).mono ?_
      rintro e w7 ⟨rfl, hB7⟩
      replace hL := hL.trans hB7
      clear hB7
      go_wp2_with fail
      refine (tclives_any _).mono ?_
      rintro e w8 ⟨rfl, hB8⟩
      replace hL := hL.trans hB8
      clear hB8
      go_wp2_with fail
      go_ret
      exact ⟨rfl, hL⟩
end Go.Proofs.Ytkbgfddicpnbmaa
