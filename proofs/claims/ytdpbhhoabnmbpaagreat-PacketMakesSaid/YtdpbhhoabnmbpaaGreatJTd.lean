/- Texts joined.
  What the document's Parse answers: the segment of bytes. Condition: at most 2^47 bytes.
  What the document's Same answers of two segments that say the same: true. Condition: at most 2^47 options, and as many bytes of payload.
  What tcp.Fine and tcp.Seal answer. Condition: addresses are 16 bytes; at most 2^47 options, and as many bytes of payload.
  What the laws' own small test of segments answers: true. No condition.
  A segment that was put is parsed as what it was; one that was sealed has its sum. No condition.
-/
import Derived.Test.YtdpbhhoabnmbpaaGreatJTc
import Derived.Test.YtdpbhhoabnmbpaaGreatJTp
import Derived.Test.YtdpbhhoabnmbpaaGreatJOct
import Derived.Test.YtdpbhhoabnmbpaaGreatJCk
set_option maxRecDepth 100000
namespace Go.Proofs.YtdpbhhoabnmbpaaGreat
open Go.RowKit
set_option linter.unusedVariables false

end Go.Proofs.YtdpbhhoabnmbpaaGreat

namespace Go.Proofs.YtdpbhhoabnmbpaaGreat
open Go.RowKit
set_option linter.unusedVariables false

set_option maxRecDepth 100000 in
set_option maxHeartbeats 1600000 in
theorem tcsame_eq (a b : Sg) (w : World) (ha : a.ok w w.heap.size) (hb : b.ok w w.heap.size) (h : a.v = b.v) :
    Calls Tryz.prog 18 #[segV a, segV b] w fun e w' => e = .returned (.bool true) ∧ Below w.heap.size w w' := by
  unfold segV
  obtain ⟨sp, dp, sq, ak, fl, wi, su, ur, oA, om, oc, os, pA, pm, pc, ps⟩ := a
  obtain ⟨sp', dp', sq', ak', fl', wi', su', ur', oA', om', oc', os', pA', pm', pc', ps'⟩ := b
  unfold Sg.v at h
  simp only [Sb.mk.injEq] at h
  obtain ⟨rfl, rfl, rfl, rfl, rfl, rfl, rfl, rfl, hos, rfl⟩ := h
  have HA := Lib.hid ha
  have HB := Lib.hid hb
  have HO := Lib.hid hos
  clear ha hb hos
  go_enter Tryz.func18, Tryz.ntmps18
  go_wp2_with (first
    | ((with_reducible refine wpList_box_seg rfl (.tmp 0) rfl ⟨sp, dp, sq, ak, fl, wi, su, ur, oA, om, oc, os, pA, pm, pc, ps⟩ rfl ?_); intro w1 HK1 hl1 hz1)
    | ((with_reducible refine wpList_box_seg rfl (.tmp 1) rfl ⟨sp, dp, sq, ak, fl, wi, su, ur, oA', om', oc', os', pA', pm', pc', ps⟩ rfl ?_); intro w2 HK2 hl2 hz2; refine Hid.out ?_))
  refine Lib.hid ?_
  rw [hz1] at HK2
  replace HK1 := HK1.below hl2 HK1.lt
  have hL : Low w w2 := hl1.trans hl2
  clear hl1 hl2 hz1 hz2
  obtain ⟨a0, a1, a2, a3, a4, a5, a6, a7, a8, a9⟩ := BlkS.cells HK1
  obtain ⟨b0, b1, b2, b3, b4, b5, b6, b7, b8, b9⟩ := BlkS.cells HK2
  dsimp only at a0 a1 a2 a3 a4 a5 a6 a7 a8 a9 b0 b1 b2 b3 b4 b5 b6 b7 b8 b9
  have HK := Lib.hid (And.intro HK1 HK2)
  clear HK1 HK2
  go_wp2_with fail
  refine (same_any oA oA' om oc om' oc' os os' w2 (by have := HA.out.om; dsimp only at this; omega) (by have := HB.out.om; dsimp only at this; omega) (HA.out.low hL).os (HB.out.low hL).os).mono ?_
  rintro e w3 ⟨rfl, hB3⟩
  rw [decide_eq_true HO.out]
  have hL3 := Low.trans hL hB3
  have d9 := (hB3.cell (p := ⟨w.heap.size, 9, none⟩) HK.out.1.lt).trans a9
  have e9 := (hB3.cell (p := ⟨w.heap.size + 1, 9, none⟩) HK.out.2.lt).trans b9
  have cv1 := conv_bs (c := pc) (HA.out.low hL3).ps
  have cv2 := conv_bs (c := pc') (HB.out.low hL3).ps
  dsimp only at cv1 cv2
  clear a0 a1 a2 a3 a4 a5 a6 a7 a8 a9 b0 b1 b2 b3 b4 b5 b6 b7 b8 b9 HK hL hB3
  generalize strOfNums ps = sx at *
  go_wp2_with fail
  go_ret
  exact ⟨rfl, hL3⟩
end Go.Proofs.YtdpbhhoabnmbpaaGreat

namespace Go.Proofs.YtdpbhhoabnmbpaaGreat
open Go.RowKit
set_option linter.unusedVariables false

set_option maxHeartbeats 800000 in
theorem tcfine_any (s d : List Int) (A : Option Addr) (n c : Nat) (xs : List Int) (w : World) (hs : s.length = 16) (hd : d.length = 16) (vs : AllB s) (vd : AllB d) (hn : n ≤ 140737488355328) (hb : Bs w w.heap.size A n xs) :
    Calls Tryz.prog 129 #[addrV s, addrV d, .slice A n c] w fun e w' => e = .returned (.bool (fineB s d 6 xs)) ∧ Below w.heap.size w w' := by
  unfold addrV
  have HS := Lib.hid hs
  have HD := Lib.hid hd
  have HB0 := Lib.hid (box_first w s d 24 24)
  have HB1 := Lib.hid (box_second w s d 24 24)
  have hL := low2 w s d 24 24
  have HB := Lib.hid (hb.below' hL hL.size)
  clear hs hd hb
  go_enter Tryz.func129, Tryz.ntmps129
  go_wp2_with (first
    | (with_reducible refine wpList_load_addr rfl (.tmp 3) rfl w.heap.size rfl _ s HB0.out HS.out ?_)
    | (with_reducible refine wpList_load_addr rfl (.tmp 4) rfl (w.heap.size + 1) rfl _ d HB1.out HD.out ?_))
  clear HB0 HB1
  generalize (w.alloc (.cells (cellsB s).toArray 24)).alloc (.cells (cellsB d).toArray 24) = w1 at *
  refine (fine_any s d 6 A n c xs w1 HS.out HD.out vs vd (by unfold i64ok; omega) hn HB.out).mono ?_
  rintro e w2 ⟨rfl, hl⟩
  replace hL := hL.trans hl
  clear hl
  obtain ⟨z, hz⟩ : ∃ z, z = fineB s d 6 xs := ⟨_, rfl⟩
  rw [← hz]
  have HZ := Lib.hid hz
  clear hz
  go_wp2
  go_ret
  exact ⟨by rw [← HZ.out]; rfl, hL⟩

/-- the sum that a segment is sealed with, and the segment then -/
def sumS (s d : List Int) (x : Sb) : Int := nt (chk s d 6 (putS { x with su := 0 }))
def sealG (s d : List Int) (t : Sg) : Sg := if canS t.v = 0 then { t with su := sumS s d t.v } else t
theorem canS_su {x : Sb} (h : canS x = 0) (z : Int) (h0 : 0 ≤ z) (h1 : z ≤ 65535) : canS { x with su := z } = 0 := by
  obtain ⟨hf, h2, h3⟩ := canS_zero h
  have hs := fitB_spec hf
  have hf2 : fitB { x with su := z } = true := by
    unfold fitB
    rw [decide_eq_true_iff]
    exact ⟨hs.1, hs.2.1, hs.2.2.1, ⟨h0, h1⟩, hs.2.2.2.2.1, hs.2.2.2.2.2⟩
  unfold canS
  rw [if_pos hf2]
  dsimp only
  rw [if_pos h2, if_neg (by omega)]
theorem headS_len (x : Sb) : (headS x).length = 20 := by simp [headS, two, four]
theorem putS_len (x : Sb) : (putS x).length ≤ 65535 := by
  unfold putS
  split
  · rename_i h
    obtain ⟨-, -, h3⟩ := canS_zero h
    rw [List.length_append, List.length_append, headS_len]
    omega
  · simp
theorem sumS_range (s d : List Int) (x : Sb) : 0 ≤ sumS s d x ∧ sumS s d x ≤ 65535 := by
  have := nt_range (chk s d 6 (putS { x with su := 0 }))
  unfold sumS
  omega
theorem sealG_ok {w : World} {B : Nat} {t : Sg} (h : t.ok w B) (s d : List Int) : (sealG s d t).ok w B := by
  unfold sealG
  split
  · have := sumS_range s d t.v
    exact ⟨h.sp, h.dp, h.sq, h.ak, h.fl, h.wi, by unfold i64ok; dsimp only; omega, h.ur, h.om, h.os, h.pm, h.ps⟩
  · exact h

set_option maxRecDepth 100000 in
set_option maxHeartbeats 1600000 in
theorem tcseal_any (s d : List Int) (t : Sg) (w : World) (hs : s.length = 16) (hd : d.length = 16) (vs : AllB s) (vd : AllB d) (ht : t.ok w w.heap.size) :
    Calls Tryz.prog 127 #[addrV s, addrV d, segV t] w fun e w' => e = .returned (segV (sealG s d t)) ∧ Below w.heap.size w w' := by
  unfold addrV segV
  have HT := Lib.hid ht
  have HS := Lib.hid hs
  have HD := Lib.hid hd
  have HB0 := Lib.hid (box_first w s d 24 24)
  have HB1 := Lib.hid (box_second w s d 24 24)
  have hL := low2 w s d 24 24
  have hz2 : ((w.alloc (.cells (cellsB s).toArray 24)).alloc (.cells (cellsB d).toArray 24)).heap.size = w.heap.size + 2 := by simp
  clear hs hd ht
  go_enter Tryz.func127, Tryz.ntmps127
  go_wp2_with (first
    | ((with_reducible refine wpList_box_seg rfl (.tmp 2) rfl t rfl ?_); intro w3 HK hl3 hz3)
    | ((with_reducible refine wpList_alloc_seg rfl rfl ?_); intro w4 HZ hl4 hz4; refine Hid.out ?_))
  refine Lib.hid ?_
  rw [hz2] at HK hz3
  rw [hz3] at HZ hz4
  have hl34 := hl3.trans hl4
  replace HB0 := Lib.hid (HB0.out.below hl34 HB0.out.lt)
  replace HB1 := Lib.hid (HB1.out.below hl34 HB1.out.lt)
  replace hL := hL.trans hl34
  replace HK := Lib.hid (HK.below hl4 HK.lt)
  replace HZ := Lib.hid HZ
  clear hl3 hl4 hl34 hz2 hz3 hz4
  go_wp2_with (with_reducible refine wpList_load_seg rfl (.tmp 5) rfl (w.heap.size + 2) rfl t HK.out ?_)
  refine (tccan_any t w4 (HT.out.low hL)).mono ?_
  rintro e w5 ⟨rfl, hB5⟩
  replace HB0 := Lib.hid (HB0.out.below hB5 HB0.out.lt)
  replace HB1 := Lib.hid (HB1.out.below hB5 HB1.out.lt)
  replace HK := Lib.hid (HK.out.below hB5 HK.out.lt)
  replace HZ := Lib.hid (HZ.out.below hB5 HZ.out.lt)
  replace hL := Low.trans hL hB5
  clear hB5
  by_cases hcan : canS t.v = 0
  · have HG := Lib.hid (show sealG s d t = { t with su := sumS s d t.v } by unfold sealG; rw [if_pos hcan])
    have HCZ := Lib.hid (canS_su hcan 0 (by omega) (by omega))
    rw [hcan]
    clear hcan
    have f6 := HK.out.frozen 6
    have c6 := (BlkS.cells HK.out).2.2.2.2.2.2.1
    have HK0 : Hid (BlkS (w5.setCell ⟨w.heap.size + 2, 6, none⟩ (.int .i64 0)) (w.heap.size + 2) { t with su := 0 }) := Lib.hid (HK.out.set_ 6 (.int .i64 0))
    replace HB0 : Hid (Blk (w5.setCell ⟨w.heap.size + 2, 6, none⟩ (.int .i64 0)) 24 w.heap.size s) := Lib.hid (HB0.out.far (by show w.heap.size ≠ w.heap.size + 2; omega) _)
    replace HB1 : Hid (Blk (w5.setCell ⟨w.heap.size + 2, 6, none⟩ (.int .i64 0)) 24 (w.heap.size + 1) d) := Lib.hid (HB1.out.far (by show w.heap.size + 1 ≠ w.heap.size + 2; omega) _)
    replace HZ : Hid (BlkS (w5.setCell ⟨w.heap.size + 2, 6, none⟩ (.int .i64 0)) (w.heap.size + 2 + 1) zeroS) := Lib.hid (HZ.out.far (by show w.heap.size + 2 + 1 ≠ w.heap.size + 2; omega) _)
    have hL6 : Low w (w5.setCell ⟨w.heap.size + 2, 6, none⟩ (.int .i64 0)) := hL.setCell (by show w.heap.size ≤ w.heap.size + 2; omega) _
    clear hL HK
    go_wp2_with (with_reducible refine wpList_load_seg rfl (.tmp 5) rfl (w.heap.size + 2) rfl { t with su := 0 } HK0.out (Hid.out ?_))
    refine Lib.hid ?_
    clear f6 c6
    generalize w5.setCell ⟨w.heap.size + 2, 6, none⟩ (.int .i64 0) = w6 at *
    go_wp2_with fail
    have hok0 : Sg.ok w6 w6.heap.size { t with su := 0 } := by
      have h := HT.out.low hL6
      exact ⟨h.sp, h.dp, h.sq, h.ak, h.fl, h.wi, by unfold i64ok; dsimp only; omega, h.ur, h.om, h.os, h.pm, h.ps⟩
    refine (tcput_any { t with su := 0 } w6 hok0).mono ?_
    rintro e w7 ⟨A7, c7, rfl, hb7, -, hB7⟩
    have hp7 := putS_len { t.v with su := 0 }
    have HSU := Lib.hid (show sumS s d t.v = nt (chk s d 6 (putS { t.v with su := 0 })) from rfl)
    change Bs w7 w7.heap.size A7 (putS { t.v with su := 0 }).length (putS { t.v with su := 0 }) at hb7
    change Hid (canS { t.v with su := 0 } = 0) at HCZ
    have hce : canS (Sg.v { t with su := 0 }) = 0 := HCZ.out
    rw [hce]
    replace hb7 : Bs w7 w7.heap.size A7 (putS (Sg.v { t with su := 0 })).length (putS (Sg.v { t with su := 0 })) := hb7
    replace hp7 : (putS (Sg.v { t with su := 0 })).length ≤ 65535 := hp7
    replace HSU : Hid (sumS s d t.v = nt (chk s d 6 (putS (Sg.v { t with su := 0 })))) := HSU
    generalize putS (Sg.v { t with su := 0 }) = xs at *
    replace HB0 := Lib.hid (HB0.out.below hB7 HB0.out.lt)
    replace HB1 := Lib.hid (HB1.out.below hB7 HB1.out.lt)
    replace HK0 := Lib.hid (HK0.out.below hB7 HK0.out.lt)
    replace HZ := Lib.hid (HZ.out.below hB7 HZ.out.lt)
    replace hL6 := Low.trans hL6 hB7
    have HB7 := Lib.hid hb7
    clear hb7 hB7 hok0 hce HCZ
    obtain ⟨q, hq⟩ : ∃ q, q = xs.length := ⟨_, rfl⟩
    rw [← hq] at hp7 HB7 ⊢
    clear hq
    go_wp2_with (first
      | (with_reducible refine wpList_load_addr rfl (.tmp 3) rfl w.heap.size rfl _ s HB0.out HS.out ?_)
      | (with_reducible refine wpList_load_addr rfl (.tmp 4) rfl (w.heap.size + 1) rfl _ d HB1.out HD.out ?_))
    refine (check_any s d 6 A7 q c7 xs w7 HS.out HD.out vs vd (by unfold i64ok; omega) (by omega) HB7.out).mono ?_
    rintro e w8 ⟨rfl, hB8⟩
    rw [← HSU.out]
    have hzr := sumS_range s d t.v
    obtain ⟨z, hz⟩ : ∃ z, z = sumS s d t.v := ⟨_, rfl⟩
    rw [← hz] at HG hzr ⊢
    replace HK0 := Lib.hid (HK0.out.below hB8 HK0.out.lt)
    replace HZ := Lib.hid (HZ.out.below hB8 HZ.out.lt)
    replace hL6 := Low.trans hL6 hB8
    clear hz hB8 HB7 HB0 HB1 HSU
    have f6 := HK0.out.frozen 6
    have c6 := (BlkS.cells HK0.out).2.2.2.2.2.2.1
    have HK9 : Hid (BlkS (w8.setCell ⟨w.heap.size + 2, 6, none⟩ (.int .i64 z)) (w.heap.size + 2) { t with su := z }) := Lib.hid (HK0.out.set_ 6 (.int .i64 z))
    replace HZ : Hid (BlkS (w8.setCell ⟨w.heap.size + 2, 6, none⟩ (.int .i64 z)) (w.heap.size + 2 + 1) zeroS) := Lib.hid (HZ.out.far (by show w.heap.size + 2 + 1 ≠ w.heap.size + 2; omega) _)
    have hL9 : Low w (w8.setCell ⟨w.heap.size + 2, 6, none⟩ (.int .i64 z)) := hL6.setCell (by show w.heap.size ≤ w.heap.size + 2; omega) _
    clear hL6 HK0
    go_wp2_with (with_reducible refine wpList_load_seg rfl (.tmp 5) rfl (w.heap.size + 2) rfl { t with su := z } HK9.out (Hid.out ?_))
    refine Lib.hid ?_
    clear f6 c6
    generalize w8.setCell ⟨w.heap.size + 2, 6, none⟩ (.int .i64 z) = w9 at *
    go_wp2_with ((refine wpList_store_seg rfl (.tmp 6) (.tmp 24) rfl (w.heap.size + 2 + 1) rfl { t with su := z } rfl zeroS HZ.out ?_); intro w10 HR hb10 hz10)
    refine bodyPost_ret (v := segV { t with su := z }) (results_cell_row Tryz.results127 _ _ (w.heap.size + 2 + 1) _ _ _ _ rfl HR Tryz.underlying34 rfl (by rw [seg_size]; rfl)) rfl ⟨by rw [HG.out]; rfl, Below.trans hL9 (hb10.mono (by omega))⟩
  · have HG := Lib.hid (show sealG s d t = t by unfold sealG; rw [if_neg hcan])
    generalize canS t.v = x at *
    go_wp2_with (first
      | (with_reducible refine wpList_load_seg rfl (.tmp 5) rfl (w.heap.size + 2) rfl t HK.out ?_)
      | ((refine wpList_store_seg rfl (.tmp 6) (.tmp 12) rfl (w.heap.size + 2 + 1) rfl t rfl zeroS HZ.out ?_); intro w6 HR hb6 hz6))
    refine bodyPost_ret (v := segV t) (results_cell_row Tryz.results127 _ _ (w.heap.size + 2 + 1) _ _ _ _ rfl HR Tryz.underlying34 rfl (by rw [seg_size]; rfl)) rfl ⟨by rw [HG.out]; rfl, Below.trans hL (hb6.mono (by omega))⟩
end Go.Proofs.YtdpbhhoabnmbpaaGreat

namespace Go.Proofs.YtdpbhhoabnmbpaaGreat
open Go.RowKit
set_option linter.unusedVariables false

end Go.Proofs.YtdpbhhoabnmbpaaGreat

namespace Go.Proofs.YtdpbhhoabnmbpaaGreat
open Go.RowKit
set_option linter.unusedVariables false

theorem two_num {x : Int} (h : 0 ≤ x ∧ x ≤ 65535) : x / 256 % 256 * 256 + x % 256 = x := by omega
theorem four_num {x : Int} (h : 0 ≤ x ∧ x < 4294967296) : x / 16777216 * 16777216 + x / 65536 % 256 * 65536 + x / 256 % 256 * 256 + x % 256 = x := by omega
/-- the bytes of a segment, one by one -/
theorem putS_lit {x : Sb} (h : canS x = 0) : putS x = x.sp / 256 % 256 :: x.sp % 256 :: x.dp / 256 % 256 :: x.dp % 256 :: x.sq / 16777216 :: x.sq / 65536 % 256 :: x.sq / 256 % 256 :: x.sq % 256 :: x.ak / 16777216 :: x.ak / 65536 % 256 :: x.ak / 256 % 256 :: x.ak % 256 ::
    (5 + ((putO x.os).length : Int) / 4) * 16 :: x.fl :: x.wi / 256 % 256 :: x.wi % 256 :: x.su / 256 % 256 :: x.su % 256 :: x.ur / 256 % 256 :: x.ur % 256 :: (putO x.os ++ x.ps) := by
  unfold putS
  rw [if_pos h, List.append_assoc]
  rfl
theorem parseSb_put {x : Sb} (h : canS x = 0) (hsq : 0 ≤ x.sq ∧ x.sq < 4294967296) (hak : 0 ≤ x.ak ∧ x.ak < 4294967296) : parseS (putS x) = (x, 0) := by
  obtain ⟨hf, hco, hl⟩ := canS_zero h
  obtain ⟨b1, b2, b3, b4, b5, b6⟩ := fitB_spec hf
  obtain ⟨hpp, hq40, hq4⟩ := parse_put hco
  have hlit := putS_lit h
  generalize hq : (putO x.os).length = q at *
  have hlen : (putS x).length = 20 + q + x.ps.length := by rw [hlit]; simp [hq]; omega
  have h12 : (putS x).getD 12 0 = (5 + (q : Int) / 4) * 16 := by rw [hlit]; rfl
  have ha : aheadS (putS x) = (20 + q, 0) := by
    unfold aheadS
    rw [h12, hlen, if_neg (by omega), if_neg (by omega), if_neg (by omega)]
    congr 1
    omega
  have hmid : ((putS x).take (20 + q)).drop 20 = putO x.os := by
    rw [hlit]
    have e : ∀ (l : List Int), List.take (20 + q) (x.sp / 256 % 256 :: x.sp % 256 :: x.dp / 256 % 256 :: x.dp % 256 :: x.sq / 16777216 :: x.sq / 65536 % 256 :: x.sq / 256 % 256 :: x.sq % 256 :: x.ak / 16777216 :: x.ak / 65536 % 256 :: x.ak / 256 % 256 :: x.ak % 256 ::
      (5 + (q : Int) / 4) * 16 :: x.fl :: x.wi / 256 % 256 :: x.wi % 256 :: x.su / 256 % 256 :: x.su % 256 :: x.ur / 256 % 256 :: x.ur % 256 :: l) = x.sp / 256 % 256 :: x.sp % 256 :: x.dp / 256 % 256 :: x.dp % 256 :: x.sq / 16777216 :: x.sq / 65536 % 256 :: x.sq / 256 % 256 :: x.sq % 256 :: x.ak / 16777216 :: x.ak / 65536 % 256 :: x.ak / 256 % 256 :: x.ak % 256 ::
      (5 + (q : Int) / 4) * 16 :: x.fl :: x.wi / 256 % 256 :: x.wi % 256 :: x.su / 256 % 256 :: x.su % 256 :: x.ur / 256 % 256 :: x.ur % 256 :: l.take q := fun l => by
      rw [show 20 + q = q + 20 by omega]
      simp only [List.take_succ_cons]
    rw [e, List.take_left' hq]
    rfl
  have hdr : (putS x).drop (20 + q) = x.ps := by
    rw [hlit, ← List.drop_drop]
    show List.drop q (putO x.os ++ x.ps) = x.ps
    rw [List.drop_left' hq]
  unfold parseS
  rw [ha]
  dsimp only
  rw [if_pos rfl, hmid, hpp]
  dsimp only
  rw [if_pos rfl]
  unfold segS
  rw [hdr]
  have n0 : num2 (putS x) 0 = x.sp := by rw [hlit]; exact two_num b1
  have n2 : num2 (putS x) 2 = x.dp := by rw [hlit]; exact two_num b2
  have n4 : num4 (putS x) 4 = x.sq := by rw [hlit]; exact four_num hsq
  have n8 : num4 (putS x) 8 = x.ak := by rw [hlit]; exact four_num hak
  have n13 : (putS x).getD 13 0 = x.fl := by rw [hlit]; rfl
  have n14 : num2 (putS x) 14 = x.wi := by rw [hlit]; exact two_num b3
  have n16 : num2 (putS x) 16 = x.su := by rw [hlit]; exact two_num b4
  have n18 : num2 (putS x) 18 = x.ur := by rw [hlit]; exact two_num b5
  rw [n0, n2, n4, n8, n13, n14, n16, n18]
theorem putS_all {x : Sb} (hps : AllB x.ps) (hos : ∀ o ∈ x.os, AllB o.2) (hsq : 0 ≤ x.sq ∧ x.sq < 4294967296) (hak : 0 ≤ x.ak ∧ x.ak < 4294967296) : AllB (putS x) := by
  unfold putS
  split
  · rename_i h
    obtain ⟨hf, hco, hl⟩ := canS_zero h
    obtain ⟨b1, b2, b3, b4, b5, b6⟩ := fitB_spec hf
    obtain ⟨-, hq40, hq4⟩ := parse_put hco
    unfold headS
    refine (AllB.append ?_ (putO_all hos)).append hps
    refine ((((((((two_all _).append (two_all _)).append (four_all _ hsq)).append (four_all _ hak)).append ?_).append (two_all _)).append (two_all _)).append (two_all _))
    exact .cons (by omega) (by omega) (.cons (by omega) (by omega) .nil)
  · exact AllB.nil
/-- the bytes with another sum -/
theorem putS_su {x : Sb} (h : canS x = 0) {z : Int} (h0 : 0 ≤ z) (h1 : z ≤ 65535) : putS { x with su := z } = ((putS { x with su := 0 }).set 16 (z / 256 % 256)).set 17 (z % 256) := by
  rw [putS_lit (canS_su h z h0 h1), putS_lit (canS_su h 0 (by omega) (by omega))]
  rfl
theorem sealed_fine {s d : List Int} (vs : AllB s) (vd : AllB d) {x : Sb} (h : canS x = 0) (hps : AllB x.ps) (hos : ∀ o ∈ x.os, AllB o.2) (hsq : 0 ≤ x.sq ∧ x.sq < 4294967296) (hak : 0 ≤ x.ak ∧ x.ak < 4294967296) :
    fineB s d 6 (putS { x with su := sumS s d x }) = true := by
  have hr := sumS_range s d x
  rw [putS_su h hr.1 hr.2]
  have hc := canS_su h 0 (by omega) (by omega)
  have hl : 18 ≤ (putS { x with su := 0 }).length := by rw [putS_lit hc]; simp
  have g16 : (putS { x with su := 0 }).getD 16 0 = 0 := by rw [putS_lit hc]; rfl
  have g17 : (putS { x with su := 0 }).getD 17 0 = 0 := by rw [putS_lit hc]; rfl
  exact fine_law vs vd (putS_all (x := { x with su := 0 }) hps hos hsq hak) 6 16 hl rfl g16 g17
end Go.Proofs.YtdpbhhoabnmbpaaGreat
