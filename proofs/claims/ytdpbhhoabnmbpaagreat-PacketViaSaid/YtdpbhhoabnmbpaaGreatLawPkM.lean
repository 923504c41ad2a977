/- The walk of harrierlaw13.PacketMakes: it answers true, where the program's own functions tell what the page says. Conditions: these; the addresses are 16 bytes. -/
import Derived.Test.YtdpbhhoabnmbpaaGreatLawPkP
set_option maxRecDepth 100000
namespace Go.Proofs.YtdpbhhoabnmbpaaGreat
open Go.RowKit
set_option linter.unusedVariables false

set_option maxRecDepth 100000 in
set_option maxHeartbeats 3200000 in
theorem pkm_walk (hT : PktTcps) (hI : PktIcmps) (hP : PktParses) (hR : PktReasons) (s d : List Int) (t : Sg) (m : Mg) (w : World) (hs : s.length = 16) (hd : d.length = 16) (vs : AllB s) (vd : AllB d) (ht : t.ok w w.heap.size) (hm : m.ok w w.heap.size) :
    Calls Tryz.prog 4 #[.agg (cellsB (s ++ d)).toArray, segV t, msgV m] w fun e w' => e = .returned (.bool true) ∧ Below w.heap.size w w' := by
  unfold msgV segV
  have HT := Lib.hid hT
  have HI := Lib.hid hI
  have HP := Lib.hid hP
  have HR := Lib.hid hR
  have HG := Lib.hid ht
  have HM := Lib.hid hm
  have HS := Lib.hid hs
  have HD := Lib.hid hd
  have VS := Lib.hid vs
  have VD := Lib.hid vd
  have HE := Lib.hid (Blk.new w 51 (s ++ d))
  have hl0 := Low.alloc w (.cells (cellsB (s ++ d)).toArray 51)
  have hz0 : (w.alloc (.cells (cellsB (s ++ d)).toArray 51)).heap.size = w.heap.size + 1 := by simp
  clear hT hI hP hR ht hm hs hd vs vd
  go_enter Tryz.func4, Tryz.ntmps4
  go_wp2_with (first
    | ((with_reducible refine wpList_box_seg rfl (.tmp 1) rfl t rfl ?_); intro w1 HK hl1 hz1)
    | ((with_reducible refine wpList_box_msg rfl (.tmp 2) rfl m rfl ?_); intro w2 HL hl2 hz2; refine Hid.out ?_))
  refine Lib.hid ?_
  generalize w.alloc (.cells (cellsB (s ++ d)).toArray 51) = w0 at *
  rw [hz0] at HK hz1
  rw [hz1] at HL
  rw [hz0] at *
  replace HE := Lib.hid (HE.out.below (hl1.trans hl2) HE.out.lt)
  replace HK := HK.below hl2 HK.lt
  have hL : Low w w2 := hl0.trans (hl1.trans hl2)
  clear hl0 hl1 hl2 hz0 hz1 hz2
  obtain ⟨-, -, -, -, -, -, -, -, c8, c9⟩ := BlkS.cells HK
  obtain ⟨d0, -, -, d3⟩ := BlkM.cells HL
  replace HK := Lib.hid HK
  replace HL := Lib.hid HL
  by_cases h1 : 60 < t.om
  · have q1 : (60 : Int) < t.om := by omega
    clear HE HG HM HI
    go_wp2_with fail
    refine (pklives_any HT.out HP.out HR.out _).mono ?_
    rintro e w3 ⟨rfl, hB3⟩
    replace hL := hL.trans hB3
    clear hB3
    go_wp2_with fail
    go_ret
    exact ⟨rfl, hL⟩
  have q1 : ¬ (60 : Int) < t.om := by omega
  by_cases h2 : 3000 < t.pm
  · have q2 : (3000 : Int) < t.pm := by omega
    clear HE HG HM HI
    go_wp2_with fail
    refine (pklives_any HT.out HP.out HR.out _).mono ?_
    rintro e w3 ⟨rfl, hB3⟩
    replace hL := hL.trans hB3
    clear hB3
    go_wp2_with fail
    go_ret
    exact ⟨rfl, hL⟩
  have q2 : ¬ (3000 : Int) < t.pm := by omega
  by_cases h3 : 3000 < m.bm
  · have q3 : (3000 : Int) < m.bm := by omega
    clear HE HG HM HI
    go_wp2_with fail
    refine (pklives_any HT.out HP.out HR.out _).mono ?_
    rintro e w3 ⟨rfl, hB3⟩
    replace hL := hL.trans hB3
    clear hB3
    go_wp2_with fail
    go_ret
    exact ⟨rfl, hL⟩
  have q3 : ¬ (3000 : Int) < m.bm := by omega
  have HN1 := Lib.hid h1
  have HN2 := Lib.hid h2
  have HN3 := Lib.hid h3
  clear h1 h2 h3
  go_wp2_with (first
    | (with_reducible refine wpList_load_half1 rfl (.tmp 34) rfl w.heap.size rfl _ s d HE.out HS.out ?_)
    | (with_reducible refine wpList_load_half2 rfl (.tmp 36) rfl w.heap.size rfl _ s d HE.out HS.out HD.out ?_)
    | (with_reducible refine wpList_load_seg rfl (.tmp 4) rfl (w.heap.size + 1) rfl t HK.out ?_))
  refine (HT.out s d t w2 HS.out HD.out VS.out VD.out (HG.out.low hL)).mono ?_
  rintro e w3 ⟨A1, k1, rfl, hb1, -, hl⟩
  replace hL := hL.trans hl
  replace HE := Lib.hid (HE.out.below hl HE.out.lt)
  replace HK := Lib.hid (HK.out.below hl HK.out.lt)
  replace HL := Lib.hid (HL.out.below hl HL.out.lt)
  obtain ⟨x1, hx1⟩ : ∃ x, x = tcpE s d t.v := ⟨_, rfl⟩
  obtain ⟨l1, hl1⟩ : ∃ l, l = tcpL s d t.v := ⟨_, rfl⟩
  rw [← hx1, ← hl1]
  rw [← hl1] at hb1
  have HX1 := Lib.hid hx1
  have HL1 := Lib.hid hl1
  have HB1 := Lib.hid hb1
  clear hb1 hl hx1 hl1 q1 q2 q3 c8 c9 d0 d3
  obtain ⟨n1, hn1⟩ : ∃ n, n = l1.length := ⟨_, rfl⟩
  rw [← hn1] at HB1 ⊢
  have HN1 := Lib.hid hn1
  clear hn1
  go_wp2_with (first
    | (with_reducible refine wpList_load_half1 rfl (.tmp 43) rfl w.heap.size rfl _ s d HE.out HS.out ?_)
    | (with_reducible refine wpList_load_half2 rfl (.tmp 45) rfl w.heap.size rfl _ s d HE.out HS.out HD.out ?_)
    | (with_reducible refine wpList_load_seg rfl (.tmp 4) rfl (w.heap.size + 1) rfl t HK.out ?_))
  refine (rpktcp_any s d t w3 HS.out HD.out VS.out VD.out (HG.out.low hL)).mono ?_
  rintro e w4 ⟨A2, k2, rfl, hb2, -, hl⟩
  rw [← HX1.out, ← HL1.out, ← HN1.out]
  rw [← HL1.out, ← HN1.out] at hb2
  replace hL := hL.trans hl
  replace HE := Lib.hid (HE.out.below hl HE.out.lt)
  replace HL := Lib.hid (HL.out.below hl HL.out.lt)
  replace HB1 := Lib.hid (HB1.out.below' hl hl.size)
  have HB2 := Lib.hid hb2
  clear hb2 hl HK HG HX1 HL1 HN1
  go_wp2_with (first
    | (with_reducible refine wpList_load_half1 rfl (.tmp 52) rfl w.heap.size rfl _ s d HE.out HS.out ?_)
    | (with_reducible refine wpList_load_half2 rfl (.tmp 54) rfl w.heap.size rfl _ s d HE.out HS.out HD.out ?_)
    | (with_reducible refine wpList_load_msg rfl (.tmp 5) rfl (w.heap.size + 1 + 1) rfl m HL.out ?_))
  refine (HI.out s d m w4 HS.out HD.out VS.out VD.out (HM.out.low hL) (by have := HN3.out; omega)).mono ?_
  rintro e w5 ⟨A3, k3, rfl, hb3, -, hl⟩
  replace hL := hL.trans hl
  replace HE := Lib.hid (HE.out.below hl HE.out.lt)
  replace HL := Lib.hid (HL.out.below hl HL.out.lt)
  replace HB1 := Lib.hid (HB1.out.below' hl hl.size)
  replace HB2 := Lib.hid (HB2.out.below' hl hl.size)
  obtain ⟨x2, hx2⟩ : ∃ x, x = icmpE s d m.v := ⟨_, rfl⟩
  obtain ⟨l2, hl2⟩ : ∃ l, l = icmpL s d m.v := ⟨_, rfl⟩
  rw [← hx2, ← hl2]
  rw [← hl2] at hb3
  have HX2 := Lib.hid hx2
  have HL2 := Lib.hid hl2
  have HB3 := Lib.hid hb3
  clear hb3 hl hx2 hl2
  obtain ⟨n2, hn2⟩ : ∃ n, n = l2.length := ⟨_, rfl⟩
  rw [← hn2] at HB3 ⊢
  have HN2 := Lib.hid hn2
  clear hn2
  go_wp2_with (first
    | (with_reducible refine wpList_load_half1 rfl (.tmp 61) rfl w.heap.size rfl _ s d HE.out HS.out ?_)
    | (with_reducible refine wpList_load_half2 rfl (.tmp 63) rfl w.heap.size rfl _ s d HE.out HS.out HD.out ?_)
    | (with_reducible refine wpList_load_msg rfl (.tmp 5) rfl (w.heap.size + 1 + 1) rfl m HL.out ?_))
  refine (rpkicmp_any s d m w5 HS.out HD.out VS.out VD.out (HM.out.low hL) (by have := HN3.out; omega)).mono ?_
  rintro e w6 ⟨A4, k4, rfl, hb4, -, hl⟩
  rw [← HX2.out, ← HL2.out, ← HN2.out]
  rw [← HL2.out, ← HN2.out] at hb4
  replace hL := hL.trans hl
  replace HL := Lib.hid (HL.out.below hl HL.out.lt)
  replace HB1 := Lib.hid (HB1.out.below' hl hl.size)
  replace HB2 := Lib.hid (HB2.out.below' hl hl.size)
  replace HB3 := Lib.hid (HB3.out.below' hl hl.size)
  have HB4 := Lib.hid hb4
  have d0 := (BlkM.cells HL.out).1
  have HKD := Lib.hid HM.out.kd
  clear hb4 hl HE HL HM HX2 HL2 HN2
  generalize m.kd = kd at *
  have cv1 := conv_bs (c := k1) HB1.out
  have cv2 := conv_bs (c := k2) HB2.out
  have cv3 := conv_bs (c := k3) HB3.out
  have cv4 := conv_bs (c := k4) HB4.out
  generalize strOfNums l1 = sx1 at *
  generalize strOfNums l2 = sx2 at *
  clear HB1 HB2 HB3 HB4
  go_wp2_with fail
  refine (HR.out kd w6 HKD.out).mono ?_
  rintro e w7 ⟨rfl, hl⟩
  replace hL := hL.trans hl
  clear hl cv1 cv2 cv3 cv4 d0
  go_wp2_with fail
  refine (rreason_any kd w7 HKD.out).mono ?_
  rintro e w8 ⟨rfl, hl⟩
  replace hL := hL.trans hl
  clear hl
  go_wp2_with fail
  refine (pklives_any HT.out HP.out HR.out _).mono ?_
  rintro e w9 ⟨rfl, hl⟩
  replace hL := hL.trans hl
  clear hl
  go_wp2_with fail
  go_ret
  exact ⟨rfl, hL⟩
end Go.Proofs.YtdpbhhoabnmbpaaGreat
