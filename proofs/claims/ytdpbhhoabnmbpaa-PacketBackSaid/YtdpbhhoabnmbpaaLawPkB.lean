/- The walk of harrierlaw13.PacketBack: it answers true, where the program's own functions tell what the page says. Conditions: these; the addresses are 16 bytes. -/
import Derived.Test.YtdpbhhoabnmbpaaLawPkM
set_option maxRecDepth 100000
namespace Go.Proofs.Ytdpbhhoabnmbpaa
open Go.RowKit
set_option linter.unusedVariables false

theorem wpList_store_int {ops : Array Oper} {rest : List Oper} {o : Oper} {a : Act} {w : World} {Q : Exit → Act → World → Prop} (hgd : o.guard = none) (x y : Operand) (ho : o.op = .store 3 x y) (g k : Nat) (hx : a.eval x = .pointer (some ⟨g, k, none⟩)) (z : Int) (hy : a.eval y = .int .i64 z)
    (v0 : Value) (hf : w.frozen? ⟨g, k, none⟩ = false) (hc : w.cell? ⟨g, k, none⟩ = some v0)
    (hk : wpList Try.prog ops Q rest (a.put o.dst undef) (w.setCell ⟨g, k, none⟩ (.int .i64 z))) : wpList Try.prog ops Q (o :: rest) a w :=
  wpList_plain hgd fun K hK => by
    unfold Oper.wp execOp
    simp only [ho, hx, hy]
    go_simp
    exact hK _ _ hk

/-- a segment is where no two numbers in a row are -/
theorem Sg.ok.setNum {w : World} {B g : Nat} {t : Sg} {x y : Int} (h : t.ok w B) (hc : w.cell? ⟨g, 6, none⟩ = some (.int .i64 x)) (hd : w.cell? ⟨g, 7, none⟩ = some (.int .i64 y)) (u : Value) : t.ok (w.setCell ⟨g, 6, none⟩ u) B :=
  ⟨h.sp, h.dp, h.sq, h.ak, h.fl, h.wi, h.su, h.ur, h.om, ⟨h.os.len, fun o ho => ⟨(h.os.all o ho).1, (h.os.all o ho).2.1, (h.os.all o ho).2.2.setNum hc u⟩, fun hn => by
    obtain ⟨b, o, e, hb, hm⟩ := h.os.mem hn
    refine ⟨b, o, e, hb, fun i hi => ?_⟩
    obtain ⟨a1, a2⟩ := hm i hi
    constructor
    · rw [World.cell?_setCell_other, a1]
      intro e2
      injection e2 with e2 e3 _
      rw [← e2, ← e3, hd] at a2
      injection a2 with a2
      cases a2
    · rw [World.cell?_setCell_other, a2]
      intro e2
      rw [← e2, hc] at a2
      injection a2 with a2
      cases a2⟩, h.pm, h.ps.setNum hc u⟩

set_option maxRecDepth 100000 in
set_option maxHeartbeats 3200000 in
theorem pkb_walk (hT : PktTcps) (hI : PktIcmps) (hP : PktParses) (hR : PktReasons) (s d : List Int) (t : Sg) (m : Mg) (w : World) (hs : s.length = 16) (hd : d.length = 16) (vs : AllB s) (vd : AllB d) (ht : t.ok w w.heap.size) (hm : m.ok w w.heap.size) :
    Calls Try.prog 3 #[.agg (cellsB (s ++ d)).toArray, segV t, msgV m] w fun e w' => e = .returned (.bool true) ∧ Below w.heap.size w w' := by
  unfold msgV segV
  have HT := Lib.hid hT
  have HI := Lib.hid hI
  have HP := Lib.hid hP
  have HR := Lib.hid hR
  have HG := Lib.hid ht
  have HM := Lib.hid hm
  have HS := Lib.hid hs
  have HD := Lib.hid hd
  have VS := Lib.hid vs
  have VD := Lib.hid vd
  have HE := Lib.hid (Blk.new w 25 (s ++ d))
  have hl0 := Low.alloc w (.cells (cellsB (s ++ d)).toArray 25)
  have hz0 : (w.alloc (.cells (cellsB (s ++ d)).toArray 25)).heap.size = w.heap.size + 1 := by simp
  clear hT hI hP hR ht hm hs hd vs vd
  go_enter Try.func3, Try.ntmps3
  go_wp2_with (first
    | ((with_reducible refine wpList_box_seg rfl (.tmp 1) rfl t rfl ?_); intro w1 HK hl1 hz1)
    | ((with_reducible refine wpList_box_msg rfl (.tmp 2) rfl m rfl ?_); intro w2 HL hl2 hz2; refine Hid.out ?_))
  refine Lib.hid ?_
  generalize w.alloc (.cells (cellsB (s ++ d)).toArray 25) = w0 at *
  rw [hz0] at HK hz1
  rw [hz1] at HL
  rw [hz0] at *
  replace HE := Lib.hid (HE.out.below (hl1.trans hl2) HE.out.lt)
  replace HK := HK.below hl2 HK.lt
  have hL : Low w w2 := hl0.trans (hl1.trans hl2)
  clear hl0 hl1 hl2 hz0 hz1 hz2
  obtain ⟨-, -, -, -, -, -, -, -, c8, c9⟩ := BlkS.cells HK
  obtain ⟨d0, -, -, d3⟩ := BlkM.cells HL
  replace HK := Lib.hid HK
  replace HL := Lib.hid HL
  by_cases h1 : 60 < t.om
  · have q1 : (60 : Int) < t.om := by omega
    clear HE HG HM HI
    go_wp2_with fail
    refine (pklives_any HT.out HP.out HR.out _).mono ?_
    rintro e w3 ⟨rfl, hB3⟩
    replace hL := hL.trans hB3
    clear hB3
    go_wp2_with fail
    go_ret
    exact ⟨rfl, hL⟩
  have q1 : ¬ (60 : Int) < t.om := by omega
  by_cases h2 : 3000 < t.pm
  · have q2 : (3000 : Int) < t.pm := by omega
    clear HE HG HM HI
    go_wp2_with fail
    refine (pklives_any HT.out HP.out HR.out _).mono ?_
    rintro e w3 ⟨rfl, hB3⟩
    replace hL := hL.trans hB3
    clear hB3
    go_wp2_with fail
    go_ret
    exact ⟨rfl, hL⟩
  have q2 : ¬ (3000 : Int) < t.pm := by omega
  by_cases h3 : 3000 < m.bm
  · have q3 : (3000 : Int) < m.bm := by omega
    clear HE HG HM HI
    go_wp2_with fail
    refine (pklives_any HT.out HP.out HR.out _).mono ?_
    rintro e w3 ⟨rfl, hB3⟩
    replace hL := hL.trans hB3
    clear hB3
    go_wp2_with fail
    go_ret
    exact ⟨rfl, hL⟩
  have q3 : ¬ (3000 : Int) < m.bm := by omega
  have HN3 := Lib.hid h3
  clear h1 h2 h3
  go_wp2_with (first
    | (with_reducible refine wpList_load_half1 rfl (.tmp 33) rfl w.heap.size rfl _ s d HE.out HS.out ?_)
    | (with_reducible refine wpList_load_half2 rfl (.tmp 35) rfl w.heap.size rfl _ s d HE.out HS.out HD.out ?_)
    | (with_reducible refine wpList_load_seg rfl (.tmp 4) rfl (w.heap.size + 1) rfl t HK.out ?_))
  refine (HT.out s d t w2 HS.out HD.out VS.out VD.out (HG.out.low hL)).mono ?_
  rintro e w3 ⟨A1, k1, rfl, hb1, hk1, hl⟩
  replace hL := hL.trans hl
  replace HE := Lib.hid (HE.out.below hl HE.out.lt)
  replace HK := Lib.hid (HK.out.below hl HK.out.lt)
  replace HL := Lib.hid (HL.out.below hl HL.out.lt)
  obtain ⟨x1, hx1⟩ : ∃ x, x = tcpE s d t.v := ⟨_, rfl⟩
  obtain ⟨l1, hl1⟩ : ∃ l, l = tcpL s d t.v := ⟨_, rfl⟩
  rw [← hx1, ← hl1]
  rw [← hl1] at hb1 hk1
  have HX1 := Lib.hid hx1
  have HL1 := Lib.hid hl1
  have HB1 := Lib.hid hb1
  obtain ⟨n1, hn1⟩ : ∃ n, n = l1.length := ⟨_, rfl⟩
  rw [← hn1] at HB1 hk1 ⊢
  have HN1 := Lib.hid hn1
  clear hb1 hl hx1 hl1 q1 q2 q3 c8 c9 d0 d3 hn1
  by_cases hx0 : x1 = 0
  case' pos =>
    subst hx0
    obtain ⟨b1, b2, b3, b4⟩ := tcp_back HS.out HD.out VS.out VD.out (x := t.v) HG.out.ps.all (fun o ho => by
      obtain ⟨o', h1, rfl⟩ := List.mem_map.1 ho
      exact (HG.out.os.all o' h1).2.2.all) HG.out.sq HG.out.ak HX1.out.symm
    rw [← HL1.out] at b2 b3 b4
    rw [← HN1.out] at b4
    have HC1 := Lib.hid b1
    have HPE := Lib.hid b2
    have HPB := Lib.hid b3
    clear b1 b2 b3
    go_wp2_with fail
    refine (HP.out A1 n1 k1 l1 w3 (by omega) hk1.1 hk1.2 HB1.out).mono ?_
    intro e w4 hq
    obtain ⟨p, rfl, hpv, hpk, hB4, e1, e2, e3⟩ := hq.lens
    rw [HPE.out]
    rw [HPB.out] at hpv
    have HPK6 := Lib.hid (show p.k = 6 from congrArg Pb.k hpv)
    have HPS := Lib.hid (show p.h.s = s from congrArg (fun b : Pb => b.h.s) hpv)
    have HPF := Lib.hid (show p.f = d from congrArg Pb.f hpv)
    have HPT := Lib.hid (show p.t.v = sealB s d t.v from congrArg Pb.t hpv)
    have L1 := Lib.hid e1
    have L2 := Lib.hid e2
    have L3 := Lib.hid e3
    have hl : Low w3 w4 := hB4
    replace hL := hL.trans hl
    replace HE := Lib.hid (HE.out.below hl HE.out.lt)
    replace HK := Lib.hid (HK.out.below hl HK.out.lt)
    replace HL := Lib.hid (HL.out.below hl HL.out.lt)
    have hE := HE.out.lt
    have hK := HK.out.lt
    have hL' := HL.out.lt
    have HPO := Lib.hid hpk.t
    clear hq hpv hpk hB4 hl e1 e2 e3 HPE HPB HB1
    unfold pqV
    go_wp2_with ((with_reducible refine wpList_alloc_pq pkt_own rfl rfl ?_); intro w5 HZ hl5 hz5; refine Hid.out ?_)
    refine Lib.hid ?_
    go_wp2_with ((refine wpList_store_pq pkt_own rfl (.tmp 9) (.tmp 46) rfl w4.heap.size rfl p rfl zeroQ HZ rfl rfl rfl L1.out L2.out L3.out ?_); intro w6 HQ hb6 hz6 ho6; refine Hid.out ?_)
    refine Lib.hid ?_
    have hl6 : Low w4 w6 := Below.trans hl5 hb6
    replace hL := hL.trans hl6
    replace HE := Lib.hid (HE.out.below hl6 hE)
    replace HK := Lib.hid (HK.out.below hl6 hK)
    replace HL := Lib.hid (HL.out.below hl6 hL')
    replace HPO := Lib.hid (HPO.out.low hl6)
    replace HQ := Lib.hid HQ
    obtain ⟨gq, hgq⟩ : ∃ g, g = w4.heap.size := ⟨_, rfl⟩
    rw [← hgq] at HQ hE hK hL' ⊢
    clear HZ hl5 hb6 hz5 hz6 ho6 hl6 hgq
    have f6 := HK.out.frozen 6
    have c6 := (BlkS.cells HK.out).2.2.2.2.2.2.1
    have c7 := (BlkS.cells HK.out).2.2.2.2.2.2.2.1
    obtain ⟨z, hz⟩ : ∃ z, z = p.t.su := ⟨_, rfl⟩
    have c67 : w6.cell? ⟨gq, 67, none⟩ = some (.int .i64 z) := HQ.out.tc L1.out L2.out L3.out 6 _ (by rw [hz]; rfl)
    have ho := setCell_others w6 ⟨w.heap.size + 1, 6, none⟩ (.int .i64 z)
    have hsz : (w6.setCell ⟨w.heap.size + 1, 6, none⟩ (.int .i64 z)).heap.size = w6.heap.size := by simp
    have HK7 : Hid (BlkS (w6.setCell ⟨w.heap.size + 1, 6, none⟩ (.int .i64 z)) (w.heap.size + 1) { t with su := z }) := Lib.hid (HK.out.set_ 6 (.int .i64 z))
    have hL7 : Low w (w6.setCell ⟨w.heap.size + 1, 6, none⟩ (.int .i64 z)) := hL.setCell (by show w.heap.size ≤ w.heap.size + 1; omega) _
    have HQ7 : Hid (BlkQ 44 (w6.setCell ⟨w.heap.size + 1, 6, none⟩ (.int .i64 z)) gq p) := Lib.hid (HQ.out.stay (ho gq (by show gq ≠ w.heap.size + 1; omega)))
    have HE7 : Hid (Blk (w6.setCell ⟨w.heap.size + 1, 6, none⟩ (.int .i64 z)) 25 w.heap.size (s ++ d)) := Lib.hid ((ho w.heap.size (by show w.heap.size ≠ w.heap.size + 1; omega)).trans HE.out)
    have HL7 : Hid (BlkM (w6.setCell ⟨w.heap.size + 1, 6, none⟩ (.int .i64 z)) (w.heap.size + 1 + 1) m) := Lib.hid ((ho (w.heap.size + 1 + 1) (by show w.heap.size + 1 + 1 ≠ w.heap.size + 1; omega)).trans HL.out)
    have HPO7 : Hid (p.t.ok (w6.setCell ⟨w.heap.size + 1, 6, none⟩ (.int .i64 z)) (w6.setCell ⟨w.heap.size + 1, 6, none⟩ (.int .i64 z)).heap.size) := Lib.hid (by rw [hsz]; exact HPO.out.setNum c6 c7 _)
    have HZS := Lib.hid hz
    clear HE HL HPO HQ ho hsz hL hz
    go_wp2_with ((refine wpList_store_int rfl (.tmp 51) (.tmp 50) rfl (w.heap.size + 1) 6 rfl z rfl (.int .i64 t.su) f6 c6 ?_); refine Hid.out ?_)
    refine Lib.hid ?_
    clear f6 c6 c7 c67 HK
    generalize w6.setCell ⟨w.heap.size + 1, 6, none⟩ (.int .i64 z) = w7 at *
    have HRS : Hid (w7.rangeAt gq 5 (cellsB s)) := Lib.hid (by have h := BlkQ.src HQ7.out L1.out; rwa [HPS.out] at h)
    have HRF : Hid (w7.rangeAt gq 44 (cellsB d)) := Lib.hid (by have h := HQ7.out.fin L1.out L2.out L3.out; rwa [HPF.out] at h)
    have k60 := rangeAt_one (HQ7.out.kd L1.out L2.out L3.out)
    rw [HPK6.out] at k60
    have EF := eq_addr s s HS.out HS.out
    have EG := eq_addr d d HD.out HD.out
    simp only [beq_self_eq_true] at EF EG
    have HGZ : Hid (Sg.ok w7 w7.heap.size { t with su := z }) := Lib.hid (by
      have h := HG.out.low hL7
      exact ⟨h.sp, h.dp, h.sq, h.ak, h.fl, h.wi, by rw [HZS.out]; exact HPO7.out.su, h.ur, h.om, h.os, h.pm, h.ps⟩)
    have HEQ := Lib.hid (show p.t.v = Sg.v { t with su := z } by
      have h := HPT.out
      rw [(sealB_yes HC1.out).1] at h
      have h2 : z = sumS s d t.v := by rw [HZS.out]; exact congrArg Sb.su h
      rw [h, h2]
      rfl)
    have q15 : ¬ (1500 : Int) < n1 := by omega
    go_wp2_with (first
      | (with_reducible refine wpList_load_at_g rfl (.tmp 61) rfl gq 5 rfl s HS.out HRS.out ?_)
      | (with_reducible refine wpList_load_half1_g rfl (.tmp 63) rfl w.heap.size rfl _ s d HE7.out HS.out ?_)
      | (with_reducible refine wpList_load_at_g rfl (.tmp 68) rfl gq 44 rfl d HD.out HRF.out ?_)
      | (with_reducible refine wpList_load_half2_g rfl (.tmp 70) rfl w.heap.size rfl _ s d HE7.out HS.out HD.out ?_)
      | (with_reducible refine wpList_load_segq_g rfl (.tmp 75) rfl gq 61 rfl p.t (HQ7.out.tc L1.out L2.out L3.out) ?_)
      | (with_reducible refine wpList_load_seg_g rfl (.tmp 4) rfl (w.heap.size + 1) rfl { t with su := z } HK7.out ?_))
    refine (tcsame_eq p.t { t with su := z } w7 HPO7.out HGZ.out HEQ.out).mono ?_
    rintro e w8 ⟨rfl, hB8⟩
    have hl8 : Low w7 w8 := hB8
    have hL := hL7.trans hl8
    have HE := Lib.hid (HE7.out.below hl8 HE7.out.lt)
    have HL := Lib.hid (HL7.out.below hl8 HL7.out.lt)
    clear hl8 hB8 hL7 HE7 HL7 HQ7 HK7 HPO7 HGZ HEQ HRS HRF k60 EF EG HPK6 HPS HPF HPT HZS hE hK hL' HC1 hk1 HX1 HL1 HN1
    obtain ⟨u, rfl⟩ : ∃ u, u = w8 := ⟨_, rfl⟩
    go_wp2_with (first
      | (with_reducible refine wpList_load_half1 rfl (.tmp 87) rfl w.heap.size rfl _ s d HE.out HS.out ?_)
      | (with_reducible refine wpList_load_half2 rfl (.tmp 89) rfl w.heap.size rfl _ s d HE.out HS.out HD.out ?_)
      | (with_reducible refine wpList_load_msg rfl (.tmp 5) rfl (w.heap.size + 1 + 1) rfl m HL.out ?_))
  case' neg =>
    have hne : (x1 == 0) = false := by simpa using hx0
    clear hx0 hk1 HX1 HL1 HN1 HB1
    obtain ⟨u, rfl⟩ : ∃ u, u = w3 := ⟨_, rfl⟩
    go_wp2_with (first
      | (with_reducible refine wpList_load_half1 rfl (.tmp 87) rfl w.heap.size rfl _ s d HE.out HS.out ?_)
      | (with_reducible refine wpList_load_half2 rfl (.tmp 89) rfl w.heap.size rfl _ s d HE.out HS.out HD.out ?_)
      | (with_reducible refine wpList_load_msg rfl (.tmp 5) rfl (w.heap.size + 1 + 1) rfl m HL.out ?_))
  all_goals
    refine (HI.out s d m u HS.out HD.out VS.out VD.out (HM.out.low hL) (by have := HN3.out; omega)).mono ?_
    rintro e u3 ⟨A3, k3, rfl, hb3, hk3, hl⟩
    replace hL := hL.trans hl
    replace HE := Lib.hid (HE.out.below hl HE.out.lt)
    replace HL := Lib.hid (HL.out.below hl HL.out.lt)
    obtain ⟨x2, hx2⟩ : ∃ x, x = icmpE s d m.v := ⟨_, rfl⟩
    obtain ⟨l2, hl2⟩ : ∃ l, l = icmpL s d m.v := ⟨_, rfl⟩
    rw [← hx2, ← hl2]
    rw [← hl2] at hb3 hk3
    have HX2 := Lib.hid hx2
    have HL2 := Lib.hid hl2
    have HB3 := Lib.hid hb3
    obtain ⟨n2, hn2⟩ : ∃ n, n = l2.length := ⟨_, rfl⟩
    rw [← hn2] at HB3 hk3 ⊢
    have HN2 := Lib.hid hn2
    clear hb3 hl hx2 hl2 hn2
    by_cases hx2z : x2 = 0
    · subst hx2z
      obtain ⟨-, b2, b3, b4⟩ := icmp_back HS.out HD.out VS.out VD.out (x := m.v) HM.out.bs.all HM.out.wd HX2.out.symm
      rw [← HL2.out] at b2 b3 b4
      rw [← HN2.out] at b4
      have HPE := Lib.hid b2
      have HPB := Lib.hid b3
      clear b2 b3
      go_wp2_with fail
      refine (HP.out A3 n2 k3 l2 u3 (by omega) hk3.1 hk3.2 HB3.out).mono ?_
      intro e u4 hq
      obtain ⟨p, rfl, hpv, hpk, hB4, e1, e2, e3⟩ := hq.lens
      rw [HPE.out]
      rw [HPB.out] at hpv
      have HPK6 := Lib.hid (show p.k = 58 from congrArg Pb.k hpv)
      have HPS := Lib.hid (show p.h.s = s from congrArg (fun b : Pb => b.h.s) hpv)
      have HPF := Lib.hid (show p.f = d from congrArg Pb.f hpv)
      have HPT := Lib.hid (show p.m.v = m.v from congrArg Pb.m hpv)
      have L1 := Lib.hid e1
      have L2 := Lib.hid e2
      have L3 := Lib.hid e3
      have hl : Low u3 u4 := hB4
      replace hL := hL.trans hl
      replace HE := Lib.hid (HE.out.below hl HE.out.lt)
      replace HL := Lib.hid (HL.out.below hl HL.out.lt)
      have hE := HE.out.lt
      have hL' := HL.out.lt
      have HPO := Lib.hid hpk.m
      clear hq hpv hpk hB4 hl e1 e2 e3 HPE HPB HB3 HX2 HL2 HN2
      unfold pqV
      go_wp2_with ((with_reducible refine wpList_alloc_pq pkt_own rfl rfl ?_); intro u5 HZ hl5 hz5; refine Hid.out ?_)
      refine Lib.hid ?_
      go_wp2_with ((refine wpList_store_pq pkt_own rfl (.tmp 13) (.tmp 100) rfl u4.heap.size rfl p rfl zeroQ HZ rfl rfl rfl L1.out L2.out L3.out ?_); intro u6 HQ hb6 hz6 ho6; refine Hid.out ?_)
      refine Lib.hid ?_
      have hl6 : Low u4 u6 := Below.trans hl5 hb6
      replace hL := hL.trans hl6
      replace HE := Lib.hid (HE.out.below hl6 hE)
      replace HL := Lib.hid (HL.out.below hl6 hL')
      replace HPO := Lib.hid (HPO.out.low hl6)
      replace HQ := Lib.hid HQ
      obtain ⟨gq, hgq⟩ : ∃ g, g = u4.heap.size := ⟨_, rfl⟩
      rw [← hgq] at HQ hE hL' ⊢
      clear HZ hl5 hb6 hz5 hz6 ho6 hl6 hgq
      have HRS : Hid (u6.rangeAt gq 5 (cellsB s)) := Lib.hid (by have h := BlkQ.src HQ.out L1.out; rwa [HPS.out] at h)
      have HRF : Hid (u6.rangeAt gq 44 (cellsB d)) := Lib.hid (by have h := HQ.out.fin L1.out L2.out L3.out; rwa [HPF.out] at h)
      have k60 := rangeAt_one (HQ.out.kd L1.out L2.out L3.out)
      rw [HPK6.out] at k60
      have EF := eq_addr s s HS.out HS.out
      have EG := eq_addr d d HD.out HD.out
      simp only [beq_self_eq_true] at EF EG
      have q16 : ¬ (1500 : Int) < n2 := by omega
      go_wp2_with (first
        | (with_reducible refine wpList_load_at_g rfl (.tmp 111) rfl gq 5 rfl s HS.out HRS.out ?_)
        | (with_reducible refine wpList_load_half1_g rfl (.tmp 113) rfl w.heap.size rfl _ s d HE.out HS.out ?_)
        | (with_reducible refine wpList_load_at_g rfl (.tmp 118) rfl gq 44 rfl d HD.out HRF.out ?_)
        | (with_reducible refine wpList_load_half2_g rfl (.tmp 120) rfl w.heap.size rfl _ s d HE.out HS.out HD.out ?_)
        | (with_reducible refine wpList_load_msgq_g rfl (.tmp 125) rfl gq 71 rfl p.m (HQ.out.ms L1.out L2.out L3.out) ?_)
        | (with_reducible refine wpList_load_msg_g rfl (.tmp 5) rfl (w.heap.size + 1 + 1) rfl m HL.out ?_))
      refine (icsame_eq p.m m u6 HPO.out (HM.out.low hL) HPT.out).mono ?_
      rintro e u7 ⟨rfl, hl⟩
      replace hL := Low.trans hL hl
      clear hl k60 EF EG HQ HRS HRF HE HL HPO
      go_wp2_with fail
      refine (pklives_any HT.out HP.out HR.out _).mono ?_
      rintro e u8 ⟨rfl, hl⟩
      replace hL := hL.trans hl
      clear hl
      go_wp2_with fail
      go_ret
      exact ⟨rfl, hL⟩
    · have hne2 : (x2 == 0) = false := by simpa using hx2z
      clear hx2z HE HL HB3 HX2 HL2 HN2
      go_wp2_with fail
      refine (pklives_any HT.out HP.out HR.out _).mono ?_
      rintro e u8 ⟨rfl, hl⟩
      replace hL := hL.trans hl
      clear hl
      go_wp2_with fail
      go_ret
      exact ⟨rfl, hL⟩
end Go.Proofs.Ytdpbhhoabnmbpaa
