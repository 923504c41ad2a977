/- What the program's own Parse of packets tells, with a routing header, and of any bytes. Condition: at most 2^47 bytes. -/
import Derived.Test.YtjafjapnmffohaaGreatDoorPkO
set_option maxRecDepth 100000
namespace Go.Proofs.YtjafjapnmffohaaGreatDoor
open Go.RowKit
set_option linter.unusedVariables false

set_option maxRecDepth 100000 in
set_option maxHeartbeats 12800000 in
theorem pkparse_rt (A : Option Addr) (n c : Nat) (xs : List Int) (w : World) (hn : n ≤ 140737488351232) (hc : n ≤ c) (hc2 : c ≤ 9223372036854775807) (hb : Bs w w.heap.size A n xs) (h0 : hdE xs = 0) (hi : rtIs (pkW xs).1 = true) :
    Calls Tryz.prog 4 #[.slice A n c] w (GivesPk w xs) := by
  obtain ⟨hx1500, hxe, hx40, hxln, hx2, hxl, hxp⟩ := hdE_zero h0
  obtain ⟨hw1, hw2, m, hum, hm40, hmn⟩ := pkW_zero hx40 hx2
  have hlenx := hb.len
  have hleft := walkR_left xs _ 8 _ 40 hx40 hw1
  have HUA := Lib.hid (show (lastP (pkW xs).1).a = m from hum)
  have HUL := Lib.hid (show (lastP (pkW xs).1).l = ((n - m : Nat) : Int) by
    rw [hleft, HUA.out, hlenx]
    omega)
  have HFST := Lib.hid (walkR_first hw1 hi)
  have HPRE := Lib.hid hxp
  have HLAT := Lib.hid hxl
  have HIS := Lib.hid hi
  have hp0l : 0 < (pkW xs).1.length := List.length_pos_iff.2 hw2
  have hp9l : (pkW xs).1.length ≤ 9 := walkL_len xs (getL xs).nx 40
  rw [hlenx] at hx1500 hx40 hmn
  have HB := Lib.hid hb
  have H0 := Lib.hid h0
  have hx : (pkUp xs) = lastP (pkW xs).1 := rfl
  have HBODY := Lib.hid (show pkBody xs = xs.drop m by unfold pkBody; rw [hx, HUA.out, Int.toNat_natCast])
  have HFIN := Lib.hid (show pkFin xs = rtFin xs (pkW xs).1 (getL xs).d from rfl)
  have HSAYS := Lib.hid (show pkSays xs = ⟨getL xs, rtIs (pkW xs).1, rtR xs (pkW xs).1, rtFin xs (pkW xs).1 (getL xs).d, (lastP (pkW xs).1).k, upT (lastP (pkW xs).1).k (xs.drop m), upM (getL xs).s (rtFin xs (pkW xs).1 (getL xs).d) (lastP (pkW xs).1).k (xs.drop m), xs.drop m⟩ by
    unfold pkSays
    rw [HBODY.out, HFIN.out, hx])
  have HPKE0 := Lib.hid (show preE xs = 0 → pkE xs = upE (getL xs).s (rtFin xs (pkW xs).1 (getL xs).d) (lastP (pkW xs).1).k (xs.drop m) from fun e => by
    unfold pkE
    rw [if_pos e, HBODY.out, HFIN.out, hx])
  obtain ⟨b, o, rfl, -⟩ := hb.mem (by omega)
  clear hb h0 hi hxe hxln hx2 hxl hxp hw1 hw2 hum hleft hlenx hx HBODY HFIN
  obtain ⟨ps, hps⟩ : ∃ ps, ps = (pkW xs).1 := ⟨_, rfl⟩
  rw [← hps] at HUA HUL HPRE HLAT HIS hp0l hp9l HSAYS HPKE0 HFST
  have HPSE := Lib.hid hps
  clear hps
  go_enter Tryz.func4, Tryz.ntmps4
  go_wp2_with ((with_reducible refine wpList_alloc_pq pkt_own rfl rfl ?_); intro w1 HR hL hz1; refine Hid.out ?_)
  refine Lib.hid ?_
  replace HR := Lib.hid HR
  clear hz1
  go_wp2_with fail
  refine (headers_any (some ⟨b, o, none⟩) n c xs w1 hn hc hc2 (HB.out.below' hL hL.size)).mono ?_
  rintro e w3 ⟨⟨h, pA, pn, pc, rfl, -, hz⟩, hl⟩
  obtain ⟨hhl, hpn, hps⟩ := hz H0.out
  rw [← HPSE.out] at hpn hps
  rw [H0.out]
  have hl3 : Low w1 w3 := hl
  have HHO := Lib.hid (show h.ok by
    rw [hhl]
    have e := getH_ok HB.out.all
    have e2 : getH xs = getL xs := by
      rcases getE_cases xs with ⟨g1, e1, e2⟩ | ⟨g1, g2, e1, e2⟩ | ⟨g1, g2, e1, e2⟩
      · exact absurd (hdE_zero H0.out).2.1 (by rw [e1]; omega)
      · exact e2
      · exact absurd (hdE_zero H0.out).2.1 (by rw [e1]; omega)
    rwa [e2] at e)
  rw [← hhl] at HPRE HSAYS HPKE0
  have HS := Lib.hid HHO.out.s
  have HD := Lib.hid HHO.out.d
  have HPS := Lib.hid hps
  have HPN := Lib.hid hpn
  have hp0 : 0 < pn := by omega
  have hp9 : pn ≤ 9 := by omega
  replace HR := Lib.hid (HR.out.below hl3 HR.out.lt)
  replace hL := hL.trans hl3
  clear hl hl3 hz hps hhl hpn hp0l hp9l H0
  unfold headV
  go_wp2_with ((with_reducible refine wpList_alloc_v rfl 26 rfl (headC zeroH) (by kernel_rfl) ?_); intro w4 HY hl4 hz4; refine Hid.out ?_)
  refine Lib.hid ?_
  have HY4 : Hid (BlkH w4 w3.heap.size zeroH) := Lib.hid HY
  have hlr := HR.out.lt
  go_wp2_with ((refine wpList_store_headB rfl (.tmp 4) (.tmp 16) rfl w3.heap.size rfl h rfl zeroH HY4.out rfl rfl HS.out HD.out ?_); intro w5 HG5 hb5 hz5 ho5; refine Hid.out ?_)
  refine Lib.hid ?_
  have hl5 : Low w3 w5 := Below.trans hl4 hb5
  replace HR := Lib.hid (HR.out.below hl5 HR.out.lt)
  replace HPS := Lib.hid (HPS.out.below hl5)
  replace hL := hL.trans hl5
  obtain ⟨gH, hgH⟩ : ∃ g, g = w3.heap.size := ⟨_, rfl⟩
  rw [← hgH] at HG5 HPS hlr ⊢
  have HGH : Hid (BlkH w5 gH h) := Lib.hid HG5
  clear HG5 HY HY4 hl4 hz4 hb5 hz5 ho5 hl5 hgH
  have HDST := Lib.hid (HGH.out.atDstK HS.out)
  have hlh := HGH.out.lt
  go_wp2_with (first
    | (with_reducible refine wpList_load_head rfl (.tmp 4) rfl gH rfl h HGH.out HS.out HD.out ?_)
    | (with_reducible refine wpList_load_at rfl (.tmp 24) rfl gH 21 rfl h.d HD.out HDST.out ?_)
    | (refine wpList_build_pd rfl (.tmp 23) (.tmp 25) rfl h rfl rfl HS.out HD.out ?_)
    | ((with_reducible refine wpList_alloc_pq pkt_own rfl rfl ?_); intro w6 HY hl6 hz6; refine Hid.out ?_))
  refine Lib.hid ?_
  have HQ1 : Hid ((destQ h).h.s.length = 16) := HS
  have HQ2 : Hid ((destQ h).h.d.length = 16) := HD
  have HQ3 : Hid ((destQ h).f.length = 16) := HD
  go_wp2_with ((refine wpList_store_pq pkt_own rfl (.tmp 7) (.tmp 26) rfl w5.heap.size rfl (destQ h) rfl zeroQ HY rfl rfl rfl HQ1.out HQ2.out HQ3.out ?_); intro w7 HG7 hb7 hz7 ho7; refine Hid.out ?_)
  refine Lib.hid ?_
  have hl7 : Low w5 w7 := Below.trans hl6 hb7
  replace HR := Lib.hid (HR.out.below hl7 HR.out.lt)
  replace HGH : Hid (BlkH w7 gH h) := Lib.hid (HGH.out.below hl7 HGH.out.lt)
  replace HPS := Lib.hid (HPS.out.below (hl7.mono (by omega)))
  replace hL := hL.trans hl7
  obtain ⟨gP, hgP⟩ : ∃ g, g = w5.heap.size := ⟨_, rfl⟩
  rw [← hgP] at HG7 hlh ⊢
  have HQB0 := Lib.hid HG7
  have hlp : gP < w7.heap.size := HG7.lt
  clear HG7 HY hl6 hz6 hb7 hz7 ho7 hl7 hgP HDST
  obtain ⟨pb, po, rfl, hpb, hpc0⟩ := HPS.out.mem hp0
  obtain ⟨k0, k1, k2⟩ := hpc0 0 hp0
  rw [Nat.zero_mul, Nat.add_zero] at k0 k1 k2
  obtain ⟨p0, hp0e⟩ : ∃ p0, p0 = ps.getD 0 zeroP := ⟨_, rfl⟩
  rw [← hp0e] at k0 k1 k2
  have HP0E := Lib.hid hp0e
  have hp0i : (0 : Int) < pn := by omega
  clear hpc0 hp0e
  obtain ⟨hwl, hwp⟩ := HFST.out
  rw [← HP0E.out] at hwp
  subst hwp
  replace k0 : w7.cell? ⟨pb, po, none⟩ = some (.int .i64 43) := k0
  replace k1 : w7.cell? ⟨pb, po + 1, none⟩ = some (.int .i64 40) := k1
  replace k2 : w7.cell? ⟨pb, po + 2, none⟩ = some (.int .i64 ((wideR (xs.drop 40) : Nat) : Int)) := k2
  obtain ⟨wd, hwd⟩ : ∃ wd, wd = wideR (xs.drop 40) := ⟨_, rfl⟩
  rw [← hwd] at k2 hwl
  rw [List.length_drop, HB.out.len] at hwl
  have HWD := Lib.hid hwd
  clear hwd
  have HRE := Lib.hid (show rE ((xs.take (40 + wd)).drop 40) h.d = rE (xs.drop 40) h.d by
    rw [List.drop_take, show 40 + wd - 40 = wd by omega, HWD.out]
    exact rE_take (by rw [← HWD.out, List.length_drop, HB.out.len]; exact hwl))
  have HSY := Lib.hid (show rE (xs.drop 40) h.d = 0 → saysR ((xs.take (40 + wd)).drop 40) = saysR (xs.drop 40) from fun e0 => by
    rw [List.drop_take, show 40 + wd - 40 = wd by omega, HWD.out]
    refine (srh_take (by rw [← HWD.out, List.length_drop, HB.out.len]; exact hwl)).2 ?_
    unfold rE at e0
    by_cases h0 : errR (xs.drop 40) = 0
    · exact h0
    · rw [if_neg h0] at e0
      exact e0)
  have HCUT : Hid (∀ A', (0 < wd → A' = some ⟨b, o + 40, none⟩) → Bs w w.heap.size A' wd ((xs.take (40 + wd)).drop 40)) := Lib.hid fun A' hA => by
    have h1 := HB.out.cut (s := 40) (m := 40 + wd) (A' := A') (by omega) (by omega) (by rw [show 40 + wd - 40 = wd by omega]; exact hA)
    rwa [show 40 + wd - 40 = wd by omega] at h1
  go_wp2_with fail
  refine wp_region_planS (fun y => y.cell? ⟨pb, po, none⟩ = some (.int .i64 43) ∧ y.cell? ⟨pb, po + 1, none⟩ = some (.int .i64 40) ∧ y.cell? ⟨pb, po + 2, none⟩ = some (.int .i64 ((wd : Nat) : Int)))
    (.rd 1 (.rd 2 (.rd 3 (.rd 4 (.fork 0 (.act 5 (.act 6 (.rd 7 (.rd 8 (.rd 9 (.act 10 (.rd 11 (.done)))))))) 5 (.act 0 (.act 6 (.rd 7 (.rd 8 (.rd 9 (.act 10 (.rd 11 (.done))))))))))))) (by kernel_rfl) (by kernel_rfl) (fun _ _ d _ _ h => by cases d <;> exact h) (by kernel_rfl) ⟨k0, k1, k2⟩ ?_
  have hDR : Low w7 w7.drew := Below.drew (Below.refl _ _)
  replace HR := Lib.hid (HR.out.below hDR HR.out.lt)
  replace HGH : Hid (BlkH w7.drew gH h) := Lib.hid (HGH.out.below hDR HGH.out.lt)
  replace HQB0 := Lib.hid (HQB0.out.below hDR HQB0.out.lt)
  replace HPS := Lib.hid (HPS.out.below (hDR.mono (by omega)))
  replace hL := hL.trans hDR
  replace k0 : w7.drew.cell? ⟨pb, po, none⟩ = some (.int .i64 43) := k0
  replace k1 : w7.drew.cell? ⟨pb, po + 1, none⟩ = some (.int .i64 40) := k1
  replace k2 : w7.drew.cell? ⟨pb, po + 2, none⟩ = some (.int .i64 ((wd : Nat) : Int)) := k2
  replace hlp : gP < w7.drew.heap.size := hlp
  clear hDR
  generalize w7.drew = w8 at *
  have hpb2 : pb < w8.heap.size := by omega
  iterate 4 (refine walkS_read (v := _) rfl (by rfl) (by
    rintro y ⟨e0, e1, e2⟩
    first
      | exact exec_load_ptP (p := ⟨43, 40, ((wd : Nat) : Int)⟩) (b := pb) (o := po) rfl e0 e1 e2
      | (go_simp; try rfl)) ?_; simp only [Act.put, List.setIfInBounds_toArray, List.set_cons_zero, List.set_cons_succ])
  refine walkS_forkD ?fa ?fb
  case' fa =>
    refine walkS_act rfl (by rfl) (fun K hK => ?_)
    refine wp_load_pq pkt_own (.tmp 7) rfl gP rfl (destQ h) HQB0.out HQ1.out HQ2.out HQ3.out ?_
    refine hK _ _ ⟨k0, k1, k2⟩ ?_
    clear hK K
    simp only [Act.put, List.setIfInBounds_toArray, List.set_cons_zero, List.set_cons_succ]
    refine walkS_act rfl (by rfl) (fun K hK => ?_)
    go_simp
    refine (bytesOf_any b o n c 40 wd ⟨43, 40, ((wd : Nat) : Int)⟩ w8 rfl rfl (by omega) hc hc2).mono ?_
    rintro e w9 ⟨⟨A2, rfl, hA2⟩, hl⟩
    go_simp
    have hl9 : Low w8 w9 := hl
    have j0 := (hl9.cell (p := ⟨pb, po, none⟩) hpb2).trans k0
    have j1 := (hl9.cell (p := ⟨pb, po + 1, none⟩) hpb2).trans k1
    have j2 := (hl9.cell (p := ⟨pb, po + 2, none⟩) hpb2).trans k2
    refine hK _ _ ⟨j0, j1, j2⟩ ?_
    clear hK K
  case' fb =>
    refine walkS_act rfl (by rfl) (fun K hK => ?_)
    go_simp
    refine (bytesOf_any b o n c 40 wd ⟨43, 40, ((wd : Nat) : Int)⟩ w8 rfl rfl (by omega) hc hc2).mono ?_
    rintro e w9 ⟨⟨A2, rfl, hA2⟩, hl⟩
    go_simp
    have hl9 : Low w8 w9 := hl
    have j0 := (hl9.cell (p := ⟨pb, po, none⟩) hpb2).trans k0
    have j1 := (hl9.cell (p := ⟨pb, po + 1, none⟩) hpb2).trans k1
    have j2 := (hl9.cell (p := ⟨pb, po + 2, none⟩) hpb2).trans k2
    refine hK _ _ ⟨j0, j1, j2⟩ ?_
    clear hK K
    refine walkS_act rfl (by rfl) (fun K hK => ?_)
    refine wp_load_pq pkt_own (.tmp 7) rfl gP rfl (destQ h) (HQB0.out.below hl9 HQB0.out.lt) HQ1.out HQ2.out HQ3.out ?_
    refine hK _ _ ⟨j0, j1, j2⟩ ?_
    clear hK K
    simp only [Act.put, List.setIfInBounds_toArray, List.set_cons_zero, List.set_cons_succ]
  all_goals
    have HZB := Lib.hid ((HCUT.out A2 hA2).below' (hL.trans hl9) (hL.trans hl9).size)
    have HR9 := Lib.hid (HR.out.below hl9 HR.out.lt)
    have HGH9 : Hid (BlkH w9 gH h) := Lib.hid (HGH.out.below hl9 HGH.out.lt)
    have HQB9 := Lib.hid (HQB0.out.below hl9 HQB0.out.lt)
    have HPS9 := Lib.hid (HPS.out.below (hl9.mono (by omega)))
    have hL9 := hL.trans hl9
    have hlp9 : gP < w9.heap.size := Nat.lt_of_lt_of_le hlp hl9.size
    have hpb9 : pb < w9.heap.size := by omega
    clear hl hl9 hA2 HR HGH HQB0 HPS hL hlp k0 k1 k2
    refine walkS_act rfl (by rfl) (fun K hK => ?_)
    go_simp
    refine (routed_any h A2 wd (c - 40) ((xs.take (40 + wd)).drop 40) w9 HHO.out (by omega) (by omega) (by omega) HZB.out).mono ?_
    rintro e w10 ⟨q, rfl, ⟨l1, l2, l3⟩, hl, hq⟩
    rw [HRE.out] at hq ⊢
    obtain ⟨e3, he3⟩ : ∃ e3, e3 = rE (xs.drop 40) h.d := ⟨_, rfl⟩
    rw [← he3] at hq HSY ⊢
    have HE3 := Lib.hid he3
    clear he3
    have HQ := Lib.hid hq
    have LQ1 := Lib.hid l1
    have LQ2 := Lib.hid l2
    have LQ3 := Lib.hid l3
    unfold pqV
    go_simp
    have hl10 : Low w9 w10 := hl
    have i0 := (hl10.cell (p := ⟨pb, po, none⟩) hpb9).trans j0
    have i1 := (hl10.cell (p := ⟨pb, po + 1, none⟩) hpb9).trans j1
    have i2 := (hl10.cell (p := ⟨pb, po + 2, none⟩) hpb9).trans j2
    refine hK _ _ ⟨i0, i1, i2⟩ ?_
    clear hK K
    have HR10 := Lib.hid (HR9.out.below hl10 HR9.out.lt)
    have HGH10 : Hid (BlkH w10 gH h) := Lib.hid (HGH9.out.below hl10 HGH9.out.lt)
    have HQB10 := Lib.hid (HQB9.out.below hl10 HQB9.out.lt)
    have HPS10 := Lib.hid (HPS9.out.below (hl10.mono (by omega)))
    have hL10 := hL9.trans hl10
    have hlp10 : gP < w10.heap.size := Nat.lt_of_lt_of_le hlp9 hl10.size
    clear hq l1 l2 l3 hl hl10 HZB HR9 HGH9 HQB9 HPS9 hL9 j0 j1 j2
    iterate 3 (refine walkS_read (v := _) rfl (by rfl) (by intro y hy; go_simp; try rfl) ?_; simp only [Act.put, List.setIfInBounds_toArray, List.set_cons_zero, List.set_cons_succ])
    refine walkS_act rfl (by rfl) (fun K hK => ?_)
    refine wp_store_pq pkt_own (.tmp 7) (.tmp 40) rfl gP rfl q rfl (destQ h) HQB10.out HQ1.out HQ2.out HQ3.out LQ1.out LQ2.out LQ3.out (fun y0 HG0 hb0 hz0 ho0 => ?_)
    have hpbg : pb ≠ gP := by omega
    refine hK _ _ ⟨cell_stay i0 (ho0 pb hpbg), cell_stay i1 (ho0 pb hpbg), cell_stay i2 (ho0 pb hpbg)⟩ ?_
    clear hK K i0 i1 i2
    simp only [Act.put]
    refine walkS_read (v := _) rfl (by rfl) (by intro y hy; go_simp; try rfl) ?_
    simp only [Act.put, List.setIfInBounds_toArray, List.set_cons_zero, List.set_cons_succ]
    unfold walkS
    have HQB := Lib.hid HG0
    have HR := Lib.hid (HR10.out.below hb0 (by omega))
    have HGH : Hid (BlkH y0 gH h) := Lib.hid (HGH10.out.below hb0 (by omega))
    have HPS := Lib.hid (HPS10.out.below (hb0.mono (by omega)))
    have hL : Low w y0 := Below.trans hL10 (hb0.mono (by omega))
    have hlp : gP < y0.heap.size := by omega
    have HPE := Lib.hid (show preE xs = e3 by rw [HPRE.out, rtErr_yes HLAT.out HIS.out]; exact HE3.out.symm)
    by_cases he3 : e3 = 0
    · have hq := HQ.out he3
      have HPRE0 := Lib.hid (show preE xs = 0 by rw [HPE.out]; exact he3)
      have HQV := Lib.hid (show q.v = ⟨h, rtIs ps, rtR xs ps, rtFin xs ps h.d, 0, zeroSb, zeroMb, []⟩ by
        rw [hq.1, HSY.out he3]
        unfold rtR rtFin
        rw [HIS.out]
        rfl)
      have HQRF := Lib.hid hq.2.2
      have HQO : Hid (q.ok y0 y0.heap.size) := Lib.hid (by
        have h1 := hq.2.1
        rw [hz0]
        exact ⟨h1.h, h1.r.upper hq.2.2 fun p h1 h2 => World.cell?_of_block (ho0 _ (by omega)), h1.fl, h1.fa, h1.k, Sg.ok.empty h1.t (congrArg Pb.t hq.1), Mg.ok.empty h1.m (congrArg Pb.m hq.1), h1.bm, by
          have e1 : q.bs = [] := congrArg Pb.bs hq.1
          have e2 := h1.bs.len
          rw [e1] at e2 ⊢
          have e3 : q.bm = 0 := e2.symm
          rw [e3]
          exact Bs.nil _ _ _⟩)
      obtain ⟨lo, hlo⟩ : ∃ lo, lo = w9.heap.size := ⟨_, rfl⟩
      rw [← hlo] at HQRF hlp9
      have hlo2 : gP < lo := hlp9
      subst he3
      clear hq HQ HE3 hlo hlp9 hb0 hz0 ho0 HG0 HR10 HGH10 HQB10 HPS10 hL10 hlp10 HQ1 HQ2 HQ3
      have HSAY := HSAYS
      have HPKE := Lib.hid (HPKE0.out HPRE0.out)
      clear HPRE HPRE0 HPKE0 HSAYS
      go_wp2_with fail
      refine (upper_some (some ⟨pb, po, none⟩) pn pc ps y0 (by omega) hp0 (HPS.out.more (by omega))).mono ?_
      rintro e y1 ⟨rfl, hl⟩
      have hlast : ps.getD (pn - 1) zeroP = lastP ps := by unfold lastP; rw [HPN.out]
      rw [hlast]
      obtain ⟨pl, hpl⟩ : ∃ p, p = lastP ps := ⟨_, rfl⟩
      rw [← hpl] at HUA HUL HSAY HPKE ⊢
      have hl1 : Low y0 y1 := hl
      replace HR := Lib.hid (HR.out.below hl1 HR.out.lt)
      replace HGH : Hid (BlkH y1 gH h) := Lib.hid (HGH.out.below hl1 HGH.out.lt)
      replace HQB := Lib.hid (HQB.out.below hl1 HQB.out.lt)
      replace HQO := Lib.hid (HQO.out.low hl1)
      replace hL := hL.trans hl1
      replace hlp : gP < y1.heap.size := Nat.lt_of_lt_of_le hlp hl1.size
      clear hl hl1 hlast hpl HPS
      unfold ptV
      go_wp2_with ((with_reducible refine wpList_alloc_v rfl 55 rfl (ptC zeroP) (by kernel_rfl) ?_); intro y2 HY hl2 hz2; refine Hid.out ?_)
      refine Lib.hid ?_
      go_wp2_with ((refine wpList_store_vO rfl 55 (.tmp 8) (.tmp 49) rfl y1.heap.size rfl (ptC pl) rfl _ (ptC zeroP) HY rfl (by rw [part_size]; rfl) (by simp [ptC, Value.oneCell']) ?_); intro y3 HG3 hb3 hz3 ho3; refine Hid.out ?_)
      refine Lib.hid ?_
      have hl3 : Low y1 y3 := Below.trans hl2 hb3
      replace HR := Lib.hid (HR.out.below hl3 HR.out.lt)
      replace HGH : Hid (BlkH y3 gH h) := Lib.hid (HGH.out.below hl3 HGH.out.lt)
      replace HQB := Lib.hid (HQB.out.below hl3 HQB.out.lt)
      replace HQO := Lib.hid (HQO.out.low hl3)
      replace hL := hL.trans hl3
      obtain ⟨gU, hgU⟩ : ∃ g, g = y1.heap.size := ⟨_, rfl⟩
      rw [← hgU] at HG3 hlp ⊢
      have HUP := Lib.hid HG3
      have hlu : gU < y3.heap.size := HG3.lt
      clear HG3 HY hl2 hz2 hb3 hz3 ho3 hl3 hgU
      have ku : y3.cell? ⟨gU, 0, none⟩ = some (.int .i64 pl.k) := HUP.out.cell 0
      obtain ⟨lk, hlk⟩ : ∃ k, k = pl.k := ⟨_, rfl⟩
      rw [← hlk] at HSAY HPKE ku
      clear hlk
      by_cases h6 : lk = 6
      · subst h6
        go_wp2_with fail
        refine (blank6_any y3).mono ?_
        rintro e y4 ⟨rfl, hS4, hl⟩
        have hl4 : Low y3 y4 := hl
        replace HR := Lib.hid (HR.out.below hl4 HR.out.lt)
        replace HGH : Hid (BlkH y4 gH h) := Lib.hid (HGH.out.below hl4 HGH.out.lt)
        replace HQB := Lib.hid (HQB.out.below hl4 HQB.out.lt)
        have HQO4 := Lib.hid (HQO.out.below' hl4 (Nat.le_refl _))
        replace HUP := Lib.hid (HUP.out.below hl4 hlu)
        replace hL := hL.trans hl4
        have hs4 := hl4.size
        have hs4b := hS4.lt
        obtain ⟨gS, hgS⟩ : ∃ g, g = y3.heap.size := ⟨_, rfl⟩
        rw [← hgS] at hS4 hlu hs4b HQO4 ⊢
        have HSG := Lib.hid hS4
        clear ku hl hl4 hS4 HQO hs4 hgS
        go_wp2_with ((with_reducible refine wpList_load_pt rfl (.tmp 8) rfl gU rfl pl HUP.out ?_); refine Hid.out ?_)
        refine Lib.hid ?_
        go_wp2_with fail
        refine (bytesOf_any b o n c m (n - m) pl y4 HUA.out HUL.out (by omega) hc hc2).mono ?_
        rintro e y5 ⟨⟨A3, rfl, hA3⟩, hl⟩
        have hl5 : Low y4 y5 := hl
        replace HR := Lib.hid (HR.out.below hl5 HR.out.lt)
        replace HGH : Hid (BlkH y5 gH h) := Lib.hid (HGH.out.below hl5 HGH.out.lt)
        replace HQB := Lib.hid (HQB.out.below hl5 HQB.out.lt)
        replace HQO4 := Lib.hid (HQO4.out.below' (hl5.mono (by omega)) (Nat.le_refl _))
        replace HSG := Lib.hid (HSG.out.below hl5 hs4b)
        replace hL := hL.trans hl5
        have HBB := Lib.hid ((HB.out.cutFrom (A' := A3) hmn hA3).below' hL hL.size)
        have HA3 := Lib.hid hA3
        have hs5 : gS < y5.heap.size := HSG.out.lt
        clear hl hl5 HUP hA3
        have HSRC := Lib.hid (BlkV.atSrcK HGH.out)
        have HFNR : Hid (y5.rangeAt gP 44 (cellsB q.f)) := Lib.hid (HQB.out.fin LQ1.out LQ2.out LQ3.out)
        have HFA := Lib.hid HQO4.out.fa
        have HQF := Lib.hid (show q.f = rtFin xs ps h.d from congrArg Pb.f HQV.out)
        go_wp2_with (first
          | (with_reducible refine wpList_load_at rfl (.tmp 64) rfl gH 5 rfl h.s HS.out HSRC.out ?_)
          | (with_reducible refine wpList_load_at rfl (.tmp 66) rfl gP 44 rfl q.f LQ3.out HFNR.out ?_))
        refine (segread_any gS h.s q.f A3 (n - m) (c - m) (xs.drop m) y5 HS.out LQ3.out HHO.out.vs HFA.out (by omega) (by omega) (by omega) HBB.out HSG.out).mono ?_
        rintro e y6 ⟨rfl, hbl6, hs6, hrd⟩
        rw [← HQF.out] at HPKE HSAY
        rw [← HPKE.out] at hrd ⊢
        obtain ⟨e4, he4⟩ : ∃ e4, e4 = pkE xs := ⟨_, rfl⟩
        rw [← he4] at hrd ⊢
        have HE4 := Lib.hid he4.symm
        have HRD := Lib.hid hrd
        replace HR := Lib.hid (HR.out.below hbl6 (by omega))
        replace HQB := Lib.hid (HQB.out.below hbl6 (by omega))
        replace HQO4 := Lib.hid (HQO4.out.below' hbl6 (Nat.le_refl _))
        have hL6 : Low w y6 := Below.trans hL (hbl6.mono (by omega))
        have HBB6 := Lib.hid ((HB.out.cutFrom (A' := A3) hmn HA3.out).below' hL6 hL6.size)
        clear he4 hrd HSRC HFNR HSG HGH HBB HA3
        by_cases hz4 : e4 = 0
        · subst hz4
          obtain ⟨t, htb, htv, htk, htf⟩ := HRD.out rfl
          have HTB := Lib.hid htb
          have HTV := Lib.hid htv
          have HTK := Lib.hid htk
          have HTF := Lib.hid htf
          clear htb htv htk htf HRD
          go_wp2_with fail
          refine (sclone_any A3 (n - m) (c - m) (xs.drop m) y6 (by omega) HBB6.out).mono ?_
          rintro e y7 ⟨A7, c7, rfl, hO7, hl⟩
          have hl7 : Low y6 y7 := hl
          replace HR := Lib.hid (HR.out.below hl7 HR.out.lt)
          replace HQB := Lib.hid (HQB.out.below hl7 HQB.out.lt)
          replace HQO4 := Lib.hid (HQO4.out.below' (hl7.mono (by omega)) (Nat.le_refl _))
          replace HTB := Lib.hid (HTB.out.below hl7 HTB.out.lt)
          replace HTK := Lib.hid (HTK.out.low hl7)
          have hL7 := hL6.trans hl7
          have HO7 := Lib.hid hO7
          have hs7 := hl7.size
          obtain ⟨bs, hbs⟩ : ∃ bs, bs = xs.drop m := ⟨_, rfl⟩
          rw [← hbs] at HO7 HTV HSAY ⊢
          obtain ⟨bl, hbl⟩ : ∃ bl, bl = bs.length := ⟨_, rfl⟩
          rw [← hbl] at HO7 ⊢
          have hbln : bl ≤ 140737488351232 := by
            rw [hbl, hbs, List.length_drop, HB.out.len]
            omega
          clear hl hl7 hO7 hbl hbs HBB6 hbl6
          have k75 := rangeAt_one (HQB.out.bd LQ1.out LQ2.out LQ3.out)
          have f75 := HQB.out.room 75
          have ho8 := setCell_others y7 ⟨gP, 75, none⟩ (.slice A7 bl c7)
          have HQ8 : Hid (BlkQ 38 (y7.setCell ⟨gP, 75, none⟩ (.slice A7 bl c7)) gP (setBd A7 bl c7 bs q)) := Lib.hid (HQB.out.setBd LQ1.out LQ2.out LQ3.out A7 bl c7 bs)
          have hz8 : (y7.setCell ⟨gP, 75, none⟩ (.slice A7 bl c7)).heap.size = y7.heap.size := by simp
          have hL8 : Low w (y7.setCell ⟨gP, 75, none⟩ (.slice A7 bl c7)) := hL7.setCell (by show w.heap.size ≤ gP; omega) _
          have HR8 : Hid (BlkQ 38 (y7.setCell ⟨gP, 75, none⟩ (.slice A7 bl c7)) w.heap.size zeroQ) := Lib.hid (HR.out.stay (ho8 _ (by show w.heap.size ≠ gP; omega)))
          have HTB8 : Hid (BlkV (y7.setCell ⟨gP, 75, none⟩ (.slice A7 bl c7)) 92 gS (segC t)) := Lib.hid ((ho8 _ (by show gS ≠ gP; omega)).trans HTB.out)
          have HTK8 : Hid (t.ok (y7.setCell ⟨gP, 75, none⟩ (.slice A7 bl c7)) (y7.setCell ⟨gP, 75, none⟩ (.slice A7 bl c7)).heap.size) := Lib.hid (by
            rw [hz8]
            exact HTK.out.upperK HTF.out fun p h1 h2 => World.cell?_of_block (ho8 _ (by show p.block ≠ gP; omega)))
          have HRO8 : Hid (q.r.ok (y7.setCell ⟨gP, 75, none⟩ (.slice A7 bl c7)) gS) := Lib.hid (HQO4.out.r.upper HQRF.out fun p h1 h2 => World.cell?_of_block (ho8 _ (by show p.block ≠ gP; omega)))
          have HO8 : Hid (OwnB 5 (y7.setCell ⟨gP, 75, none⟩ (.slice A7 bl c7)) y6.heap.size A7 bl c7 bs) := Lib.hid (HO7.out.others fun k hk => ho8 k (by show k ≠ gP; omega))
          have hlen8 : gS < (y7.setCell ⟨gP, 75, none⟩ (.slice A7 bl c7)).heap.size := by omega
          have LB1 : Hid ((setBd A7 bl c7 bs q).h.s.length = 16) := LQ1
          have LB2 : Hid ((setBd A7 bl c7 bs q).h.d.length = 16) := LQ2
          have LB3 : Hid ((setBd A7 bl c7 bs q).f.length = 16) := LQ3
          go_wp2_with ((with_reducible refine wpList_load_pq pkt_own rfl (.tmp 7) rfl gP rfl (setBd A7 bl c7 bs q) HQ8.out LB1.out LB2.out LB3.out ?_); refine Hid.out ?_)
          refine Lib.hid ?_
          clear k75 f75 ho8 hz8 HQ8 HTB HTK HO7 HQB HR
          generalize y7.setCell ⟨gP, 75, none⟩ (.slice A7 bl c7) = y8 at *
          go_wp2_with fail
          refine (holdseg_any gS (setBd A7 bl c7 bs q) t y8 LB1.out LB2.out LB3.out HTB8.out).mono ?_
          rintro e y9 ⟨rfl, hl⟩
          have hl9 : Low y8 y9 := hl
          have hs9 := hl9.size
          have HR9 := Lib.hid (HR8.out.below hl9 HR8.out.lt)
          have HTK9 := Lib.hid (HTK8.out.low hl9)
          have HRO9 := Lib.hid (HRO8.out.below' (hl9.mono (by omega)) (show gS ≤ y9.heap.size by omega))
          have HO9 := Lib.hid (HO8.out.below hl9)
          have hL9 := hL8.trans hl9
          have LC1 : Hid ((setTc t (setKd 6 (setBd A7 bl c7 bs q))).h.s.length = 16) := LQ1
          have LC2 : Hid ((setTc t (setKd 6 (setBd A7 bl c7 bs q))).h.d.length = 16) := LQ2
          have LC3 : Hid ((setTc t (setKd 6 (setBd A7 bl c7 bs q))).f.length = 16) := LQ3
          clear hl hl9 HR8 HTB8 HTK8 HRO8 HO8 hL8
          unfold pqV
          go_wp2_with ((refine wpList_store_pq pkt_own rfl (.tmp 2) (.tmp 79) rfl w.heap.size rfl (setTc t (setKd 6 (setBd A7 bl c7 bs q))) rfl zeroQ HR9.out rfl rfl rfl LC1.out LC2.out LC3.out ?_); intro wF HG hbF hzF hoF; refine Hid.out ?_)
          refine Lib.hid ?_
          replace HG := Lib.hid HG
          have HRk : Hid (q.r.ok wF wF.heap.size) := Lib.hid (by rw [hzF]; exact HRO9.out.upper HQRF.out (fun p h1 h2 => World.cell?_of_block (hoF _ (by omega))))
          have HTk : Hid (t.ok wF wF.heap.size) := Lib.hid (by rw [hzF]; exact HTK9.out.upperK HTF.out fun p h1 h2 => World.cell?_of_block (hoF _ (by omega)))
          have HBk : Hid (Bs wF wF.heap.size A7 bl bs) := Lib.hid ((HO9.out.others fun k hk => hoF k (by omega)).bs (Nat.le_refl _))
          have HOKF : Hid (Pq.ok wF wF.heap.size (setTc t (setKd 6 (setBd A7 bl c7 bs q)))) := Lib.hid ⟨HQO4.out.h, HRk.out, HQO4.out.fl, HQO4.out.fa, by show i64ok 6; unfold i64ok; omega, HTk.out, Mg.ok.empty HQO4.out.m (congrArg Pb.m HQV.out), hbln, HBk.out⟩
          have HTW := Lib.hid (show t.v = (parseS bs).1 by rw [HTV.out])
          have HQVF := Lib.hid (show q.v = ⟨h, rtIs ps, rtR xs ps, q.f, 0, zeroSb, zeroMb, []⟩ by rw [HQF.out]; exact HQV.out)
          go_wp2_with fail
          exact ret_pq pkt_own Tryz.results4 rfl rfl HG.out LC1.out LC2.out LC3.out (GivesPk.own6 HQVF.out HTW.out HE4.out HSAY.out HOKF.out (Below.trans hL9 hbF)) rfl
        · have hne : (e4 != 0) = true := by simpa using hz4
          clear HRD HQB HQO4 HBB6
          go_wp2_with (first
            | (with_reducible refine wpList_build0 (pqC zeroQ) build0_pk rfl rfl ?_)
            | ((refine wpList_store_pq pkt_own rfl (.tmp 2) (.tmp 72) rfl w.heap.size rfl zeroQ rfl zeroQ HR.out rfl rfl rfl rfl rfl rfl ?_); intro w14 HG hb14 hz14 ho14; refine Hid.out ?_))
          refine Lib.hid ?_
          replace HG := Lib.hid HG
          go_wp2_with fail
          exact ret_pq pkt_own Tryz.results4 rfl rfl HG.out rfl rfl rfl (GivesPk.no HE4.out hz4 (Below.trans hL6 hb14)) rfl
      · by_cases h58 : lk = 58
        · subst h58
          go_wp2_with fail
          refine (blank58_any y3).mono ?_
          rintro e y4 ⟨rfl, hS4, hl⟩
          have hl4 : Low y3 y4 := hl
          replace HR := Lib.hid (HR.out.below hl4 HR.out.lt)
          replace HGH : Hid (BlkH y4 gH h) := Lib.hid (HGH.out.below hl4 HGH.out.lt)
          replace HQB := Lib.hid (HQB.out.below hl4 HQB.out.lt)
          have HQO4 := Lib.hid (HQO.out.below' hl4 (Nat.le_refl _))
          replace HUP := Lib.hid (HUP.out.below hl4 hlu)
          replace hL := hL.trans hl4
          have hs4 := hl4.size
          have hs4b := hS4.lt
          obtain ⟨gS, hgS⟩ : ∃ g, g = y3.heap.size := ⟨_, rfl⟩
          rw [← hgS] at hS4 hlu hs4b HQO4 ⊢
          have HSG := Lib.hid hS4
          clear ku hl hl4 hS4 HQO hs4 hgS
          go_wp2_with ((with_reducible refine wpList_load_pt rfl (.tmp 8) rfl gU rfl pl HUP.out ?_); refine Hid.out ?_)
          refine Lib.hid ?_
          go_wp2_with fail
          refine (bytesOf_any b o n c m (n - m) pl y4 HUA.out HUL.out (by omega) hc hc2).mono ?_
          rintro e y5 ⟨⟨A3, rfl, hA3⟩, hl⟩
          have hl5 : Low y4 y5 := hl
          replace HR := Lib.hid (HR.out.below hl5 HR.out.lt)
          replace HGH : Hid (BlkH y5 gH h) := Lib.hid (HGH.out.below hl5 HGH.out.lt)
          replace HQB := Lib.hid (HQB.out.below hl5 HQB.out.lt)
          replace HQO4 := Lib.hid (HQO4.out.below' (hl5.mono (by omega)) (Nat.le_refl _))
          replace HSG := Lib.hid (HSG.out.below hl5 hs4b)
          replace hL := hL.trans hl5
          have HBB := Lib.hid ((HB.out.cutFrom (A' := A3) hmn hA3).below' hL hL.size)
          have HA3 := Lib.hid hA3
          have hs5 : gS < y5.heap.size := HSG.out.lt
          clear hl hl5 HUP hA3
          have HSRC := Lib.hid (BlkV.atSrcK HGH.out)
          have HFNR : Hid (y5.rangeAt gP 44 (cellsB q.f)) := Lib.hid (HQB.out.fin LQ1.out LQ2.out LQ3.out)
          have HFA := Lib.hid HQO4.out.fa
          have HQF := Lib.hid (show q.f = rtFin xs ps h.d from congrArg Pb.f HQV.out)
          go_wp2_with (first
            | (with_reducible refine wpList_load_at rfl (.tmp 64) rfl gH 5 rfl h.s HS.out HSRC.out ?_)
            | (with_reducible refine wpList_load_at rfl (.tmp 66) rfl gP 44 rfl q.f LQ3.out HFNR.out ?_))
          refine (msgread_any gS h.s q.f A3 (n - m) (c - m) (xs.drop m) y5 HS.out LQ3.out HHO.out.vs HFA.out (by omega) (by omega) (by omega) HBB.out HSG.out).mono ?_
          rintro e y6 ⟨rfl, hbl6, hs6, hrd⟩
          rw [← HQF.out] at HPKE HSAY
          rw [← HPKE.out] at hrd ⊢
          obtain ⟨e4, he4⟩ : ∃ e4, e4 = pkE xs := ⟨_, rfl⟩
          rw [← he4] at hrd ⊢
          have HE4 := Lib.hid he4.symm
          have HRD := Lib.hid hrd
          replace HR := Lib.hid (HR.out.below hbl6 (by omega))
          replace HQB := Lib.hid (HQB.out.below hbl6 (by omega))
          replace HQO4 := Lib.hid (HQO4.out.below' hbl6 (Nat.le_refl _))
          have hL6 : Low w y6 := Below.trans hL (hbl6.mono (by omega))
          have HBB6 := Lib.hid ((HB.out.cutFrom (A' := A3) hmn HA3.out).below' hL6 hL6.size)
          clear he4 hrd HSRC HFNR HSG HGH HBB HA3
          by_cases hz4 : e4 = 0
          · subst hz4
            obtain ⟨t, htb, htv, htk, htf⟩ := HRD.out rfl
            have HTB := Lib.hid htb
            have HTV := Lib.hid htv
            have HTK := Lib.hid htk
            have HTF := Lib.hid htf
            clear htb htv htk htf HRD
            go_wp2_with fail
            refine (sclone_any A3 (n - m) (c - m) (xs.drop m) y6 (by omega) HBB6.out).mono ?_
            rintro e y7 ⟨A7, c7, rfl, hO7, hl⟩
            have hl7 : Low y6 y7 := hl
            replace HR := Lib.hid (HR.out.below hl7 HR.out.lt)
            replace HQB := Lib.hid (HQB.out.below hl7 HQB.out.lt)
            replace HQO4 := Lib.hid (HQO4.out.below' (hl7.mono (by omega)) (Nat.le_refl _))
            replace HTB := Lib.hid (HTB.out.below hl7 HTB.out.lt)
            replace HTK := Lib.hid (HTK.out.low hl7)
            have hL7 := hL6.trans hl7
            have HO7 := Lib.hid hO7
            have hs7 := hl7.size
            obtain ⟨bs, hbs⟩ : ∃ bs, bs = xs.drop m := ⟨_, rfl⟩
            rw [← hbs] at HO7 HTV HSAY ⊢
            obtain ⟨bl, hbl⟩ : ∃ bl, bl = bs.length := ⟨_, rfl⟩
            rw [← hbl] at HO7 ⊢
            have hbln : bl ≤ 140737488351232 := by
              rw [hbl, hbs, List.length_drop, HB.out.len]
              omega
            clear hl hl7 hO7 hbl hbs HBB6 hbl6
            have k75 := rangeAt_one (HQB.out.bd LQ1.out LQ2.out LQ3.out)
            have f75 := HQB.out.room 75
            have ho8 := setCell_others y7 ⟨gP, 75, none⟩ (.slice A7 bl c7)
            have HQ8 : Hid (BlkQ 38 (y7.setCell ⟨gP, 75, none⟩ (.slice A7 bl c7)) gP (setBd A7 bl c7 bs q)) := Lib.hid (HQB.out.setBd LQ1.out LQ2.out LQ3.out A7 bl c7 bs)
            have hz8 : (y7.setCell ⟨gP, 75, none⟩ (.slice A7 bl c7)).heap.size = y7.heap.size := by simp
            have hL8 : Low w (y7.setCell ⟨gP, 75, none⟩ (.slice A7 bl c7)) := hL7.setCell (by show w.heap.size ≤ gP; omega) _
            have HR8 : Hid (BlkQ 38 (y7.setCell ⟨gP, 75, none⟩ (.slice A7 bl c7)) w.heap.size zeroQ) := Lib.hid (HR.out.stay (ho8 _ (by show w.heap.size ≠ gP; omega)))
            have HTB8 : Hid (BlkV (y7.setCell ⟨gP, 75, none⟩ (.slice A7 bl c7)) 94 gS (msgC t)) := Lib.hid ((ho8 _ (by show gS ≠ gP; omega)).trans HTB.out)
            have HTK8 : Hid (t.ok (y7.setCell ⟨gP, 75, none⟩ (.slice A7 bl c7)) (y7.setCell ⟨gP, 75, none⟩ (.slice A7 bl c7)).heap.size) := Lib.hid (by
              rw [hz8]
              exact HTK.out.upperK HTF.out fun p h1 h2 => World.cell?_of_block (ho8 _ (by show p.block ≠ gP; omega)))
            have HRO8 : Hid (q.r.ok (y7.setCell ⟨gP, 75, none⟩ (.slice A7 bl c7)) gS) := Lib.hid (HQO4.out.r.upper HQRF.out fun p h1 h2 => World.cell?_of_block (ho8 _ (by show p.block ≠ gP; omega)))
            have HO8 : Hid (OwnB 5 (y7.setCell ⟨gP, 75, none⟩ (.slice A7 bl c7)) y6.heap.size A7 bl c7 bs) := Lib.hid (HO7.out.others fun k hk => ho8 k (by show k ≠ gP; omega))
            have hlen8 : gS < (y7.setCell ⟨gP, 75, none⟩ (.slice A7 bl c7)).heap.size := by omega
            have LB1 : Hid ((setBd A7 bl c7 bs q).h.s.length = 16) := LQ1
            have LB2 : Hid ((setBd A7 bl c7 bs q).h.d.length = 16) := LQ2
            have LB3 : Hid ((setBd A7 bl c7 bs q).f.length = 16) := LQ3
            go_wp2_with ((with_reducible refine wpList_load_pq pkt_own rfl (.tmp 7) rfl gP rfl (setBd A7 bl c7 bs q) HQ8.out LB1.out LB2.out LB3.out ?_); refine Hid.out ?_)
            refine Lib.hid ?_
            clear k75 f75 ho8 hz8 HQ8 HTB HTK HO7 HQB HR
            generalize y7.setCell ⟨gP, 75, none⟩ (.slice A7 bl c7) = y8 at *
            go_wp2_with fail
            refine (holdmsg_any gS (setBd A7 bl c7 bs q) t y8 LB1.out LB2.out LB3.out HTB8.out).mono ?_
            rintro e y9 ⟨rfl, hl⟩
            have hl9 : Low y8 y9 := hl
            have hs9 := hl9.size
            have HR9 := Lib.hid (HR8.out.below hl9 HR8.out.lt)
            have HTK9 := Lib.hid (HTK8.out.low hl9)
            have HRO9 := Lib.hid (HRO8.out.below' (hl9.mono (by omega)) (show gS ≤ y9.heap.size by omega))
            have HO9 := Lib.hid (HO8.out.below hl9)
            have hL9 := hL8.trans hl9
            have LC1 : Hid ((setMs t (setKd 58 (setBd A7 bl c7 bs q))).h.s.length = 16) := LQ1
            have LC2 : Hid ((setMs t (setKd 58 (setBd A7 bl c7 bs q))).h.d.length = 16) := LQ2
            have LC3 : Hid ((setMs t (setKd 58 (setBd A7 bl c7 bs q))).f.length = 16) := LQ3
            clear hl hl9 HR8 HTB8 HTK8 HRO8 HO8 hL8
            unfold pqV
            go_wp2_with ((refine wpList_store_pq pkt_own rfl (.tmp 2) (.tmp 79) rfl w.heap.size rfl (setMs t (setKd 58 (setBd A7 bl c7 bs q))) rfl zeroQ HR9.out rfl rfl rfl LC1.out LC2.out LC3.out ?_); intro wF HG hbF hzF hoF; refine Hid.out ?_)
            refine Lib.hid ?_
            replace HG := Lib.hid HG
            have HRk : Hid (q.r.ok wF wF.heap.size) := Lib.hid (by rw [hzF]; exact HRO9.out.upper HQRF.out (fun p h1 h2 => World.cell?_of_block (hoF _ (by omega))))
            have HTk : Hid (t.ok wF wF.heap.size) := Lib.hid (by rw [hzF]; exact HTK9.out.upperK HTF.out fun p h1 h2 => World.cell?_of_block (hoF _ (by omega)))
            have HBk : Hid (Bs wF wF.heap.size A7 bl bs) := Lib.hid ((HO9.out.others fun k hk => hoF k (by omega)).bs (Nat.le_refl _))
            have HOKF : Hid (Pq.ok wF wF.heap.size (setMs t (setKd 58 (setBd A7 bl c7 bs q)))) := Lib.hid ⟨HQO4.out.h, HRk.out, HQO4.out.fl, HQO4.out.fa, by show i64ok 58; unfold i64ok; omega, Sg.ok.empty HQO4.out.t (congrArg Pb.t HQV.out), HTk.out, hbln, HBk.out⟩
            have HTW := Lib.hid (show t.v = parseM h.s q.f bs by rw [HTV.out])
            have HQVF := Lib.hid (show q.v = ⟨h, rtIs ps, rtR xs ps, q.f, 0, zeroSb, zeroMb, []⟩ by rw [HQF.out]; exact HQV.out)
            go_wp2_with fail
            exact ret_pq pkt_own Tryz.results4 rfl rfl HG.out LC1.out LC2.out LC3.out (GivesPk.own58 HQVF.out HTW.out HE4.out HSAY.out HOKF.out (Below.trans hL9 hbF)) rfl
          · have hne : (e4 != 0) = true := by simpa using hz4
            clear HRD HQB HQO4 HBB6
            go_wp2_with (first
              | (with_reducible refine wpList_build0 (pqC zeroQ) build0_pk rfl rfl ?_)
              | ((refine wpList_store_pq pkt_own rfl (.tmp 2) (.tmp 72) rfl w.heap.size rfl zeroQ rfl zeroQ HR.out rfl rfl rfl rfl rfl rfl ?_); intro w14 HG hb14 hz14 ho14; refine Hid.out ?_))
            refine Lib.hid ?_
            replace HG := Lib.hid HG
            go_wp2_with fail
            exact ret_pq pkt_own Tryz.results4 rfl rfl HG.out rfl rfl rfl (GivesPk.no HE4.out hz4 (Below.trans hL6 hb14)) rfl
        · have HE := Lib.hid (show pkE xs = 7 by rw [HPKE.out]; unfold upE; rw [if_neg h6, if_neg h58])
          clear HUP HQB HQO HGH HSAY HPKE
          go_wp2_with fail
          refine (blank_no lk y3 h6 h58).mono ?_
          rintro e y4 ⟨rfl, hl⟩
          have hl4 : Low y3 y4 := hl
          replace HR := Lib.hid (HR.out.below hl4 HR.out.lt)
          replace hL := hL.trans hl4
          clear ku hl hl4
          go_wp2_with (first
            | (with_reducible refine wpList_build0 (pqC zeroQ) build0_pk rfl rfl ?_)
            | ((refine wpList_store_pq pkt_own rfl (.tmp 2) (.tmp 59) rfl w.heap.size rfl zeroQ rfl zeroQ HR.out rfl rfl rfl rfl rfl rfl ?_); intro w14 HG hb14 hz14 ho14; refine Hid.out ?_))
          refine Lib.hid ?_
          replace HG := Lib.hid HG
          go_wp2_with fail
          exact ret_pq pkt_own Tryz.results4 rfl rfl HG.out rfl rfl rfl (GivesPk.no HE.out (by omega) (Below.trans hL hb14)) rfl
    · have hne : (e3 != 0) = true := by simpa using he3
      have HE := Lib.hid (pk_none HPE.out he3)
      clear HQ HQB HPS HGH
      go_wp2_with (first
        | (with_reducible refine wpList_build0 (pqC zeroQ) build0_pk rfl rfl ?_)
        | ((refine wpList_store_pq pkt_own rfl (.tmp 2) (.tmp 44) rfl w.heap.size rfl zeroQ rfl zeroQ HR.out rfl rfl rfl rfl rfl rfl ?_); intro w14 HG hb14 hz14 ho14; refine Hid.out ?_))
      refine Lib.hid ?_
      replace HG := Lib.hid HG
      go_wp2_with fail
      exact ret_pq pkt_own Tryz.results4 rfl rfl HG.out rfl rfl rfl (GivesPk.no HE.out he3 (Below.trans hL hb14)) rfl

theorem pkparse_any : PktParses := by
  intro A n c xs w hn hc hc2 hb
  by_cases h0 : hdE xs = 0
  · cases hi : rtIs (pkW xs).1
    · exact pkparse_plain A n c xs w hn hc hc2 hb h0 hi
    · exact pkparse_rt A n c xs w hn hc hc2 hb h0 hi
  · exact pkparse_err A n c xs w hn hc hc2 hb h0
end Go.Proofs.YtjafjapnmffohaaGreatDoor
