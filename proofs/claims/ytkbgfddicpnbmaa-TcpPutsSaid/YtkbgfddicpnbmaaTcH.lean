/- What the document's Put answers: the bytes of a segment. Condition: at most 2^47 options, and as many bytes of payload. -/
import Derived.Test.YtkbgfddicpnbmaaTcG
import Derived.Test.YtkbgfddicpnbmaaTcF
import Derived.Test.YtkbgfddicpnbmaaRefA
import Derived.Test.YtkbgfddicpnbmaaReg3
namespace Go.Proofs.Ytkbgfddicpnbmaa
open Go.RowKit
set_option linter.unusedVariables false

set_option maxRecDepth 100000 in
set_option maxHeartbeats 1600000 in
theorem trcput_any (t : Sg) (w : World) (ht : t.ok w w.heap.size) : Calls Try.prog 11 #[segV t] w (GivesBE w (putS t.v) (canS t.v)) := by
  unfold segV
  obtain ⟨i0, hi, hz0, hz1, hz2⟩ := info_parts info5
  have HT := Lib.hid ht
  clear ht
  go_enter Try.func11, Try.ntmps11
  go_wp2_with ((with_reducible refine wpList_box_seg rfl (.tmp 0) rfl t rfl ?_); intro w1 HB hL hz; refine Hid.out ?_)
  refine Lib.hid ?_
  replace HB := Lib.hid HB
  clear hz
  go_wp2_with (with_reducible refine wpList_load_seg rfl (.tmp 1) rfl w.heap.size rfl t HB.out ?_)
  refine (trccan_any t w1 (HT.out.low hL)).mono ?_
  rintro e w2 ⟨rfl, hB2⟩
  replace HB := Lib.hid (HB.out.below hB2 HB.out.lt)
  replace hL := Low.trans hL hB2
  clear hB2
  by_cases hcan : canS t.v = 0
  · have HP := Lib.hid (show putS t.v = headS t.v ++ putO t.v.os ++ t.v.ps by unfold putS; rw [if_pos hcan])
    obtain ⟨hf, hco, hlen⟩ := canS_zero hcan
    obtain ⟨b1, b2, b3, b4, b5, b6⟩ := fitB_spec hf
    have HCAN := Lib.hid hcan
    rw [hcan]
    obtain ⟨-, hq40, hq4⟩ := parse_put hco
    replace hq40 : (putO (t.os.map Od.v)).length ≤ 40 := hq40
    replace hq4 : (putO (t.os.map Od.v)).length % 4 = 0 := hq4
    replace hlen : (t.ps.length : Int) ≤ 65515 - ((putO (t.os.map Od.v)).length : Int) := hlen
    rw [HT.out.ps.len] at hlen
    replace b6 : 0 ≤ t.fl ∧ t.fl ≤ 255 := b6
    have HCO := Lib.hid (show canO (t.os.map Od.v) = 0 from hco)
    replace HP : Hid (putS t.v = headS t.v ++ putO (t.os.map Od.v) ++ t.ps) := HP
    have HH := Lib.hid (show headS t.v = two t.sp ++ two t.dp ++ four t.sq ++ four t.ak ++ [(5 + ((putO (t.os.map Od.v)).length : Int) / 4) * 16, t.fl] ++ two t.wi ++ two t.su ++ two t.ur from rfl)
    clear hcan hf hco b1 b2 b3 b4 b5
    obtain ⟨c0, c1, c2, c3, c4, c5, c6, c7, c8, c9⟩ := BlkS.cells HB.out
    clear c0 c1 c2 c3 c4 c5 c6 c7 c9
    go_wp2_with fail
    refine (trput_any t.oA t.om t.oc t.os w2 (by have := HT.out.om; omega) (HT.out.low hL).os).mono ?_
    rintro e w3 ⟨A3, r3, rfl, hb3, -, hB3⟩
    rw [HCO.out]
    generalize putO (t.os.map Od.v) = ys at *
    obtain ⟨q, hq⟩ : ∃ q, q = ys.length := ⟨_, rfl⟩
    rw [← hq] at hb3 hq40 hq4 hlen HH ⊢
    replace HB := Lib.hid (HB.out.below hB3 HB.out.lt)
    replace hL := Low.trans hL hB3
    clear hB3 c8 hq
    go_wp2_with fail
    refine wp_region_planS (fun y => Below w3.drew.heap.size w3.drew y) (.rd 0 (.rd 1 (.rd 3 (.rd 4 (.act 2 (.act 5 (.act 6 (.rd 7 .done)))))))) (by kernel_rfl) (by kernel_rfl) (fun _ _ d _ _ h => by cases d <;> exact h) (by kernel_rfl) (Below.refl _ _) ?_
    replace hL := hL.trans (Below.drew (Below.refl w3.heap.size w3))
    replace hb3 : Bs w3.drew w3.drew.heap.size A3 q ys := hb3.drew
    replace HB := Lib.hid HB.out.drew
    generalize w3.drew = u at *
    have HO := Lib.hid hb3
    have HPS := Lib.hid (HT.out.low hL).ps
    obtain ⟨c0, c1, c2, c3, c4, c5, c6, c7, c8, c9⟩ := BlkS.cells HB.out
    have hlt := HB.out.lt
    clear hb3 HB
    iterate 4 (refine walkS_read (v := _) rfl (by rfl) (by intro y hy; have e0 := (hy.cell (p := ⟨w.heap.size, 0, none⟩) hlt).trans c0; have e1 := (hy.cell (p := ⟨w.heap.size, 1, none⟩) hlt).trans c1; go_simp; try rfl) ?_; simp only [Act.put, List.setIfInBounds_toArray, List.set_cons_zero, List.set_cons_succ])
    have HC : Hid (_ ∧ _ ∧ _ ∧ _ ∧ _ ∧ _ ∧ _) := Lib.hid ⟨c2, c3, c4, c5, c6, c7, c9⟩
    clear c0 c1 c2 c3 c4 c5 c6 c7 c8 c9
    refine walkS_act rfl (by rfl) (fun K hK => ?_)
    go_simp
    refine (rtwo_any t.sp u HT.out.sp).mono ?_
    rintro e w5 ⟨v, rfl, g5, rfl, hg5, hk5, hl5, ha5, hl⟩
    go_simp
    refine hK _ _ hl ?_
    clear hK K
    have hLB : Below u.heap.size u w5 := hl
    refine walkS_act rfl (by rfl) (fun K hK => ?_)
    go_simp
    refine (rtwo_any t.dp w5 HT.out.dp).mono ?_
    rintro e w6 ⟨v, rfl, g6, rfl, hg6, hk6, hl6, ha6, hl7⟩
    go_simp
    replace hLB := Low.trans hLB hl7
    refine hK _ _ hLB ?_
    clear hK K
    have hO6 := OwnB.ofBlk (base := u.heap.size) (hk5.below hl7 hk5.lt) ha5 hg5 hl5 (by simp only [maxLen]; omega)
    have hb6 := hk6.bs ha6 hk6.lt hl6
    clear hl hl7 hk5 hk6 ha5 ha6 hl5 hl6 hg5 hg6
    refine walkS_act rfl (by rfl) (fun K hK => ?_)
    refine wp_append_bs (.tmp 21) (.tmp 24) _ rfl u.heap.size 5 i0 Try.underlying24 hi hz0 hz1 hz2 _ 2 2 _ rfl hO6 _ 2 2 _ _ rfl hb6 (by omega) hLB.size ?_
    intro A7 r7 w7 hO7 hg7 hx7
    clear hx7
    have hLC : Below u.heap.size u w7 := hLB.grown hg7 hLB.size (fun k hk => (hO6.lt k hk).1)
    refine hK _ _ hLC ?_
    clear hK K hO6 hb6 hg7 hLB
    replace hO7 : OwnB 5 w7 u.heap.size A7 4 r7 (two t.sp ++ two t.dp) := hO7
    generalize two t.sp ++ two t.dp = z4 at *
    simp only [Act.put, List.setIfInBounds_toArray, List.set_cons_zero, List.set_cons_succ]
    iterate 1 (refine walkS_read (v := _) rfl (by rfl) (by intro y hy; go_simp; try rfl) ?_; simp only [Act.put, List.setIfInBounds_toArray, List.set_cons_zero, List.set_cons_succ])
    unfold walkS
    have cc := (hLC.cell (p := ⟨w.heap.size, 2, none⟩) hlt).trans HC.out.1
    go_wp2_with fail
    refine (rfour_any t.sq w7 HT.out.sq).mono ?_
    rintro e wc1 ⟨Ac1, rc1, rfl, hbc1, hl⟩
    have hM1 := Below.trans hLC (hl.mono hLC.size)
    have hOc1 := hO7.below hl
    clear cc hl hO7 hLC
    go_wp2_with (at_builtin; refine wpList_append_bs rfl (.tmp 26) (.tmp 29) _ rfl u.heap.size 5 i0 Try.underlying24 hi hz0 hz1 hz2 _ 4 r7 _ rfl hOc1 Ac1 4 rc1 _ _ rfl hbc1 (by omega) hM1.size ?_; intro An1 rn1 wn1 hO hg hx; refine Hid.out ?_)
    refine Lib.hid ?_
    have hLn1 : Below u.heap.size u wn1 := hM1.grown hg hM1.size (fun k hk => (hOc1.lt k hk).1)
    have hOn1 : OwnB 5 wn1 u.heap.size An1 8 rn1 (z4 ++ four t.sq) := hO
    clear hO hg hx hOc1 hbc1 hM1
    generalize z4 ++ four t.sq = z8_ at *
    have cc := (hLn1.cell (p := ⟨w.heap.size, 3, none⟩) hlt).trans HC.out.2.1
    go_wp2_with fail
    refine (rfour_any t.ak wn1 HT.out.ak).mono ?_
    rintro e wc2 ⟨Ac2, rc2, rfl, hbc2, hl⟩
    have hM2 := Below.trans hLn1 (hl.mono hLn1.size)
    have hOc2 := hOn1.below hl
    clear cc hl hOn1 hLn1
    go_wp2_with (at_builtin; refine wpList_append_bs rfl (.tmp 31) (.tmp 34) _ rfl u.heap.size 5 i0 Try.underlying24 hi hz0 hz1 hz2 _ 8 rn1 _ rfl hOc2 Ac2 4 rc2 _ _ rfl hbc2 (by omega) hM2.size ?_; intro An2 rn2 wn2 hO hg hx; refine Hid.out ?_)
    refine Lib.hid ?_
    have hLn2 : Below u.heap.size u wn2 := hM2.grown hg hM2.size (fun k hk => (hOc2.lt k hk).1)
    have hOn2 : OwnB 5 wn2 u.heap.size An2 12 rn2 (z8_ ++ four t.ak) := hO
    clear hO hg hx hOc2 hbc2 hM2
    generalize z8_ ++ four t.ak = z12_ at *
    have cc := (hLn2.cell (p := ⟨w.heap.size, 4, none⟩) hlt).trans HC.out.2.2.1
    have hwr : 0 ≤ (5 + (q : Int) / 4) * 16 ∧ (5 + (q : Int) / 4) * 16 < 256 := by omega
    have hla := Low.alloc wn2 (.cells #[.int .u8 ((5 + (q : Int) / 4) * 16), .int .u8 t.fl] 5)
    have hka : Blk (wn2.alloc (.cells #[.int .u8 ((5 + (q : Int) / 4) * 16), .int .u8 t.fl] 5)) 5 wn2.heap.size [(5 + (q : Int) / 4) * 16, t.fl] := Blk.new wn2 5 [(5 + (q : Int) / 4) * 16, t.fl]
    have hba := hka.bs (.cons hwr.1 hwr.2 (.cons b6.1 (by omega) .nil)) hka.lt rfl
    have hM := Below.trans hLn2 (hla.mono hLn2.size)
    have hOa := hOn2.below hla
    clear hla hka hOn2 hLn2
    go_wp2_with (at_builtin; refine wpList_append_bs rfl (.tmp 36) (.tmp 46) _ rfl u.heap.size 5 i0 Try.underlying24 hi hz0 hz1 hz2 _ 12 rn2 _ rfl hOa (some ⟨wn2.heap.size, 0, none⟩) 2 2 _ _ rfl hba (by omega) hM.size ?_; intro Aa ra wa hO hg hx; refine Hid.out ?_)
    refine Lib.hid ?_
    have hLa : Below u.heap.size u wa := hM.grown hg hM.size (fun k hk => (hOa.lt k hk).1)
    have hOb : OwnB 5 wa u.heap.size Aa 14 ra (z12_ ++ [(5 + (q : Int) / 4) * 16, t.fl]) := hO
    clear hO hg hx hOa hba hM cc
    generalize z12_ ++ [(5 + (q : Int) / 4) * 16, t.fl] = z14 at *
    have cc := (hLa.cell (p := ⟨w.heap.size, 5, none⟩) hlt).trans HC.out.2.2.2.1
    go_wp2_with fail
    refine (rtwo_any t.wi wa HT.out.wi).mono ?_
    rintro e wc4 ⟨v, rfl, gc4, rfl, hgc, hkc, hlc, hac, hl⟩
    have hbc4 := hkc.bs hac hkc.lt hlc
    clear hgc hkc hlc hac
    have hM4 := Below.trans hLa (hl.mono hLa.size)
    have hOc4 := hOb.below hl
    clear cc hl hOb hLa
    go_wp2_with (at_builtin; refine wpList_append_bs rfl (.tmp 48) (.tmp 51) _ rfl u.heap.size 5 i0 Try.underlying24 hi hz0 hz1 hz2 _ 14 ra _ rfl hOc4 _ 2 2 _ _ rfl hbc4 (by omega) hM4.size ?_; intro An4 rn4 wn4 hO hg hx; refine Hid.out ?_)
    refine Lib.hid ?_
    have hLn4 : Below u.heap.size u wn4 := hM4.grown hg hM4.size (fun k hk => (hOc4.lt k hk).1)
    have hOn4 : OwnB 5 wn4 u.heap.size An4 16 rn4 (z14 ++ two t.wi) := hO
    clear hO hg hx hOc4 hbc4 hM4
    generalize z14 ++ two t.wi = z16_ at *
    have cc := (hLn4.cell (p := ⟨w.heap.size, 6, none⟩) hlt).trans HC.out.2.2.2.2.1
    go_wp2_with fail
    refine (rtwo_any t.su wn4 HT.out.su).mono ?_
    rintro e wc5 ⟨v, rfl, gc5, rfl, hgc, hkc, hlc, hac, hl⟩
    have hbc5 := hkc.bs hac hkc.lt hlc
    clear hgc hkc hlc hac
    have hM5 := Below.trans hLn4 (hl.mono hLn4.size)
    have hOc5 := hOn4.below hl
    clear cc hl hOn4 hLn4
    go_wp2_with (at_builtin; refine wpList_append_bs rfl (.tmp 53) (.tmp 56) _ rfl u.heap.size 5 i0 Try.underlying24 hi hz0 hz1 hz2 _ 16 rn4 _ rfl hOc5 _ 2 2 _ _ rfl hbc5 (by omega) hM5.size ?_; intro An5 rn5 wn5 hO hg hx; refine Hid.out ?_)
    refine Lib.hid ?_
    have hLn5 : Below u.heap.size u wn5 := hM5.grown hg hM5.size (fun k hk => (hOc5.lt k hk).1)
    have hOn5 : OwnB 5 wn5 u.heap.size An5 18 rn5 (z16_ ++ two t.su) := hO
    clear hO hg hx hOc5 hbc5 hM5
    generalize z16_ ++ two t.su = z18_ at *
    have cc := (hLn5.cell (p := ⟨w.heap.size, 7, none⟩) hlt).trans HC.out.2.2.2.2.2.1
    go_wp2_with fail
    refine (rtwo_any t.ur wn5 HT.out.ur).mono ?_
    rintro e wc6 ⟨v, rfl, gc6, rfl, hgc, hkc, hlc, hac, hl⟩
    have hbc6 := hkc.bs hac hkc.lt hlc
    clear hgc hkc hlc hac
    have hM6 := Below.trans hLn5 (hl.mono hLn5.size)
    have hOc6 := hOn5.below hl
    clear cc hl hOn5 hLn5
    go_wp2_with (at_builtin; refine wpList_append_bs rfl (.tmp 58) (.tmp 61) _ rfl u.heap.size 5 i0 Try.underlying24 hi hz0 hz1 hz2 _ 18 rn5 _ rfl hOc6 _ 2 2 _ _ rfl hbc6 (by omega) hM6.size ?_; intro An6 rn6 wn6 hO hg hx; refine Hid.out ?_)
    refine Lib.hid ?_
    have hLn6 : Below u.heap.size u wn6 := hM6.grown hg hM6.size (fun k hk => (hOc6.lt k hk).1)
    have hOn6 : OwnB 5 wn6 u.heap.size An6 20 rn6 (z18_ ++ two t.ur) := hO
    clear hO hg hx hOc6 hbc6 hM6
    rw [← HH.out] at hOn6
    generalize headS t.v = hd at *
    have hbo := HO.out.below hLn6
    go_wp2_with (at_builtin; refine wpList_append_bs rfl (.tmp 63) (.tmp 64) _ rfl u.heap.size 5 i0 Try.underlying24 hi hz0 hz1 hz2 _ 20 rn6 _ rfl hOn6 A3 q r3 _ _ rfl hbo (by omega) hLn6.size ?_; intro Ax rx wx hO hg hx; refine Hid.out ?_)
    refine Lib.hid ?_
    have hLx : Below u.heap.size u wx := hLn6.grown hg hLn6.size (fun k hk => (hOn6.lt k hk).1)
    have hOx : OwnB 5 wx u.heap.size Ax (20 + q) rx (hd ++ ys) := hO
    clear hO hg hx hOn6 hbo hLn6
    have cc := (hLx.cell (p := ⟨w.heap.size, 9, none⟩) hlt).trans HC.out.2.2.2.2.2.2
    have hbp := HPS.out.below hLx
    go_wp2_with (at_builtin; refine wpList_append_bs rfl (.tmp 66) (.tmp 68) _ rfl u.heap.size 5 i0 Try.underlying24 hi hz0 hz1 hz2 _ (20 + q) rx _ rfl hOx t.pA t.pm t.pc _ _ rfl hbp (by omega) hLx.size ?_; intro Ay ry wy hO hg hx; refine Hid.out ?_)
    refine Lib.hid ?_
    have hLy : Below u.heap.size u wy := hLx.grown hg hLx.size (fun k hk => (hOx.lt k hk).1)
    have hcap := hO.cap
    have hby := hO.bs (Nat.le_refl _)
    have hLz : Below w.heap.size w wy := Below.trans hL (hLy.mono hL.size)
    clear hO hg hx hOx hbp hLx cc hLy
    go_wp2_with fail
    go_ret2
    exact GivesBE.of HP.out HCAN.out hby hcap.1 (by have := hcap.2; simp only [maxLen] at this; omega) hLz
  · have HP := Lib.hid (show putS t.v = [] by unfold putS; rw [if_neg hcan])
    obtain ⟨x, hx⟩ : ∃ x, x = canS t.v := ⟨_, rfl⟩
    rw [← hx] at hcan ⊢
    have HX := Lib.hid hx
    clear hx
    go_wp2_with fail
    go_ret2
    exact GivesBE.of HP.out HX.out.symm (Bs.nil _ _ _) (Nat.le_refl _) (by simp) hL
end Go.Proofs.Ytkbgfddicpnbmaa
