/- The document's Advance. Condition: at most 2^47 - 4096 bytes. -/
import Derived.Test.YtpaomhgdpncdoaaDtS
namespace Go.Proofs.Ytpaomhgdpncdoaa
open Go.RowKit
set_option linter.unusedVariables false

section
variable (A : Option Addr) (n c : Nat) (xs : List Int) (w : World) (hn : n ≤ 140737488351232) (hc : n ≤ c) (hc2 : c ≤ 9223372036854775807) (hb : Bs w w.heap.size A n xs)
include hn hc hc2 hb
set_option maxHeartbeats 6400000 in
set_option maxRecDepth 100000 in
theorem radvance_any : Calls Try.prog 12 #[.slice A n c] w fun e w' => GivesR w (advL xs).length (advL xs) (advE xs) e w' := by
  obtain ⟨i0, hi, hz0, hz1, hz2⟩ := info_parts info5
  have HI := Lib.hid (And.intro hi (And.intro hz0 (And.intro hz1 hz2)))
  clear hi hz0 hz1 hz2
  have HB := Lib.hid hb
  have HAL := Lib.hid (show advL xs = if advE xs = 0 then (headL (advH xs) ++ xs.drop 40).set 43 ((saysR (xs.drop 40)).le - 1) else [] from rfl)
  have HAE := Lib.hid (show advE xs = if hdrE xs = 0 then (if (saysR (xs.drop 40)).le = 0 then 10 else if (getL xs).hp ≤ 1 then 13 else 0) else hdrE xs from rfl)
  clear hb
  go_enter Try.func12, Try.ntmps12
  go_wp2_with fail
  refine (rheader_any A n c xs w hn hc hc2 HB.out).mono ?_
  rintro e w1 ⟨s, rfl, hv, hk, hf, hL⟩
  have hszw := hL.size
  have HV := Lib.hid hv
  have HK := Lib.hid hk
  have HRR := Lib.hid (show hdrR xs = if hdrE xs = 0 then saysR (xs.drop 40) else zeroRb from rfl)
  obtain ⟨er, her⟩ : ∃ er, er = hdrE xs := ⟨_, rfl⟩
  rw [← her] at HAE HRR ⊢
  have HER := Lib.hid her.symm
  clear hv hk hf her
  unfold srV
  go_wp2_with ((with_reducible refine wpList_alloc_sr rfl rfl ?_); intro w2 HZ hl2 hz2; refine Hid.out ?_)
  refine Lib.hid ?_
  replace HZ := Lib.hid HZ
  clear hz2
  go_wp2_with (refine wpList_store_sr rfl (.tmp 4) (.tmp 13) rfl w1.heap.size rfl s rfl zeroSr HZ.out ?_; intro w3 HG3 hb3 ho3 hz3; refine Hid.out ?_)
  refine Lib.hid ?_
  have hl3 : Low w1 w3 := Below.trans hl2 hb3
  have hlow3 : Below w1.heap.size w1 w3 := hl3
  replace HK := Lib.hid (show s.ok w3 w1.heap.size from HK.out.keep fun _ hp => hlow3.cell hp)
  replace hL : Low w w3 := hL.trans hl3
  have hg4 : w1.heap.size < w3.heap.size := HG3.lt
  replace HG3 := Lib.hid HG3
  clear hl2 hb3 ho3 hz3 HZ hl3 hlow3
  generalize w1.heap.size = g4 at *
  by_cases he : er = 0
  · subst he
    obtain ⟨r1, r2, r3, r4, r5, r6⟩ := hdr_room HB.out.all HER.out
    obtain ⟨l0, l1⟩ := hdr_left HB.out.all
    have HWH := Lib.hid (wholeH_hdr HER.out)
    have h40 := (wholeE_zero (hdrE_zero HER.out).1).2.1
    have HOK := Lib.hid (getL_ok HB.out.all h40)
    have HCan := Lib.hid (getL_can HB.out.all)
    have HW0 := Lib.hid (hdrE_zero HER.out).1
    rw [if_pos rfl] at HAE HRR
    rw [HB.out.len] at h40 r1
    have h48 : 48 ≤ n := by
      have : 8 ≤ wideR (xs.drop 40) := by unfold wideR; omega
      omega
    have HSV := Lib.hid (show s.v = saysR (xs.drop 40) from HV.out.trans HRR.out)
    have HAH := Lib.hid (show advH xs = toH (segR (saysR (xs.drop 40)).sg ((saysR (xs.drop 40)).le - 1)) (nearH (getL xs)) from rfl)
    rw [← HSV.out] at HAL HAE HAH l0 l1 r4
    replace HAL : Hid (advL xs = if advE xs = 0 then (headL (advH xs) ++ xs.drop 40).set 43 (s.le - 1) else []) := HAL
    replace HAE : Hid (advE xs = if s.le = 0 then 10 else if (getL xs).hp ≤ 1 then 13 else 0) := HAE
    replace HAH : Hid (advH xs = toH (segR s.sg (s.le - 1)) (nearH (getL xs))) := HAH
    replace l0 : 0 ≤ s.le := l0
    replace l1 : s.le ≤ 255 := l1
    have HLT : Hid (s.le < s.gm) := Lib.hid (by
      have h1 := says_len (xs.drop 40)
      obtain ⟨_, _, _, _, _, a6⟩ := aheadR_zero (errR_zero (hdrE_zero HER.out).2.2).1
      rw [← HSV.out] at h1
      have h3 : s.sg.length = s.gm := HK.out.sg.len
      have h4 : s.v.sg = s.sg := rfl
      rw [h4, h3] at h1
      have h5 : s.le = (xs.drop 40).getD 3 0 := by
        have : s.v.le = (saysR (xs.drop 40)).le := by rw [HSV.out]
        exact this
      omega)
    clear HRR HV r1 r2 r3 r4 r5 r6
    go_wp2_with fail
    refine (rhead_any A n c xs w3 hn (HB.out.below' hL hL.size)).mono ?_
    rintro e w4 ⟨rfl, hl4⟩
    rw [HWH.out, HW0.out]
    have hl4' : Low w3 w4 := hl4
    replace hL := hL.trans hl4'
    replace HG3 := Lib.hid (HG3.out.below hl4' HG3.out.lt)
    have hg44 : g4 < w4.heap.size := HG3.out.lt
    have hg43 : g4 ≤ w3.heap.size := Nat.le_of_lt hg4
    replace HK := Lib.hid (show s.ok w4 g4 from HK.out.keep fun _ hp => (show Below w3.heap.size w3 w4 from hl4').cell (by omega))
    clear hl4 hl4' hg4 HWH hg43
    obtain ⟨h, hh⟩ : ∃ h, h = getL xs := ⟨_, rfl⟩
    rw [← hh] at HAE HAH HOK HCan ⊢
    have HS := Lib.hid HOK.out.s
    have HD := Lib.hid HOK.out.d
    unfold headV
    clear hh
    go_wp2_with ((with_reducible refine wpList_alloc_v rfl 41 rfl (headC zeroH) (by kernel_rfl) ?_); intro w6 HZ6 hl6 hz6; refine Hid.out ?_)
    refine Lib.hid ?_
    replace HZ6 := Lib.hid HZ6
    clear hz6
    go_wp2_with ((with_reducible refine wpList_store_head rfl (.tmp 7) (.tmp 22) rfl w4.heap.size rfl h rfl zeroH HZ6.out rfl rfl HS.out HD.out ?_); intro w7 HG7 hb7 hz7; refine Hid.out ?_)
    refine Lib.hid ?_
    have hl7 : Low w4 w7 := Below.trans hl6 hb7
    have hl7b : Below w4.heap.size w4 w7 := hl7
    replace hL := hL.trans hl7
    have HG3b := Lib.hid (HG3.out.below hl7b hg44)
    have HKb := Lib.hid (show s.ok w7 g4 from HK.out.keep fun _ hp => hl7b.cell (by omega))
    have HG7b := Lib.hid HG7
    have hszw4 : w.heap.size ≤ w4.heap.size := by omega
    have hg74 : w4.heap.size < w7.heap.size := HG7.lt
    clear hl6 hb7 hz7 HZ6 hl7 hl7b HG3 HK HG7
    generalize w4.heap.size = g7 at *
    have c1 := (BlkR.cells HG3b.out).2.1
    by_cases hle : s.le = 0
    · rw [hle] at c1
      have HQ := Lib.hid (HAE.out.trans (if_pos hle))
      have HR2 := Lib.hid (show advL xs = [] by rw [HAL.out, if_neg (by rw [HQ.out]; decide)])
      clear HAL HAE
      go_wp2_with fail
      go_ret2
      rw [HR2.out]
      exact ⟨none, 0, by rw [HQ.out]; rfl, Nat.le_refl _, by omega, Bs.nil _ _ _, hL⟩
    · have hd : (s.le == 0) = false := by simpa using hle
      have c4 := HG7b.out.cell 4
      replace c4 : _ = some (Value.int .i64 h.hp) := c4
      by_cases hhp : h.hp ≤ 1
      · have hd2 : decide (h.hp < 2) = true := decide_eq_true (by omega)
        have HQ := Lib.hid ((HAE.out.trans (if_neg hle)).trans (if_pos hhp))
        have HR2 := Lib.hid (show advL xs = [] by rw [HAL.out, if_neg (by rw [HQ.out]; decide)])
        clear HAL HAE hle
        go_wp2_with fail
        go_ret2
        rw [HR2.out]
        exact ⟨none, 0, by rw [HQ.out]; rfl, Nat.le_refl _, by omega, Bs.nil _ _ _, hL⟩
      · have hd2 : decide (h.hp < 2) = false := decide_eq_false (by omega)
        have HQ := Lib.hid ((HAE.out.trans (if_neg hle)).trans (if_neg hhp))
        have HR2 := Lib.hid (show advL xs = (headL (advH xs) ++ xs.drop 40).set 43 (s.le - 1) by rw [HAL.out, if_pos HQ.out])
        have HLE := Lib.hid hle
        have HHP := Lib.hid hhp
        clear HAL HAE hle hhp
        go_wp2_with fail
        clear c1 c4 hd hd2
        obtain ⟨k, hk⟩ : ∃ k : Nat, k = (s.le - 1).toNat := ⟨_, rfl⟩
        have hkq : s.le - 1 = (k : Nat) := by have := HLE.out; omega
        have hkl : k < s.gm := by have := HLT.out; have := HLE.out; omega
        have hk256 : k < 256 := by omega
        have HKQ := Lib.hid hkq
        clear hk
        obtain ⟨bs, os, hgA, hbs, hcs⟩ := HKb.out.sg.mem (by omega)
        have HAT := Lib.hid ((show As w7 g4 (some ⟨bs, os, none⟩) s.gm s.sg by rw [← hgA]; exact HKb.out.sg).at_ hkl).2
        have HD16 := Lib.hid (HKb.out.sg.all.getD k)
        have HS0 := Lib.hid (show segR s.sg (s.le - 1) = s.sg.getD k zero16 by rw [hkq]; exact segR_at (by rw [HKb.out.sg.len]; exact hkl))
        clear hcs
        refine wp_region_planS (fun y => Below g7 w7 y) (.rd 0 (.rd 3 (.rd 4 (.rd 5 (.rd 6 (.rd 7 (.rd 8 (.rd 9 (.act 1 (.rd 2 (.rd 10 (.act 11 (.rd 12 (.act 13 (.done)))))))))))))))
          (by kernel_rfl) (by kernel_rfl) (fun _ _ d _ _ h => by cases d <;> exact h) (by kernel_rfl) (Below.drew (Below.refl _ _)) ?_
        replace hL : Low w w7.drew := Below.drew hL
        replace HG7b : Hid (BlkH w7.drew g7 h) := HG7b
        replace HG3b : Hid (BlkR w7.drew g4 s) := HG3b
        replace HAT : Hid (w7.drew.rangeAt bs (os + k * 16) (cellsB (s.sg.getD k zero16))) := HAT
        have hS0 : Below g7 w7 w7.drew := Below.drew (Below.refl _ _)
        generalize w7.drew = w8 at *
        have hbs7 : bs < g7 := by omega
        obtain ⟨d, hdd⟩ : ∃ d, d = s.sg.getD k zero16 := ⟨_, rfl⟩
        rw [← hdd] at HAT HD16 HS0
        have hcs := BlkR.cells HG3b.out
        rw [hgA] at hcs
        have HCS := Lib.hid hcs
        have HDL := Lib.hid HD16.out.1
        have hwq : IntKind.i64.wrap (s.le - 1) = (k : Int) := by rw [hkq]; exact wraps_i64 _ (by omega) (by omega)
        clear hdd hcs hkq
        iterate 8 (refine walkS_read (v := _) rfl (by rfl) (by
          intro y hy
          have hy8 : y.cell? ⟨g4, 1, none⟩ = w8.cell? ⟨g4, 1, none⟩ := (hy.cell (p := ⟨g4, 1, none⟩) hg44).trans (hS0.cell (p := ⟨g4, 1, none⟩) hg44).symm
          have hy9 : y.cell? ⟨g4, 4, none⟩ = w8.cell? ⟨g4, 4, none⟩ := (hy.cell (p := ⟨g4, 4, none⟩) hg44).trans (hS0.cell (p := ⟨g4, 4, none⟩) hg44).symm
          have e1 := hy8.trans HCS.out.2.1
          have e4 := hy9.trans HCS.out.2.2.2.2.1
          clear hy8 hy9
          first
            | exact exec_load_at (b := bs) (p := os + k * 16) rfl HDL.out (fun j v hv => ((hy.cell (p := ⟨bs, os + k * 16 + j, none⟩) hbs7).trans (hS0.cell (p := ⟨bs, os + k * 16 + j, none⟩) hbs7).symm).trans (HAT.out j v hv))
            | (go_simp; try rfl)) ?_; simp only [Act.put, List.setIfInBounds_toArray, List.set_cons_zero, List.set_cons_succ])
        refine walkS_act rfl (by rfl) (fun K hK => ?_)
        have c4 := HG7b.out.cell 4
        replace c4 : _ = some (Value.int .i64 h.hp) := c4
        go_simp
        refine hK _ _ hS0 ?_
        clear hK K c4
        have hhx := HOK.out.hp
        unfold i64ok at hhx
        have hhc := can_range HCan.out
        have hwh : IntKind.i64.wrap (h.hp - 1) = h.hp - 1 := wraps_i64 _ (by have := HHP.out; omega) (by omega)
        clear hhx hhc
        iterate 2 (refine walkS_read (v := _) rfl (by rfl) (by intro y hy; go_simp; try rfl) ?_; simp only [Act.put, List.setIfInBounds_toArray, List.set_cons_zero, List.set_cons_succ])
        refine walkS_act rfl (by rfl) (fun K hK => ?_)
        have c4 := HG7b.out.cell 4
        replace c4 : _ = some (Value.int .i64 h.hp) := c4
        have f4 := HG7b.out.frozen 4
        go_simp
        have HG9 : Hid (BlkH (w8.setCell ⟨g7, 4, none⟩ (.int .i64 (h.hp - 1))) g7 (nearH h)) := Lib.hid (BlkV.set_ HG7b.out 4 (.int .i64 (h.hp - 1)))
        have hS9 : Below g7 w7 (w8.setCell ⟨g7, 4, none⟩ (.int .i64 (h.hp - 1))) := hS0.setCell (p := ⟨g7, 4, none⟩) (Nat.le_refl _) _
        have hL9 : Low w (w8.setCell ⟨g7, 4, none⟩ (.int .i64 (h.hp - 1))) := hL.setCell (p := ⟨g7, 4, none⟩) hszw4 _
        have HR9 := Lib.hid (HG3b.out.others (setCell_others w8 ⟨g7, 4, none⟩ (.int .i64 (h.hp - 1))) (by show g4 ≠ g7; omega))
        refine hK _ _ hS9 ?_
        clear hK K c4 f4 HG7b hS0 hL HAT HG3b HCS hwq
        generalize w8.setCell ⟨g7, 4, none⟩ (.int .i64 (h.hp - 1)) = w9 at *
        refine walkS_read (v := _) rfl (by rfl) (by intro y hy; go_simp; try rfl) ?_
        simp only [Act.put, List.setIfInBounds_toArray, List.set_cons_zero, List.set_cons_succ]
        refine walkS_act rfl (by rfl) (fun K hK => ?_)
        refine wp_store_dst (.tmp 41) (.tmp 39) rfl g7 rfl d rfl (nearH h) HG9.out HS.out HD.out HDL.out (fun HG10 => ?_)
        have hS10 := low_setMid (Nat.le_refl g7) (cellsB d) 21 w9 w7 hS9
        have hL10 : Low w (w9.setCells g7 21 (cellsB d)) := low_setMid hszw4 (cellsB d) 21 w9 w hL9
        have HR10 := Lib.hid (HR9.out.others (setCells_others (g := g7) (cellsB d) 21 w9) (show g4 ≠ g7 by omega))
        refine hK _ _ hS10 ?_
        replace HG10 : Hid (BlkH (w9.setCells g7 21 (cellsB d)) g7 (advH xs)) := Lib.hid (by rw [HAH.out, HS0.out]; exact HG10)
        clear hK K HG9 hS9 hL9 hS10 HR9 hwh
        try simp only [Act.put]
        generalize w9.setCells g7 21 (cellsB d) = w10 at *
        unfold walkS
        go_wp2_with fail
        obtain ⟨b, o, rfl, hbl, hcc⟩ := HB.out.mem (by omega)
        obtain ⟨A2, hs2, hA2⟩ := slc_from b o n c 40 40 hc rfl h40
        have HB2 := Lib.hid (HB.out.cutFrom h40 hA2)
        have HS2 := Lib.hid hs2
        have HO3 := Lib.hid (show (advH xs).ok by rw [HAH.out, HS0.out]; exact toH_ok (nearH_ok HOK.out (by have := HHP.out; omega)) HDL.out HD16.out.2)
        have HPL := Lib.hid (show putL (advH xs) = headL (advH xs) by rw [HAH.out]; exact putL_yes (toH_can (nearH_can HCan.out (by have := HHP.out; omega))))
        obtain ⟨h3, hh3⟩ : ∃ h3, h3 = advH xs := ⟨_, rfl⟩
        rw [← hh3] at HG10 HR2 HO3 HPL
        have HHL := Lib.hid (headL_length HO3.out)
        have hdl : Hid ((xs.drop 40).length = n - 40) := Lib.hid (by rw [List.length_drop, HB.out.len])
        clear hs2 hA2 hcc hbl hh3
        refine wp_region_planS (fun y => BlkH y g7 h3) (.rd 0 (.rd 2 (.rd 3 (.act 1 (.act 4 (.rd 5 (.done)))))))
          (by kernel_rfl) (by kernel_rfl) (fun _ _ d _ _ h => by cases d <;> exact h) (by kernel_rfl) HG10.out ?_
        replace HG10 : Hid (BlkH w10.drew g7 h3) := HG10
        replace HR10 : Hid (BlkR w10.drew g4 s) := HR10
        replace hL10 : Low w w10.drew := Below.drew hL10
        generalize w10.drew = w12 at *
        have i40 : (40 : Int) ≤ n := by omega
        iterate 3 (refine walkS_read (v := _) rfl (by rfl) (by intro y hy; first | exact exec_load_head rfl hy HO3.out.s HO3.out.d | exact slc_exec (HS2.out y) | (go_simp; try rfl)) ?_; simp only [Act.put, List.setIfInBounds_toArray, List.set_cons_zero, List.set_cons_succ])
        obtain ⟨N, hN⟩ : ∃ N, N = n - 40 := ⟨_, rfl⟩
        obtain ⟨cN, hcN⟩ : ∃ N, N = c - 40 := ⟨_, rfl⟩
        rw [← hN] at HB2 hdl ⊢
        rw [← hcN]
        have hN40 : Hid (40 + N = n) := Lib.hid (by omega)
        have hNb : 40 + N ≤ 140737488355328 := by omega
        have hN8 : 8 ≤ N := by omega
        clear HS2 hN hcN i40
        refine walkS_act rfl (by rfl) (fun K hK => ?_)
        go_simp
        refine (rput_any h3 w12 HO3.out).mono ?_
        rintro e w13 ⟨v, rfl, A5, c5, rfl, ho5, hl5⟩
        rw [HPL.out, HHL.out] at ho5
        rw [HPL.out, HHL.out]
        go_simp
        have HG13 := Lib.hid (HG10.out.below hl5 HG10.out.lt)
        have HR13 := Lib.hid (HR10.out.below hl5 HR10.out.lt)
        refine hK _ _ HG13.out ?_
        have hg712 : g7 < w12.heap.size := HG10.out.lt
        clear hK K HG10 HR10
        have hL13 := hL10.trans hl5
        have hb2 := HB2.out.below' hL13 hL13.size
        have hszl5 := hl5.size
        refine walkS_act rfl (by rfl) (fun K hK => ?_)
        obtain ⟨hi, hz0, hz1, hz2⟩ := HI.out
        refine wp_append_bs (.tmp 43) (.tmp 45) 22 rfl w12.heap.size 5 i0 Try.underlying22 hi hz0 hz1 hz2 A5 40 c5 (headL h3) rfl ho5 A2 N cN w13.heap.size (xs.drop 40) rfl hb2 hNb hszl5 ?_
        intro A6 c6 w14 ho6 hgr hob
        have hlt := ho5.lt
        have hB6 : Below w12.heap.size w12 w14 := (show Below w12.heap.size w12 w13 from hl5).grown hgr hszl5 fun k e => (hlt k e).1
        have hblk : ∀ g, g < w12.heap.size → w14.heap[g]? = w13.heap[g]? := fun g hg => hgr.block g (by omega) (fun e => by have := (hlt g e.symm).1; omega)
        have hG14 : BlkH w14 g7 h3 := (hblk g7 hg712).trans HG13.out
        have HR14 : Hid (BlkR w14 g4 s) := Lib.hid ((hblk g4 (by omega)).trans HR13.out)
        refine hK _ _ hG14 ?_
        clear hK K hi hz0 hz1 hz2 hgr hob hlt ho5 hb2 hl5 hblk hG14 HG13 HR13
        have hL14 := hL10.trans (show Low w12 w14 from hB6)
        have hcap := ho6.cap
        simp only [maxLen] at hcap
        have HO6 := Lib.hid ho6
        have hsz12 := hL10.size
        clear ho6 hB6
        refine walkS_read (v := _) rfl (by rfl) (by intro y hy; go_simp; try rfl) ?_
        simp only [Act.put, List.setIfInBounds_toArray, List.set_cons_zero, List.set_cons_succ]
        unfold walkS
        obtain ⟨g, rfl, hbg, hlt6, hcells, hfr, hset⟩ := HO6.out.spotD (by omega)
        have hcell := hcells 43 (by omega)
        have hfz := hfr 43
        have HSET := Lib.hid (hset 43 (k : Nat) (by omega) (by omega) (by omega))
        have c1 := (BlkR.cells HR14.out).2.1
        have i43 : (43 : Int) < ((40 + N : Nat) : Int) := by omega
        have i43b : (3 : Int) < N := by omega
        have hwq : IntKind.i64.wrap (s.le - 1) = (k : Int) := by rw [HKQ.out]; exact wraps_i64 _ (by omega) (by omega)
        have hwk : IntKind.u8.wrap (k : Int) = (k : Int) := wraps_u8 _ (by omega) (by omega)
        have hkm : (k : Int) % 256 = (k : Int) := by omega
        have HL15 : Hid (Low w (w14.setCell ⟨g, 43, none⟩ (.int .u8 (k : Nat)))) := Lib.hid (hL14.setCell (p := ⟨g, 43, none⟩) (by show w.heap.size ≤ g; omega) _)
        generalize (headL h3 ++ xs.drop 40).getD 43 0 = y43 at *
        clear hcells hfr hset HO6 hL14 HR14 hbg hlt6
        go_wp2_with fail
        go_ret2
        have hb15 := HSET.out.bs (Nat.le_refl _)
        refine GivesR.of (HR2.out.trans (by rw [HKQ.out])) HQ.out ?_ hcap.1 (by omega) hb15 HL15.out
        rw [List.length_set, len_back HO3.out, hdl.out]
  · have heb : (er != 0) = true := by simpa using he
    have HQ := Lib.hid (HAE.out.trans (if_neg he))
    have HR2 := Lib.hid (show advL xs = [] by rw [HAL.out, if_neg (by rw [HQ.out]; exact he)])
    clear HAL HAE HRR
    go_wp2_with fail
    go_ret2
    rw [HR2.out]
    exact ⟨none, 0, by rw [HQ.out]; rfl, Nat.le_refl _, by omega, Bs.nil _ _ _, hL⟩
end
end Go.Proofs.Ytpaomhgdpncdoaa
