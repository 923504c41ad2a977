/- The document's Remove. Condition: at most 2^47 - 4096 bytes. -/
import Derived.Test.YtpaomhgdpncdoaaDtR
import Derived.Test.YtpaomhgdpncdoaaDtK
import Derived.Test.YtpaomhgdpncdoaaJSx
namespace Go.Proofs.Ytpaomhgdpncdoaa
open Go.RowKit
set_option linter.unusedVariables false

theorem wholeH_hdr {xs : List Int} (h : hdrE xs = 0) : wholeH xs = getL xs := by unfold wholeH; rw [if_pos (hdrE_zero h).1]
theorem many_pos (ys : List Int) : 0 < manyR ys := by unfold manyR; omega
theorem says_len (ys : List Int) : (saysR ys).sg.length = manyR ys := chunksR_len _ _
theorem segR_at {l : List (List Int)} {k : Nat} (h : k < l.length) : segR l (k : Nat) = l.getD k zero16 := by
  have ht : thereR l (k : Nat) = true := by unfold thereR; rw [decide_eq_true_eq]; omega
  unfold segR
  rw [if_pos ht, Int.toNat_natCast]
section
variable (A : Option Addr) (n c : Nat) (xs : List Int) (w : World) (hn : n ≤ 140737488351232) (hc : n ≤ c) (hc2 : c ≤ 9223372036854775807) (hb : Bs w w.heap.size A n xs)
include hn hc hc2 hb
set_option maxHeartbeats 6400000 in
set_option maxRecDepth 100000 in
theorem rremove_any : Calls Try.prog 10 #[.slice A n c] w fun e w' => GivesR w (remL xs).length (remL xs) (hdrE xs) e w' := by
  obtain ⟨i0, hi, hz0, hz1, hz2⟩ := info_parts info5
  have HI := Lib.hid (And.intro hi (And.intro hz0 (And.intro hz1 hz2)))
  clear hi hz0 hz1 hz2
  have HB := Lib.hid hb
  have HRL := Lib.hid (show remL xs = if hdrE xs = 0 then headL (sizedH ((xs.length - (40 + wideR (xs.drop 40)) : Nat) : Int) (offH xs)) ++ xs.drop (40 + wideR (xs.drop 40)) else [] from rfl)
  clear hb
  go_enter Try.func10, Try.ntmps10
  go_wp2_with fail
  refine (rheader_any A n c xs w hn hc hc2 HB.out).mono ?_
  rintro e w1 ⟨s, rfl, hv, hk, hf, hL⟩
  have hszw := hL.size
  have HV := Lib.hid hv
  have HK := Lib.hid hk
  have HN := Lib.hid (show hdrN xs = if hdrE xs = 0 then wideR (xs.drop 40) else 0 from rfl)
  have HRR := Lib.hid (show hdrR xs = if hdrE xs = 0 then saysR (xs.drop 40) else zeroRb from rfl)
  obtain ⟨er, her⟩ : ∃ er, er = hdrE xs := ⟨_, rfl⟩
  rw [← her] at HRL HN HRR ⊢
  have HER := Lib.hid her.symm
  clear hv hk hf her
  unfold srV
  go_wp2_with ((with_reducible refine wpList_alloc_sr rfl rfl ?_); intro w2 HZ hl2 hz2; refine Hid.out ?_)
  refine Lib.hid ?_
  replace HZ := Lib.hid HZ
  clear hz2
  go_wp2_with (refine wpList_store_sr rfl (.tmp 4) (.tmp 12) rfl w1.heap.size rfl s rfl zeroSr HZ.out ?_; intro w3 HG3 hb3 ho3 hz3; refine Hid.out ?_)
  refine Lib.hid ?_
  have hl3 : Low w1 w3 := Below.trans hl2 hb3
  have hlow3 : Below w1.heap.size w1 w3 := hl3
  replace HK := Lib.hid (show s.ok w3 w1.heap.size from HK.out.keep fun _ hp => hlow3.cell hp)
  replace hL : Low w w3 := hL.trans hl3
  have hg4 : w1.heap.size < w3.heap.size := HG3.lt
  replace HG3 := Lib.hid HG3
  clear hl2 hb3 ho3 hz3 HZ hl3 hlow3
  generalize w1.heap.size = g4 at *
  by_cases he : er = 0
  · subst he
    obtain ⟨r1, r2, r3, r4, r5, r6⟩ := hdr_room HB.out.all HER.out
    obtain ⟨hO, hCan⟩ := offH_ok HB.out.all HER.out
    have HWH := Lib.hid (wholeH_hdr HER.out)
    have HOK := Lib.hid (getL_ok HB.out.all (wholeE_zero (hdrE_zero HER.out).1).2.1)
    have HW0 := Lib.hid (hdrE_zero HER.out).1
    have hln := (wholeE_zero (hdrE_zero HER.out).1).2.2.2.2
    rw [if_pos rfl] at HRL HN HRR
    rw [HN.out]
    rw [HB.out.len] at r1 r2 HRL hln
    obtain ⟨wd, hwd⟩ : ∃ wd, wd = wideR (xs.drop 40) := ⟨_, rfl⟩
    rw [← hwd] at r1 r3 HRL ⊢
    have HSV := Lib.hid (show s.v = saysR (xs.drop 40) from HV.out.trans HRR.out)
    have HSL : Hid (0 < s.gm) := Lib.hid (by
      have h1 := says_len (xs.drop 40)
      rw [← HSV.out] at h1
      have h2 := many_pos (xs.drop 40)
      have h3 : s.sg.length = s.gm := HK.out.sg.len
      have h4 : s.v.sg = s.sg := rfl
      rw [h4, h3] at h1
      omega)
    have HOF : Hid (offH xs = toH (segR s.sg 0) (setNx s.nx (getL xs))) := Lib.hid (by unfold offH; rw [← HSV.out]; rfl)
    obtain ⟨bs, os, hgA, hbs, hcs⟩ := HK.out.sg.mem HSL.out
    have HAT := Lib.hid ((show As w3 g4 (some ⟨bs, os, none⟩) s.gm s.sg by rw [← hgA]; exact HK.out.sg).at_ HSL.out).2
    have HD16 := Lib.hid (HK.out.sg.all.getD 0)
    have HS0 := Lib.hid (show segR s.sg 0 = s.sg.getD 0 zero16 from segR_at (k := 0) (by rw [HK.out.sg.len]; exact HSL.out))
    have hnxs := HK.out.nx
    clear hcs hwd HN HRR HV r3 r4 r5 r6
    go_wp2_with fail
    refine (rhead_any A n c xs w3 hn (HB.out.below' hL hL.size)).mono ?_
    rintro e w4 ⟨rfl, hl4⟩
    rw [HWH.out, HW0.out]
    have hl4' : Low w3 w4 := hl4
    replace hL := hL.trans hl4'
    replace HG3 := Lib.hid (HG3.out.below hl4' HG3.out.lt)
    replace HAT := Lib.hid (rangeAt_below HAT.out (show Below w3.heap.size w3 w4 from hl4') (Nat.lt_trans hbs hg4))
    have hg44 : g4 < w4.heap.size := HG3.out.lt
    clear hl4 hl4' hg4 HWH
    obtain ⟨h, hh⟩ : ∃ h, h = getL xs := ⟨_, rfl⟩
    rw [← hh] at HOF HOK hln ⊢
    have HS := Lib.hid HOK.out.s
    have HD := Lib.hid HOK.out.d
    unfold headV
    clear hh
    go_wp2_with ((with_reducible refine wpList_alloc_v rfl 41 rfl (headC zeroH) (by kernel_rfl) ?_); intro w6 HZ6 hl6 hz6; refine Hid.out ?_)
    refine Lib.hid ?_
    replace HZ6 := Lib.hid HZ6
    clear hz6
    go_wp2_with ((with_reducible refine wpList_store_head rfl (.tmp 7) (.tmp 21) rfl w4.heap.size rfl h rfl zeroH HZ6.out rfl rfl HS.out HD.out ?_); intro w7 HG7 hb7 hz7; refine Hid.out ?_)
    refine Lib.hid ?_
    have hl7 : Low w4 w7 := Below.trans hl6 hb7
    have hl7b : Below w4.heap.size w4 w7 := hl7
    replace hL := hL.trans hl7
    have HG3b := Lib.hid (HG3.out.below hl7b hg44)
    have HATb := Lib.hid (rangeAt_below HAT.out hl7b (by omega))
    have HG7b := Lib.hid HG7
    have hszw4 : w.heap.size ≤ w4.heap.size := by omega
    have hg74 : w4.heap.size < w7.heap.size := HG7.lt
    clear hl6 hb7 hz7 HZ6 hl7 hl7b HG3 HAT HG7
    generalize w4.heap.size = g7 at *
    go_wp2_with fail
    refine wp_region_planS (fun y => Below g7 w7 y) (.rd 0 (.rd 1 (.rd 2 (.rd 3 (.rd 4 (.rd 5 (.rd 6 (.rd 8 (.act 7 (.rd 9 (.rd 10 (.act 11 (.rd 12 (.act 13 (.rd 14 (.act 15 (.done)))))))))))))))))
      (by kernel_rfl) (by kernel_rfl) (fun _ _ d _ _ h => by cases d <;> exact h) (by kernel_rfl) (Below.drew (Below.refl _ _)) ?_
    replace hL : Low w w7.drew := Below.drew hL
    replace HG7b : Hid (BlkH w7.drew g7 h) := HG7b
    replace HG3b : Hid (BlkR w7.drew g4 s) := HG3b
    replace HATb : Hid (w7.drew.rangeAt bs (os + 0 * 16) (cellsB (s.sg.getD 0 zero16))) := HATb
    have hS0 : Below g7 w7 w7.drew := Below.drew (Below.refl _ _)
    generalize w7.drew = w8 at *
    have hsm : 0 < s.gm := HSL.out
    have hbs7 : bs < g7 := by omega
    have HLH := Lib.hid hln
    clear hln
    rw [Nat.zero_mul, Nat.add_zero] at HATb
    obtain ⟨d, hd⟩ : ∃ d, d = s.sg.getD 0 zero16 := ⟨_, rfl⟩
    rw [← hd] at HATb HD16 HS0
    have hcs := BlkR.cells HG3b.out
    rw [hgA] at hcs
    have HCS := Lib.hid hcs
    have HDL := Lib.hid HD16.out.1
    clear hd hcs
    iterate 8 (refine walkS_read (v := _) rfl (by rfl) (by
      intro y hy
      have hy8 : y.cell? ⟨g4, 0, none⟩ = w8.cell? ⟨g4, 0, none⟩ := (hy.cell (p := ⟨g4, 0, none⟩) hg44).trans (hS0.cell (p := ⟨g4, 0, none⟩) hg44).symm
      have hy9 : y.cell? ⟨g4, 4, none⟩ = w8.cell? ⟨g4, 4, none⟩ := (hy.cell (p := ⟨g4, 4, none⟩) hg44).trans (hS0.cell (p := ⟨g4, 4, none⟩) hg44).symm
      have e0 := hy8.trans HCS.out.1
      have e4 := hy9.trans HCS.out.2.2.2.2.1
      clear hy8 hy9
      first
        | exact exec_load_at (b := bs) (p := os) rfl HDL.out (fun j v hv => ((hy.cell (p := ⟨bs, os + j, none⟩) hbs7).trans (hS0.cell (p := ⟨bs, os + j, none⟩) hbs7).symm).trans (HATb.out j v hv))
        | (go_simp; try rfl)) ?_; simp only [Act.put, List.setIfInBounds_toArray, List.set_cons_zero, List.set_cons_succ])
    refine walkS_act rfl (by rfl) (fun K hK => ?_)
    have c2 := HG7b.out.cell 2
    replace c2 : _ = some (Value.int .i64 h.ln) := c2
    go_simp
    refine hK _ _ hS0 ?_
    clear hK K c2
    have hwl : IntKind.i64.wrap (h.ln - (wd : Int)) = h.ln - (wd : Int) := wraps_i64 _ (by have := HLH.out; omega) (by have := HLH.out; omega)
    iterate 2 (refine walkS_read (v := _) rfl (by rfl) (by intro y hy; go_simp; try rfl) ?_; simp only [Act.put, List.setIfInBounds_toArray, List.set_cons_zero, List.set_cons_succ])
    refine walkS_act rfl (by rfl) (fun K hK => ?_)
    have c3 := HG7b.out.cell 3
    replace c3 : _ = some (Value.int .i64 h.nx) := c3
    have f3 := HG7b.out.frozen 3
    go_simp
    have HG9 : Hid (BlkH (w8.setCell ⟨g7, 3, none⟩ (.int .i64 s.nx)) g7 (setNx s.nx h)) := Lib.hid (BlkV.set_ HG7b.out 3 (.int .i64 s.nx))
    have hS9 : Below g7 w7 (w8.setCell ⟨g7, 3, none⟩ (.int .i64 s.nx)) := hS0.setCell (p := ⟨g7, 3, none⟩) (Nat.le_refl _) _
    have hL9 : Low w (w8.setCell ⟨g7, 3, none⟩ (.int .i64 s.nx)) := hL.setCell (p := ⟨g7, 3, none⟩) hszw4 _
    refine hK _ _ hS9 ?_
    clear hK K c3 f3 HG7b hS0 hL HATb HG3b HCS
    generalize w8.setCell ⟨g7, 3, none⟩ (.int .i64 s.nx) = w9 at *
    refine walkS_read (v := _) rfl (by rfl) (by intro y hy; go_simp; try rfl) ?_
    simp only [Act.put, List.setIfInBounds_toArray, List.set_cons_zero, List.set_cons_succ]
    refine walkS_act rfl (by rfl) (fun K hK => ?_)
    refine wp_store_dst (.tmp 34) (.tmp 28) rfl g7 rfl d rfl (setNx s.nx h) HG9.out HS.out HD.out HDL.out (fun HG10 => ?_)
    have hS10 := low_setMid (Nat.le_refl g7) (cellsB d) 21 w9 w7 hS9
    have hL10 := low_setMid hszw4 (cellsB d) 21 w9 w hL9
    refine hK _ _ hS10 ?_
    replace HG10 : Hid (BlkH (w9.setCells g7 21 (cellsB d)) g7 (offH xs)) := Lib.hid (by rw [HOF.out, HS0.out]; exact HG10)
    clear hK K HG9 hS9 hL9
    simp only [Act.put]
    generalize w9.setCells g7 21 (cellsB d) = w10 at *
    refine walkS_read (v := _) rfl (by rfl) (by intro y hy; go_simp; try rfl) ?_
    simp only [Act.put, List.setIfInBounds_toArray, List.set_cons_zero, List.set_cons_succ]
    refine walkS_act rfl (by rfl) (fun K hK => ?_)
    have hfl : (offH xs).ln = h.ln := by rw [HOF.out]; rfl
    have c2 := HG10.out.cell 2
    replace c2 : _ = some (Value.int .i64 (offH xs).ln) := c2
    have f2 := HG10.out.frozen 2
    go_simp
    have HG11 : Hid (BlkH (w10.setCell ⟨g7, 2, none⟩ (.int .i64 (h.ln - wd))) g7 (sizedH (h.ln - wd) (offH xs))) := Lib.hid (BlkV.set_ HG10.out 2 (.int .i64 (h.ln - wd)))
    have hS11 : Below g7 w7 (w10.setCell ⟨g7, 2, none⟩ (.int .i64 (h.ln - wd))) := hS10.setCell (p := ⟨g7, 2, none⟩) (Nat.le_refl _) _
    have hL11 : Low w (w10.setCell ⟨g7, 2, none⟩ (.int .i64 (h.ln - wd))) := hL10.setCell (p := ⟨g7, 2, none⟩) hszw4 _
    refine hK _ _ hS11 ?_
    clear hK K c2 f2 HG10 hS10 hL10 hS11 hfl
    try simp only [Act.put]
    generalize w10.setCell ⟨g7, 2, none⟩ (.int .i64 (h.ln - wd)) = w11 at *
    unfold walkS
    have hlnn : h.ln - (wd : Int) = ((n - (40 + wd) : Nat) : Int) := by have := HLH.out; omega
    rw [hlnn] at HG11
    clear hwl hlnn
    go_wp2_with fail
    obtain ⟨b, o, rfl, hbl, hcc⟩ := HB.out.mem (by omega)
    obtain ⟨A2, hs2, hA2⟩ := slc_from b o n c (40 + wd) (40 + (wd : Int)) hc (by omega) r1
    have HB2 := Lib.hid (HB.out.cutFrom r1 hA2)
    have HS2 := Lib.hid hs2
    obtain ⟨h3, hh3⟩ : ∃ h3, h3 = sizedH ((n - (40 + wd) : Nat) : Int) (offH xs) := ⟨_, rfl⟩
    have HO3 := Lib.hid (show h3.ok by rw [hh3]; exact sizedH_ok hO (by unfold i64ok; omega))
    have HPL := Lib.hid (show putL h3 = headL h3 by rw [hh3]; exact putL_yes (sizedH_can hCan (by omega) (by omega)))
    rw [← hh3] at HG11 HRL
    have HHL := Lib.hid (headL_length HO3.out)
    have hw40 : IntKind.i64.wrap (40 + (wd : Int)) = 40 + (wd : Int) := wraps_i64 _ (by omega) (by omega)
    have hdl : Hid ((xs.drop (40 + wd)).length = n - (40 + wd)) := Lib.hid (by rw [List.length_drop, HB.out.len])
    clear hs2 hA2 hcc hbl hO hCan hh3
    refine wp_region_planS (fun y => BlkH y g7 h3) (.rd 0 (.rd 2 (.rd 3 (.rd 4 (.rd 5 (.act 1 (.act 6 (.rd 7 (.rd 8 (.done))))))))))
      (by kernel_rfl) (by kernel_rfl) (fun _ _ d _ _ h => by cases d <;> exact h) (by kernel_rfl) HG11.out ?_
    replace HG11 : Hid (BlkH w11.drew g7 h3) := HG11
    replace hL11 : Low w w11.drew := Below.drew hL11
    generalize w11.drew = w12 at *
    iterate 5 (refine walkS_read (v := _) rfl (by rfl) (by intro y hy; first | exact exec_load_head rfl hy HO3.out.s HO3.out.d | exact slc_exec (HS2.out y) | (go_simp; try rfl)) ?_; simp only [Act.put, List.setIfInBounds_toArray, List.set_cons_zero, List.set_cons_succ])
    obtain ⟨N, hN⟩ : ∃ N, N = n - (40 + wd) := ⟨_, rfl⟩
    obtain ⟨cN, hcN⟩ : ∃ N, N = c - (40 + wd) := ⟨_, rfl⟩
    rw [← hN] at HB2 hdl ⊢
    rw [← hcN]
    have hNb : N ≤ 65535 := by omega
    clear HS2 hN hcN hw40 r1 r2
    refine walkS_act rfl (by rfl) (fun K hK => ?_)
    go_simp
    refine (rput_any h3 w12 HO3.out).mono ?_
    rintro e w13 ⟨v, rfl, A5, c5, rfl, ho5, hl5⟩
    rw [HPL.out, HHL.out] at ho5
    rw [HPL.out, HHL.out]
    go_simp
    have HG13 := Lib.hid (HG11.out.below hl5 HG11.out.lt)
    refine hK _ _ HG13.out ?_
    have hg712 : g7 < w12.heap.size := HG11.out.lt
    clear hK K HG11
    have hsz12 := hL11.size
    have hL13 := hL11.trans hl5
    have hb2 := HB2.out.below' hL13 hL13.size
    have hszl5 := hl5.size
    refine walkS_act rfl (by rfl) (fun K hK => ?_)
    obtain ⟨hi, hz0, hz1, hz2⟩ := HI.out
    refine wp_append_bs (.tmp 37) (.tmp 41) 22 rfl w12.heap.size 5 i0 Try.underlying22 hi hz0 hz1 hz2 A5 40 c5 (headL h3) rfl ho5 A2 N cN w13.heap.size (xs.drop (40 + wd)) rfl hb2 (by omega) hszl5 ?_
    intro A6 c6 w14 ho6 hgr hob
    have hlt := ho5.lt
    have hB6 : Below w12.heap.size w12 w14 := (show Below w12.heap.size w12 w13 from hl5).grown hgr hszl5 fun k e => (hlt k e).1
    have hG14 : BlkH w14 g7 h3 := by
      have h1 := HG13.out.lt
      have h2 : g7 < w12.heap.size ∨ w12.heap.size ≤ g7 := Nat.lt_or_ge _ _
      refine (hgr.block g7 h1 (fun e => ?_)).trans HG13.out
      have := (hlt g7 e.symm).1
      omega
    refine hK _ _ hG14 ?_
    clear hK K hi hz0 hz1 hz2 hgr hob hlt ho5 hb2 hl5
    have hL14 := hL11.trans (show Low w12 w14 from hB6)
    have hcap := ho6.cap
    simp only [maxLen] at hcap
    have HB6 := Lib.hid (ho6.bs (Nat.le_refl _))
    clear ho6 hB6 hG14 HG13
    iterate 2 (refine walkS_read (v := _) rfl (by rfl) (by intro y hy; go_simp; try rfl) ?_; simp only [Act.put, List.setIfInBounds_toArray, List.set_cons_zero, List.set_cons_succ])
    unfold walkS
    go_wp2_with fail
    go_ret2
    exact GivesR.of HRL.out HER.out (by rw [len_back HO3.out, hdl.out]) hcap.1 (by omega) HB6.out hL14
  · have heb : (er != 0) = true := by simpa using he
    have HR2 := Lib.hid (HRL.out.trans (if_neg he))
    clear HRL HN HRR
    go_wp2_with fail
    go_ret2
    rw [HR2.out]
    exact ⟨none, 0, by rw [HER.out]; rfl, Nat.le_refl _, by omega, Bs.nil _ _ _, hL⟩
end
end Go.Proofs.Ytpaomhgdpncdoaa
