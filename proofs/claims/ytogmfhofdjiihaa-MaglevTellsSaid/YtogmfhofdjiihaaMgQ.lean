/- Stage 17: maglev.round: the closures of all turns. Conditions: at most 40 members that are right; 2 to 1000 slots. -/
import Derived.Test.YtogmfhofdjiihaaMgP
set_option maxRecDepth 100000
namespace Go.Proofs.Ytogmfhofdjiihaa
open Go.RowKit
set_option linter.unusedVariables false

set_option maxHeartbeats 6400000 in
set_option maxRecDepth 100000 in
theorem mground_any (a b : Int) (g M : Nat) (A : Option Addr) (n c : Nat) (l : List Mbr) (t : List Int) (w : World) (hM2 : 2 ≤ M) (hM : M ≤ 1000) (hn : n ≤ 40) (hR : RightM l) (hT : BlkN w 3 g t) (hb : Es mbrE w w.heap.size A n l) :
    Calls Try.prog 18 #[keyV a b, .slice (some ⟨g, 0, none⟩) M M, .slice A n c] w fun e w' => ∃ A' c' hs, e = .returned (.slice A' (seqM (sortM l)).length c') ∧
      RndI w' w'.heap.size g M (seqM (sortM l)).length A' t hs (seqM (sortM l)) (fun n => ordP a b n M) ∧ RndS g (seqM (sortM l)).length hs (seqM (sortM l)) ∧ Low w w' := by
  unfold keyV
  have HB := Lib.hid hb
  have HT := Lib.hid hT
  have HLN := Lib.hid hb.len
  obtain ⟨i0, hi, hz0, hz1, hz2⟩ := info_fun_parts
  have HI := Lib.hid hi
  have HZ0 := Lib.hid hz0
  have HZ1 := Lib.hid hz1
  have HZ2 := Lib.hid hz2
  have HNI : Hid (∀ nd : Int, 1 ≤ nd → nd ≤ 65535 → i64ok nd) := Lib.hid fun nd h1 h2 => by unfold i64ok; omega
  have HPO := Lib.hid fun (nd : Int) (h : i64ok nd) (u : World) => permof_own a b nd M hM2 hM h u
  have HTK := Lib.hid fun (q : Nat) (nd : Int) (O : List Int) (u : World) => mgtaker_any g M q t nd O u (by omega)
  clear hb hT hi hz0 hz1 hz2
  go_enter Try.func18, Try.ntmps18
  go_wp2_with ((with_reducible refine wpList_box_v rfl _ (.tmp 0) rfl (keyC a b) rfl ?_); intro w1 HK hL hz1; refine Hid.out ?_)
  refine Lib.hid ?_
  replace HT := Lib.hid (HT.out.below hL HT.out.lt)
  replace HB := Lib.hid (HB.out.below' hL hL.size)
  have HK2 := Lib.hid HK
  have hg1 : g < w1.heap.size := HT.out.lt
  have hk1 : w.heap.size < w1.heap.size := HK.lt
  replace hL := Lib.hid hL
  clear HK hz1
  go_wp2_with fail
  refine (cloneM_any A n c l w1 (by omega) HB.out).mono ?_
  rintro e w2 ⟨A2, c2, rfl, hown, hl⟩
  have HOW := Lib.hid hown
  replace HT := Lib.hid (HT.out.below hl HT.out.lt)
  replace HK2 := Lib.hid (HK2.out.below hl HK2.out.lt)
  replace hL := Lib.hid (hL.out.trans hl)
  clear hown hl HB
  go_wp2_with fail
  refine (sortfuncM_any A2 n c2 w1.heap.size l w2 (by omega) HOW.out hR.once).mono ?_
  rintro e w3 ⟨rfl, hE, hB3⟩
  have HE := Lib.hid hE
  replace HT := Lib.hid (HT.out.below hB3 hg1)
  replace HK2 := Lib.hid (HK2.out.below hB3 hk1)
  replace hL := Lib.hid (Below.trans hL.out (hB3.mono (Nat.le_of_lt hk1)))
  clear hE hB3 HOW
  obtain ⟨srt2, srt3, srt4⟩ := sortM_sorts hR.once
  have HSL := Lib.hid (show (sortM l).length = n by rw [srt4]; exact HLN.out)
  have HSW := Lib.hid (show ∀ i, i < n → 1 ≤ ((sortM l).getD i zeroMbr).n ∧ ((sortM l).getD i zeroMbr).n ≤ 65535 ∧ 0 ≤ ((sortM l).getD i zeroMbr).w ∧ ((sortM l).getD i zeroMbr).w ≤ 4 from fun i hi => by
    rw [getD_memM _ i (by rw [HSL.out]; exact hi)]
    exact hR.ok _ ((srt3 _).1 (List.getElem_mem _)))
  clear srt2 srt3 srt4 hR HLN
  obtain ⟨S, hS⟩ : ∃ S, S = sortM l := ⟨_, rfl⟩
  rw [← hS] at HE HSL HSW
  have HSE := Lib.hid hS
  clear hS
  have HSA := Lib.hid (show ∀ i j, i < n → j < (S.getD i zeroMbr).w.toNat → (seqM S).getD (preM S i + j) 0 = (S.getD i zeroMbr).n from fun i j hi hj => (seqM_at S i j (by rw [HSL.out]; exact hi) hj).1)
  have HPS := Lib.hid (show ∀ i, i < n → preM S (i + 1) = preM S i + (S.getD i zeroMbr).w.toNat from fun i hi => preM_succ S i (by rw [HSL.out]; exact hi))
  have HPA := Lib.hid (show preM S n = (seqM S).length by rw [← HSL.out]; exact preM_all S)
  have HRI := Lib.hid (show RouI a b S g M n A2 w3.heap.size w w3 t [] 0 from ⟨HT.out, fun k h => by omega, fun i j h => by omega, fun k h => by omega, HK2.out, HE.out, hL.out, Nat.le_refl _, hL.out.size, rfl⟩)
  have HZ3 := Lib.hid (Nat.le_refl w3.heap.size)
  obtain ⟨B0, hB0⟩ : ∃ B0, B0 = w3.heap.size := ⟨_, rfl⟩
  rw [← hB0] at HRI
  replace HZ3 : Hid (B0 ≤ w3.heap.size) := Lib.hid (by omega)
  clear HT HK2 HE hL hk1 hg1 hB0 HSL
  go_wp2_with fail
  go_loopw [8, 18] (fun v8 v18 wr => ∃ (i m : Nat) (A' : Option Addr) (c' : Nat) (hs : List Nat), i ≤ n ∧ v18 = .int .i64 i ∧ v8 = .slice A' m c' ∧ Hid (m = preM S i) ∧ m ≤ 4 * i ∧ Hid (OwnE funE 26 wr B0 A' m c' hs) ∧ Hid (RouI a b S g M n A2 B0 w wr t hs m)) (fun _ v18 _ => n - (intOf v18).toNat)
  case atStart => exact ⟨0, 0, none, 0, [], by omega, rfl, rfl, Lib.hid rfl, by omega, Lib.hid (OwnE.none_ _ _ _ _), HRI⟩
  case round =>
    clear HRI HZ3
    obtain ⟨i, m, A', c', hs, hi, rfl, rfl, hm, hm4, HO, HRI⟩ := hrel
    by_cases hlt : i < n
    · obtain ⟨bb, oo, rfl, hbb, hcc⟩ := HRI.out.mem.mem (by omega)
      have HR : Hid (wr.rangeAt bb (oo + i * 2) (mbrC (S.getD i zeroMbr))) := Lib.hid (HRI.out.mem.at_ hlt).2
      obtain ⟨hn1, hn2, hw0, hw4⟩ := HSW.out i hlt
      have HSA2 := Lib.hid (fun j hj => HSA.out i j hlt hj)
      have HPS2 := Lib.hid (HPS.out i hlt)
      clear hbb hcc
      generalize S.getD i zeroMbr = x at *
      obtain ⟨nd, wt⟩ := x
      simp only at hn1 hn2 hw0 hw4 HSA2 HPS2
      obtain ⟨wn, rfl⟩ : ∃ wn : Nat, wt = wn := ⟨wt.toNat, by omega⟩
      have hlt2 : (i : Int) < n := by omega
      go_wp2_with (first
        | (refine wpList_load_mid rfl 40 (.tmp 20) rfl bb (oo + i * 2) rfl (mbrC ⟨nd, wn⟩) _ HR.out Try.underlying40 rfl member_size ?_)
        | ((with_reducible refine wpList_alloc_v rfl _ rfl (mbrC zeroMbr) info_mbr0 ?_); intro w4 HZ hl2 hz2; refine Hid.out ?_))
      refine Lib.hid ?_
      go_wp2_with ((refine wpList_store_v rfl 40 (.tmp 10) (.tmp 21) rfl wr.heap.size rfl (mbrC ⟨nd, wn⟩) rfl _ (mbrC zeroMbr) HZ rfl member_size (mbrC_one _) ?_); intro w5 HB5 hb5 hz5; refine Hid.out ?_)
      refine Lib.hid ?_
      have hl5 : Low wr w5 := Below.trans hl2 hb5
      replace HO := Lib.hid (HO.out.below hl5)
      replace HRI := Lib.hid (HRI.out.below hl5)
      have HMB := Lib.hid HB5
      clear HZ hl2 hb5 hz2 hz5 hl5 HR HB5
      generalize wr.heap.size = mb at *
      have HSS := Lib.hid (show BlkV w5 24 w.heap.size (keyC a b) ∧ BlkV w5 40 mb (mbrC ⟨nd, wn⟩) from ⟨HRI.out.key, HMB.out⟩)
      go_wp2_with fail
      refine wp_region_planS (fun y => BlkV y 24 w.heap.size (keyC a b) ∧ BlkV y 40 mb (mbrC ⟨nd, wn⟩)) (.rd 0 (.rd 1 (.rd 2 (.rd 3 (.rd 4 (.rd 5 (.rd 6 (.rd 7 (.act 8 (.act 9 (.rd 10 (.done))))))))))))
        (by kernel_rfl) (by kernel_rfl) (fun _ _ d _ _ h => by cases d <;> exact h) (by kernel_rfl) HSS.out ?_
      replace HO := Lib.hid (HO.out.below (w' := w5.drew) (show Low w5 w5.drew from (Below.refl _ _).drew))
      replace HRI := Lib.hid (HRI.out.below (wr' := w5.drew) (show Low w5 w5.drew from (Below.refl _ _).drew))
      replace HMB := Lib.hid (show BlkV w5.drew 40 mb (mbrC ⟨nd, wn⟩) from HMB.out)
      clear HSS
      generalize w5.drew = w6 at *
      iterate 8 (refine walkS_read (v := _) rfl (by rfl) (by intro y hy; first | exact exec_load_v rfl hy.1 _ Try.underlying24 rfl key_size | (have e0 : y.cell? ⟨mb, 0, none⟩ = some (.int .i64 nd) := hy.2.cell 0; clear hy; go_simp; try rfl)) ?_; simp only [Act.put, List.setIfInBounds_toArray, List.set_cons_zero, List.set_cons_succ])
      refine walkS_act rfl (by rfl) (fun K hK => ?_)
      go_simp
      refine (HPO.out nd (HNI.out nd hn1 hn2) w6).mono ?_
      rintro e w7 ⟨q, rfl, hq, _, hqz, hl⟩
      have hgq : q ≠ g := by
        have := HRI.out.tab.lt
        omega
      replace HO := Lib.hid (HO.out.below hl)
      replace HRI := Lib.hid (HRI.out.below hl)
      replace HMB := Lib.hid (HMB.out.below hl HMB.out.lt)
      have HQ := Lib.hid hq
      go_simp
      refine hK _ _ ⟨HRI.out.key, HMB.out⟩ ?_
      clear hK K hl hq hqz
      refine walkS_act rfl (by rfl) (fun K hK => ?_)
      go_simp
      refine (HTK.out q nd (ordP a b nd M) w7 HQ.out hgq HRI.out.tab.lt).mono ?_
      rintro e w8 ⟨rfl, hti, hl, hz8⟩
      have HLI := Lib.hid (show LastI a b S g M w8 t hs m w7.heap.size nd from ⟨hti, ⟨HRI.out.tab.lt, by omega⟩, fun k hk => .inr (HRI.out.gt k hk).2⟩)
      replace HO := Lib.hid (HO.out.below hl)
      replace HRI := Lib.hid (HRI.out.below hl)
      replace HMB := Lib.hid (HMB.out.below hl HMB.out.lt)
      go_simp
      refine hK _ _ ⟨HRI.out.key, HMB.out⟩ ?_
      clear hK K hl hti hz8 HQ hgq
      iterate 1 (refine walkS_read (v := _) rfl (by rfl) (by intro y hy; clear hy; go_simp; try rfl) ?_; simp only [Act.put, List.setIfInBounds_toArray, List.set_cons_zero, List.set_cons_succ])
      unfold walkS
      have c1 : ∀ u, BlkV u 40 mb (mbrC ⟨nd, wn⟩) → u.cell? ⟨mb, 1, none⟩ = some (.int .i64 wn) := fun u h => h.cell 1
      have d1 := c1 _ HMB.out
      generalize w7.heap.size = x at *
      unfold tkV tkA
      clear HTK HPO HNI c1
      go_wp2_with fail
      clear d1 HMB
      go_loopw [8, 34] (fun v8 v34 wr => ∃ (j : Nat) (A' : Option Addr) (c' : Nat) (hs : List Nat), j ≤ wn ∧ v34 = .int .i64 j ∧ v8 = .slice A' (m + j) c' ∧ Hid (OwnE funE 26 wr B0 A' (m + j) c' hs) ∧ Hid (RouI a b S g M n (some ⟨bb, oo, none⟩) B0 w wr t hs (m + j)) ∧ Hid (LastI a b S g M wr t hs (m + j) x nd)) (fun _ v34 _ => wn - (intOf v34).toNat)
      case atStart => exact ⟨0, A', c', hs, by omega, rfl, rfl, HO, HRI, HLI⟩
      case round =>
        clear HO HRI HLI
        obtain ⟨j, A9, c9, hs9, hj, rfl, rfl, HO, HRI, HLI⟩ := hrel
        by_cases hltj : j < wn
        · have HSJ := Lib.hid (HSA2.out j (by omega))
          rw [← hm.out] at HSJ
          have hltj2 : (j : Int) < wn := by omega
          have h1 : Es funE (wr.alloc (.cells #[tkV x] 26)) (wr.heap.size + 1) (some ⟨wr.heap.size, 0, none⟩) 1 [x] := Es.one_ (E := funE) wr 26 x trivial (Nat.lt_succ_self _)
          have hlA := Low.alloc wr (.cells #[tkV x] 26)
          have HO2 := Lib.hid (HO.out.below hlA)
          have HRI2 := Lib.hid (HRI.out.below hlA)
          have HLI2 := Lib.hid (HLI.out.below hlA)
          have hsz : (wr.alloc (.cells #[tkV x] 26)).heap.size = wr.heap.size + 1 := by simp
          have hbz := HRI2.out.z
          clear HO HRI HLI hlA
          have HOR := Lib.hid (own_row HO2.out)
          unfold tkV tkA at *
          go_wp2_with (at_builtin; refine wpList_append_es (E := funE) rfl (.tmp 36) (.tmp 38) _ rfl B0 26 i0 _ 8 Try.underlying43 HI.out HZ0.out HZ1.out rfl HZ2.out A9 (m + j) c9 hs9 rfl HO2.out _ 1 1 _ [x] rfl h1 (by omega) (by omega) hbz ?_; intro A7 c7 w9 hown9 hgrow9 hloc9; refine Hid.out ?_)
          refine Lib.hid ?_
          obtain ⟨hri, hli⟩ := HRI2.out.more HLI2.out HSJ.out hgrow9 HOR.out
          have HO9 := Lib.hid hown9
          have HRI9 := Lib.hid hri
          have HLI9 := Lib.hid hli
          clear hri hli hown9 hgrow9 hloc9 HRI2 HLI2 HO2 HOR h1 hsz hbz HSJ
          go_wp2_with fail
          go_roundw
          case rel =>
            first
            | exact ⟨j + 1, A7, c7, hs9 ++ [x], by omega, by go_num, rfl, HO9, HRI9, HLI9⟩
            | ((repeat apply Exists.intro); refine ⟨?_, rfl⟩; exact ⟨j + 1, A7, c7, hs9 ++ [x], by omega, by go_num, rfl, HO9, HRI9, HLI9⟩)
          case measure => simp [intOf]; omega
        · obtain rfl : j = wn := by omega
          have hm2 : Hid (m + j = preM S (i + 1)) := Lib.hid (by rw [HPS2.out, ← hm.out]; rfl)
          clear HLI hm HPS2 HSA2
          go_wp2_with fail
          go_roundw
          case rel =>
            first
            | exact ⟨i + 1, m + j, A9, c9, hs9, by omega, by go_num, rfl, hm2, by omega, HO, HRI⟩
            | ((repeat apply Exists.intro); refine ⟨?_, rfl⟩; exact ⟨i + 1, m + j, A9, c9, hs9, by omega, by go_num, rfl, hm2, by omega, HO, HRI⟩)
          case measure => simp [intOf]; omega
    · obtain rfl : i = n := by omega
      have HM := Lib.hid (hm.out.trans HPA.out)
      go_wp2_with fail
      go_ret
      rw [← HSE.out]
      refine ⟨A', c', hs, by rw [← HM.out]; rfl, ?_, ?_, HRI.out.low⟩
      · rw [← HM.out]
        exact ⟨HRI.out.tab, HRI.out.turn, HO.out.lies (Nat.le_refl _)⟩
      · rw [← HM.out]
        exact ⟨HRI.out.sp, fun k hk => (HRI.out.gt k hk).1⟩
end Go.Proofs.Ytogmfhofdjiihaa
