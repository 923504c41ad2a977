/- The walk of harrierlaw08.IcmpBack: it answers true. Condition: the body is at most 2^47 - 4096 bytes long. -/
import Derived.Test.YtheagbgojdlfaaaIcI
import Derived.Test.YtheagbgojdlfaaaReg3
namespace Go.Proofs.Ytheagbgojdlfaaa
open Go.RowKit
set_option linter.unusedVariables false

set_option maxRecDepth 100000 in
set_option maxHeartbeats 3200000 in
theorem ic_back_no (s d : List Int) (m : Mg) (w : World) (h : 3000 < m.bm ∨ okM m.v = false) :
    Calls Try.prog 6 #[.agg (cellsB (s ++ d)).toArray, msgV m] w fun e w' => e = .returned (.bool true) ∧ Below w.heap.size w w' := by
  unfold msgV
  have hl0 := Low.alloc w (.cells (cellsB (s ++ d)).toArray 25)
  have hz0 : (w.alloc (.cells (cellsB (s ++ d)).toArray 25)).heap.size = w.heap.size + 1 := by simp
  have h4 : 3000 < m.bm ∨ (¬ 3000 < m.bm ∧ m.kd < 0) ∨ (¬ 3000 < m.bm ∧ ¬ m.kd < 0 ∧ 255 < m.kd) ∨ (¬ 3000 < m.bm ∧ ¬ m.kd < 0 ∧ ¬ 255 < m.kd ∧ m.cd < 0) ∨ (¬ 3000 < m.bm ∧ ¬ m.kd < 0 ∧ ¬ 255 < m.kd ∧ ¬ m.cd < 0 ∧ 255 < m.cd) := by
    rcases h with h | h
    · exact .inl h
    · have hn : ¬ ((0 ≤ m.kd ∧ m.kd ≤ 255) ∧ (0 ≤ m.cd ∧ m.cd ≤ 255)) := fun hh => by
        have : okM m.v = true := by unfold okM inB; simp; exact hh
        rw [h] at this
        cases this
      omega
  clear h
  have e0 : (3000 < m.bm) ↔ ((3000 : Int) < m.bm) := by omega
  rcases h4 with h | ⟨h, h1⟩ | ⟨h, h1, h2⟩ | ⟨h, h1, h2, h3⟩ | ⟨h, h1, h2, h3, h4⟩
  case' inl => have d0 := decide_eq_true (e0.1 h)
  case' inr.inl => have d0 := decide_eq_false (fun x => h (e0.2 x)); have d1 := decide_eq_true h1; clear h1
  case' inr.inr.inl => have d0 := decide_eq_false (fun x => h (e0.2 x)); have d1 := decide_eq_false h1; have d2 := decide_eq_true h2; clear h1 h2
  case' inr.inr.inr.inl => have d0 := decide_eq_false (fun x => h (e0.2 x)); have d1 := decide_eq_false h1; have d2 := decide_eq_false h2; have d3 := decide_eq_true h3; clear h1 h2 h3
  case' inr.inr.inr.inr => have d0 := decide_eq_false (fun x => h (e0.2 x)); have d1 := decide_eq_false h1; have d2 := decide_eq_false h2; have d3 := decide_eq_false h3; have d4 := decide_eq_true h4; clear h1 h2 h3 h4
  all_goals
    clear h e0
    go_enter Try.func6, Try.ntmps6
    go_wp2_with ((with_reducible refine wpList_box_msg rfl (.tmp 1) rfl m rfl ?_); intro w1 HK hl1 hz1; refine Hid.out ?_)
    refine Lib.hid ?_
    generalize w.alloc (.cells (cellsB (s ++ d)).toArray 25) = w0 at *
    rw [hz0] at HK hz1
    have hL : Low w w1 := hl0.trans hl1
    obtain ⟨c0, c1, c2, c3⟩ := BlkM.cells HK
    clear hl0 hl1 hz0 hz1 HK c2
    go_wp2_with fail
    refine (iclives_any _).mono ?_
    rintro e w3 ⟨rfl, hB3⟩
    replace hL := hL.trans hB3
    clear hB3
    go_wp2_with fail
    go_ret
    exact ⟨rfl, hL⟩

set_option maxRecDepth 100000 in
set_option maxHeartbeats 6400000 in
theorem ic_back_yes (s d : List Int) (m : Mg) (w : World) (hs : s.length = 16) (hd : d.length = 16) (vs : AllB s) (vd : AllB d) (hm : m.ok w w.heap.size) (hlen : m.bm ≤ 3000) (hok : okM m.v = true) :
    Calls Try.prog 6 #[.agg (cellsB (s ++ d)).toArray, msgV m] w fun e w' => e = .returned (.bool true) ∧ Below w.heap.size w w' := by
  unfold msgV
  have HPP := Lib.hid (parse_putM vs vd hok hm.wd hm.bs.all)
  have HLP : Hid ((putM s d m.v).length ≤ 140737488351232) := Lib.hid (by rw [putM_len hok, show m.v.bs = m.bs from rfl, hm.bs.len]; omega)
  obtain ⟨r1, r2⟩ := okM_yes hok
  replace r1 : 0 ≤ m.kd ∧ m.kd ≤ 255 := r1
  replace r2 : 0 ≤ m.cd ∧ m.cd ≤ 255 := r2
  have HQ := Lib.hid hlen
  have HM := Lib.hid hm
  have HS := Lib.hid hs
  have HD := Lib.hid hd
  have VS := Lib.hid vs
  have VD := Lib.hid vd
  have HE := Lib.hid (Blk.new w 25 (s ++ d))
  have hl0 := Low.alloc w (.cells (cellsB (s ++ d)).toArray 25)
  have hz0 : (w.alloc (.cells (cellsB (s ++ d)).toArray 25)).heap.size = w.heap.size + 1 := by simp
  have d0 : decide ((3000 : Int) < m.bm) = false := by simp; omega
  have d1 : decide (m.kd < 0) = false := by simp; omega
  have d2 : decide (255 < m.kd) = false := by simp; omega
  have d3 : decide (m.cd < 0) = false := by simp; omega
  have d4 : decide (255 < m.cd) = false := by simp; omega
  clear hm hs hd vs vd hlen hok r1 r2
  go_enter Try.func6, Try.ntmps6
  go_wp2_with ((with_reducible refine wpList_box_msg rfl (.tmp 1) rfl m rfl ?_); intro w1 HK hl1 hz1; refine Hid.out ?_)
  refine Lib.hid ?_
  generalize w.alloc (.cells (cellsB (s ++ d)).toArray 25) = w0 at *
  rw [hz0] at HK hz1
  replace HE := Lib.hid (HE.out.below hl1 HE.out.lt)
  have hL : Low w w1 := hl0.trans hl1
  obtain ⟨c0, c1, c2, c3⟩ := BlkM.cells HK
  replace HK := Lib.hid HK
  have HZ1 := Lib.hid hz1
  clear hl0 hl1 hz0 hz1 c2
  go_wp2_with fail
  clear c0 c1 c3 d0 d1 d2 d3 d4
  refine wp_region_planS (fun y => Low w1.drew y) (.rd 0 (.rd 1 (.rd 2 (.rd 3 (.rd 4 (.rd 5 (.rd 6 (.rd 7 (.rd 8 (.fork 9 (.fork 10 (.rd 11 (.rd 12 (.rd 13 (.act 14 (.act 15 (.rd 16 (.done))))))) 14 (.act 10 (.rd 11 (.rd 12 (.rd 13 (.act 15 (.rd 16 (.done)))))))) 14 (.act 9 (.act 10 (.rd 11 (.rd 12 (.rd 13 (.act 15 (.rd 16 (.done))))))))))))))))))  (by kernel_rfl) (by kernel_rfl) (fun _ _ d _ _ h => by cases d <;> exact h) (by kernel_rfl) (Low.refl _) ?_
  replace hL := hL.trans (Below.drew (Below.refl w1.heap.size w1))
  replace HE : Hid (Blk w1.drew 25 w.heap.size (s ++ d)) := HE
  replace HK : Hid (BlkM w1.drew (w.heap.size + 1) m) := HK
  replace HZ1 : Hid (w1.drew.heap.size = w.heap.size + 1 + 1) := HZ1
  generalize w1.drew = u at *
  iterate 9 (refine walkS_read (v := _) rfl (by rfl) (by
    intro y hy
    first
      | exact exec_half1 rfl (HE.out.below hy HE.out.lt) HS.out
      | exact exec_half2 rfl (HE.out.below hy HE.out.lt) HS.out HD.out
      | exact exec_load_msg rfl (HK.out.below hy HK.out.lt)
      | (go_simp; try rfl)) ?_; simp only [Act.put, List.setIfInBounds_toArray, List.set_cons_zero, List.set_cons_succ])
  clear HE
  have hLU : Low u u := Low.refl u
  have hzU : w.heap.size + 2 ≤ u.heap.size := by have := HZ1.out; omega
  clear HZ1
  refine ⟨?l1, ?l2⟩
  case' l1 =>
    refine walkS_act rfl (by rfl) (fun K hK => ?_)
    go_simp
    refine (icput_any s d m u HS.out HD.out VS.out VD.out (HM.out.low (hL.trans hLU)) (by have := HQ.out; omega)).mono ?_
    rintro e w3 ⟨AP, cP, rfl, hbP, hcP, hl⟩
    go_simp
    replace hLU := Low.trans hLU hl
    refine hK _ _ hLU ?_
    clear hK K
    clear hl
    obtain ⟨xs, hxs⟩ : ∃ xs, xs = putM s d m.v := ⟨_, rfl⟩
    have HXS := Lib.hid hxs
    rw [← hxs] at hbP hcP ⊢
    clear hxs
    obtain ⟨n, hn⟩ : ∃ n, n = xs.length := ⟨_, rfl⟩
    rw [← hn] at hbP hcP ⊢
    have hnl : n ≤ 140737488351232 := by rw [hn, HXS.out]; exact HLP.out
    clear hn
    refine ⟨?la, ?lb⟩
  case' la =>
    refine walkS_act rfl (by rfl) (fun K hK => ?_)
    go_simp
    refine (icparse_any s d AP n cP xs w3 HS.out HD.out VS.out VD.out hnl hcP.1 hcP.2 hbP).mono ?_
    rintro e w4 ⟨m1, rfl, hv1, hok1, hl, hf1⟩
    rw [HXS.out] at hv1
    rw [HPP.out.2] at hv1
    rw [show parseE s d xs = 0 by rw [HXS.out]; exact HPP.out.1]
    go_simp
    replace hLU := Low.trans hLU hl
    refine hK _ _ hLU ?_
    clear hK K
    clear hl hbP hcP hnl HXS
    unfold msgV
    iterate 3 (refine walkS_read (v := _) rfl (by rfl) (by intro y hy; go_simp; try rfl) ?_; simp only [Act.put, List.setIfInBounds_toArray, List.set_cons_zero, List.set_cons_succ])
    have HLO : u.heap.size ≤ w4.heap.size := hLU.size
    refine walkS_act rfl (by rfl) (fun K hK => ?_)
    refine wp_alloc_v 29 rfl (msgC zeroM) msg_zero ?_
    have hla := Low.alloc w4 (.cells (msgC zeroM).toArray 29)
    replace hLU := Low.trans hLU hla
    refine hK _ _ hLU ?_
    clear hK K
    have HZ : BlkM (w4.alloc (.cells (msgC zeroM).toArray 29)) w4.heap.size zeroM := BlkV.new w4 29 (msgC zeroM)
    have hgX : w4.heap.size < (w4.alloc (.cells (msgC zeroM).toArray 29)).heap.size := HZ.lt
    have hokx := hok1.below' hla (Nat.le_refl _)
    have HOKF : Hid (∀ w', (∀ p : Addr, p.block ≠ w4.heap.size → w'.cell? p = (w4.alloc (.cells (msgC zeroM).toArray 29)).cell? p) → m1.ok w' (w4.alloc (.cells (msgC zeroM).toArray 29)).heap.size) := Lib.hid fun w' hk => (hokx.keep fun p hp => hk p (Nat.ne_of_lt hp)).more hla.size
    clear hok1 hokx
    obtain ⟨gX, hgXe⟩ : ∃ g, g = w4.heap.size := ⟨_, rfl⟩
    have hgU : u.heap.size ≤ gX := by rw [hgXe]; exact HLO
    rw [← hgXe] at HZ hgX HOKF ⊢
    clear hla hgXe HLO
    simp only [Act.put, List.setIfInBounds_toArray, List.set_cons_zero, List.set_cons_succ]
    generalize w4.alloc (.cells (msgC zeroM).toArray 29) = w5 at *
  case' lb =>
    have HLO : u.heap.size ≤ w3.heap.size := hLU.size
    refine walkS_act rfl (by rfl) (fun K hK => ?_)
    refine wp_alloc_v 29 rfl (msgC zeroM) msg_zero ?_
    have hla := Low.alloc w3 (.cells (msgC zeroM).toArray 29)
    replace hLU := Low.trans hLU hla
    refine hK _ _ hLU ?_
    clear hK K
    have HZ : BlkM (w3.alloc (.cells (msgC zeroM).toArray 29)) w3.heap.size zeroM := BlkV.new w3 29 (msgC zeroM)
    have hgX : w3.heap.size < (w3.alloc (.cells (msgC zeroM).toArray 29)).heap.size := HZ.lt
    replace hbP := hbP.below' hla hla.size
    obtain ⟨gX, hgXe⟩ : ∃ g, g = w3.heap.size := ⟨_, rfl⟩
    have hgU : u.heap.size ≤ gX := by rw [hgXe]; exact HLO
    rw [← hgXe] at HZ hgX ⊢
    clear hla hgXe HLO
    simp only [Act.put, List.setIfInBounds_toArray, List.set_cons_zero, List.set_cons_succ]
    generalize w3.alloc (.cells (msgC zeroM).toArray 29) = w4 at *
    refine walkS_act rfl (by rfl) (fun K hK => ?_)
    go_simp
    refine (icparse_any s d AP n cP xs w4 HS.out HD.out VS.out VD.out hnl hcP.1 hcP.2 hbP).mono ?_
    rintro e w5 ⟨m1, rfl, hv1, hok1, hl, hf1⟩
    rw [HXS.out] at hv1
    rw [HPP.out.2] at hv1
    rw [show parseE s d xs = 0 by rw [HXS.out]; exact HPP.out.1]
    go_simp
    replace hLU := Low.trans hLU hl
    refine hK _ _ hLU ?_
    clear hK K
    replace HZ := HZ.below hl HZ.lt
    have HOKF : Hid (∀ w', (∀ p : Addr, p.block ≠ gX → w'.cell? p = w5.cell? p) → m1.ok w' w5.heap.size) := Lib.hid fun w' hk => hok1.other hf1 hgX hk
    clear hl hbP hcP hnl HXS
    unfold msgV
    iterate 3 (refine walkS_read (v := _) rfl (by rfl) (by intro y hy; go_simp; try rfl) ?_; simp only [Act.put, List.setIfInBounds_toArray, List.set_cons_zero, List.set_cons_succ])
  case' l2 =>
    have HLO : u.heap.size ≤ u.heap.size := hLU.size
    refine walkS_act rfl (by rfl) (fun K hK => ?_)
    refine wp_alloc_v 29 rfl (msgC zeroM) msg_zero ?_
    have hla := Low.alloc u (.cells (msgC zeroM).toArray 29)
    replace hLU := Low.trans hLU hla
    refine hK _ _ hLU ?_
    clear hK K
    have HZ : BlkM (u.alloc (.cells (msgC zeroM).toArray 29)) u.heap.size zeroM := BlkV.new u 29 (msgC zeroM)
    have hgX : u.heap.size < (u.alloc (.cells (msgC zeroM).toArray 29)).heap.size := HZ.lt
    obtain ⟨gX, hgXe⟩ : ∃ g, g = u.heap.size := ⟨_, rfl⟩
    have hgU : u.heap.size ≤ gX := by rw [hgXe]; exact HLO
    rw [← hgXe] at HZ hgX ⊢
    clear hla hgXe HLO
    simp only [Act.put, List.setIfInBounds_toArray, List.set_cons_zero, List.set_cons_succ]
    generalize u.alloc (.cells (msgC zeroM).toArray 29) = w3 at *
    refine walkS_act rfl (by rfl) (fun K hK => ?_)
    go_simp
    refine (icput_any s d m w3 HS.out HD.out VS.out VD.out (HM.out.low (hL.trans hLU)) (by have := HQ.out; omega)).mono ?_
    rintro e w4 ⟨AP, cP, rfl, hbP, hcP, hl⟩
    go_simp
    replace hLU := Low.trans hLU hl
    refine hK _ _ hLU ?_
    clear hK K
    replace HZ := HZ.below hl HZ.lt
    replace hgX : gX < w4.heap.size := Nat.lt_of_lt_of_le hgX hl.size
    clear hl
    obtain ⟨xs, hxs⟩ : ∃ xs, xs = putM s d m.v := ⟨_, rfl⟩
    have HXS := Lib.hid hxs
    rw [← hxs] at hbP hcP ⊢
    clear hxs
    obtain ⟨n, hn⟩ : ∃ n, n = xs.length := ⟨_, rfl⟩
    rw [← hn] at hbP hcP ⊢
    have hnl : n ≤ 140737488351232 := by rw [hn, HXS.out]; exact HLP.out
    clear hn
    refine walkS_act rfl (by rfl) (fun K hK => ?_)
    go_simp
    refine (icparse_any s d AP n cP xs w4 HS.out HD.out VS.out VD.out hnl hcP.1 hcP.2 hbP).mono ?_
    rintro e w5 ⟨m1, rfl, hv1, hok1, hl, hf1⟩
    rw [HXS.out] at hv1
    rw [HPP.out.2] at hv1
    rw [show parseE s d xs = 0 by rw [HXS.out]; exact HPP.out.1]
    go_simp
    replace hLU := Low.trans hLU hl
    refine hK _ _ hLU ?_
    clear hK K
    replace HZ := HZ.below hl HZ.lt
    have HOKF : Hid (∀ w', (∀ p : Addr, p.block ≠ gX → w'.cell? p = w5.cell? p) → m1.ok w' w5.heap.size) := Lib.hid fun w' hk => hok1.other hf1 hgX hk
    clear hl hbP hcP hnl HXS
    unfold msgV
    iterate 3 (refine walkS_read (v := _) rfl (by rfl) (by intro y hy; go_simp; try rfl) ?_; simp only [Act.put, List.setIfInBounds_toArray, List.set_cons_zero, List.set_cons_succ])
  all_goals
    refine walkS_act rfl (by rfl) (fun K hK => ?_)
    refine wp_store_row 29 (.tmp 5) (.tmp 44) rfl gX (msgC m1).toArray rfl rfl 29 _ HZ (by rw [msg_size]; rfl) rfl (msgC_one _) ?_
    have hLX : Low u (w5.setRow gX (msgC m1).toArray) := Below.trans hLU (low_setRow w5 gX (msgC m1).toArray hgU)
    refine hK _ _ hLX ?_
    clear hK K
    have HG := Lib.hid (BlkV.setRow HZ (msgC m1))
    have hok := HOKF.out (w5.setRow gX (msgC m1).toArray) (fun p hp => World.cell?_of_block (by simp [World.setRow, Array.getElem?_modify, Ne.symm hp]))
    have HOK1 : Hid (Mg.ok (w5.setRow gX (msgC m1).toArray) (w5.setRow gX (msgC m1).toArray).heap.size m1) := Lib.hid (hok.more (by simp))
    clear HZ hok HOKF hLU
    generalize w5.setRow gX (msgC m1).toArray = w6 at *
    simp only [Act.put]
    iterate 1 (refine walkS_read (v := _) rfl (by rfl) (by intro y hy; go_simp; try rfl) ?_; simp only [Act.put, List.setIfInBounds_toArray, List.set_cons_zero, List.set_cons_succ])
    unfold walkS
    replace HK := Lib.hid (HK.out.below hLX HK.out.lt)
    replace hL := hL.trans hLX
    have HMO := Lib.hid (HM.out.low hL)
    go_wp2_with (first
      | (with_reducible refine wpList_load_msg rfl (.tmp 5) rfl gX rfl m1 HG.out ?_)
      | (with_reducible refine wpList_load_msg rfl (.tmp 3) rfl (w.heap.size + 1) rfl m HK.out ?_))
    refine (icsame_eq m1 m w6 HOK1.out HMO.out hv1).mono ?_
    rintro e w7 ⟨rfl, hB7⟩
    replace hL := hL.trans hB7
    clear hB7 HG HK
    go_wp2_with fail
    refine (iclives_any _).mono ?_
    rintro e w8 ⟨rfl, hB8⟩
    replace hL := hL.trans hB8
    clear hB8
    go_wp2_with fail
    go_ret
    exact ⟨rfl, hL⟩
theorem ic_back_walk (s d : List Int) (m : Mg) (w : World) (hs : s.length = 16) (hd : d.length = 16) (vs : AllB s) (vd : AllB d) (hm : m.ok w w.heap.size) :
    Calls Try.prog 6 #[.agg (cellsB (s ++ d)).toArray, msgV m] w fun e w' => e = .returned (.bool true) ∧ Below w.heap.size w w' := by
  rcases Nat.lt_or_ge 3000 m.bm with h | h
  · exact ic_back_no s d m w (.inl h)
  · cases ho : okM m.v
    · exact ic_back_no s d m w (.inr ho)
    · exact ic_back_yes s d m w hs hd vs vd hm h ho
end Go.Proofs.Ytheagbgojdlfaaa
