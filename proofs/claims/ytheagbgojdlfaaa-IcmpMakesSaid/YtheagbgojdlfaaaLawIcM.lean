/- The walk of harrierlaw08.IcmpMakes: it answers true. Condition: at most 2^47 - 4096 bytes. -/
import Derived.Test.YtheagbgojdlfaaaIcI
namespace Go.Proofs.Ytheagbgojdlfaaa
open Go.RowKit
set_option linter.unusedVariables false

set_option maxRecDepth 100000 in
set_option maxHeartbeats 3200000 in
theorem ic_makes_no (m : Mg) (k q : Int) (A : Option Addr) (n c : Nat) (w : World) (h : 3000 < n ∨ (¬ 3000 < n ∧ 3000 < m.bm)) :
    Calls Try.prog 5 #[msgV m, .agg #[.int .i64 k, .int .i64 q], .slice A n c] w fun e w' => e = .returned (.bool true) ∧ Below w.heap.size w w' := by
  unfold msgV
  have e0 : (3000 < n) ↔ ((3000 : Int) < n) := by omega
  rcases h with h | ⟨h, h1⟩
  case' inl => have d0 := decide_eq_true (e0.1 h)
  case' inr => have d0 := decide_eq_false (fun x => h (e0.2 x)); have d1 : decide ((3000 : Int) < m.bm) = true := by simp; omega
  case' inr => clear h1
  all_goals
    clear h e0
    go_enter Try.func5, Try.ntmps5
    go_wp2_with ((with_reducible refine wpList_box_msg rfl (.tmp 0) rfl m rfl ?_); intro w1 HK hL hz1; refine Hid.out ?_)
    refine Lib.hid ?_
    have hla := Low.alloc w1 (.cells #[.int .i64 k, .int .i64 q] 38)
    obtain ⟨c0, c1, c2, c3⟩ := BlkM.cells (BlkV.below HK hla HK.lt)
    clear hla
    have hl2 : Low w (w1.alloc (.cells #[.int .i64 k, .int .i64 q] 38)) := Low.trans hL (Low.alloc w1 _)
    clear c0 c1 c2 hz1 hL
    go_wp2_with fail
    refine (iclives_any _).mono ?_
    rintro e w3 ⟨rfl, hB3⟩
    replace hl2 := hl2.trans hB3
    clear hB3
    go_wp2_with fail
    go_ret
    exact ⟨rfl, hl2⟩

set_option maxRecDepth 100000 in
set_option maxHeartbeats 6400000 in
theorem ic_makes_yes (m : Mg) (k q : Int) (A : Option Addr) (n c : Nat) (xs : List Int) (w : World) (hm : m.ok w w.heap.size) (hk : i64ok k) (hq : i64ok q) (hn : n ≤ 140737488351232) (hc : n ≤ c) (hc2 : c ≤ 9223372036854775807) (hb : Bs w w.heap.size A n xs) (h1 : ¬ 3000 < n) (h2 : ¬ 3000 < m.bm) :
    Calls Try.prog 5 #[msgV m, .agg #[.int .i64 k, .int .i64 q], .slice A n c] w fun e w' => e = .returned (.bool true) ∧ Below w.heap.size w w' := by
  unfold msgV
  have HM := Lib.hid hm
  have HB := Lib.hid hb
  have HIK := Lib.hid hk
  have HIQ := Lib.hid hq
  have d0 : decide ((3000 : Int) < n) = false := by simp; omega
  have d1 : decide ((3000 : Int) < m.bm) = false := by simp; omega
  clear hm hb hk hq h1 h2
  go_enter Try.func5, Try.ntmps5
  go_wp2_with ((with_reducible refine wpList_box_msg rfl (.tmp 0) rfl m rfl ?_); intro w1 HK hL hz1; refine Hid.out ?_)
  refine Lib.hid ?_
  have hla := Low.alloc w1 (.cells #[.int .i64 k, .int .i64 q] 38)
  have HN := Lib.hid (BlkV.new w1 38 [.int .i64 k, .int .i64 q])
  rw [hz1] at HN
  replace HK := HK.below hla HK.lt
  have c3 := (BlkM.cells HK).2.2.2
  replace HK := Lib.hid HK
  replace hL := Low.trans hL hla
  clear hla
  obtain ⟨rb, hrb⟩ : ∃ b, b = replyB m.v := ⟨_, rfl⟩
  have HRB := Lib.hid hrb
  obtain ⟨ab, hab⟩ : ∃ b, b = aboutB k q xs := ⟨_, rfl⟩
  have HAB := Lib.hid hab
  clear hrb hab
  go_wp2_with ((with_reducible refine wpList_load_msg rfl (.tmp 3) rfl w.heap.size rfl m HK.out ?_))
  replace HN : Hid (BlkV (w1.alloc (.cells #[.int .i64 k, .int .i64 q] 38)) 38 (w.heap.size + 1) [.int .i64 k, .int .i64 q]) := HN
  clear hz1 c3 d0 d1
  generalize w1.alloc (.cells #[.int .i64 k, .int .i64 q] 38) = w2 at *
  refine (icreply_any m w2 (HM.out.low hL)).mono ?_
  rintro e w3 ⟨m1, rfl, hm1, hom1, hl, -⟩
  replace HK := Lib.hid (HK.out.below hl HK.out.lt)
  replace HN := Lib.hid (HN.out.below hl HN.out.lt)
  replace hL := Low.trans hL hl
  have HOm1 := Lib.hid hom1
  have HVm1 := Lib.hid hm1
  clear hl hm1 hom1
  unfold msgV
  rw [← HRB.out]
  go_wp2_with ((with_reducible refine wpList_alloc_msg rfl rfl ?_); intro w4 HZ hla hza; refine Hid.out ?_)
  refine Lib.hid ?_
  replace HZ := Lib.hid HZ
  have ltHK := HK.out.lt
  replace HK := Lib.hid (HK.out.below hla HK.out.lt)
  have ltHN := HN.out.lt
  replace HN := Lib.hid (HN.out.below hla HN.out.lt)
  go_wp2_with ((refine wpList_store_msg rfl (.tmp 7) (.tmp 28) rfl w3.heap.size rfl m1 rfl zeroM HZ.out ?_); intro w5 HG1 hbs hos hzs; refine Hid.out ?_)
  refine Lib.hid ?_
  have hlx : Below w3.heap.size w3 w5 := Below.trans hla hbs
  have hlz : w3.heap.size ≤ w5.heap.size := by omega
  replace HK := Lib.hid (HK.out.below hbs ltHK)
  replace HN := Lib.hid (HN.out.below hbs ltHN)
  replace HOm1 := Lib.hid (HOm1.out.below' hlx hlz)
  replace HG1 := Lib.hid HG1
  replace hL : Low w w5 := Below.trans hL (hlx.mono hL.size)
  clear HZ hla hbs hos hza hzs hlx hlz ltHK ltHN
  go_wp2_with ((with_reducible refine wpList_load_msg rfl (.tmp 3) rfl w.heap.size rfl m HK.out ?_))
  refine (ricreply_any m w5 (HM.out.low hL)).mono ?_
  rintro e w6 ⟨m2, rfl, hm2, hom2, hl⟩
  replace HK := Lib.hid (HK.out.below hl HK.out.lt)
  replace HN := Lib.hid (HN.out.below hl HN.out.lt)
  replace HG1 := Lib.hid (HG1.out.below hl HG1.out.lt)
  replace HOm1 := Lib.hid (HOm1.out.low hl)
  replace hL := Low.trans hL hl
  have HOm2 := Lib.hid hom2
  have HVm2 := Lib.hid hm2
  clear hl hm2 hom2
  unfold msgV
  rw [← HRB.out]
  go_wp2_with ((with_reducible refine wpList_alloc_msg rfl rfl ?_); intro w7 HZ hla hza; refine Hid.out ?_)
  refine Lib.hid ?_
  replace HZ := Lib.hid HZ
  have ltHK := HK.out.lt
  replace HK := Lib.hid (HK.out.below hla HK.out.lt)
  have ltHN := HN.out.lt
  replace HN := Lib.hid (HN.out.below hla HN.out.lt)
  have ltHG1 := HG1.out.lt
  replace HG1 := Lib.hid (HG1.out.below hla HG1.out.lt)
  go_wp2_with ((refine wpList_store_msg rfl (.tmp 9) (.tmp 33) rfl w6.heap.size rfl m2 rfl zeroM HZ.out ?_); intro w8 HG2 hbs hos hzs; refine Hid.out ?_)
  refine Lib.hid ?_
  have hlx : Below w6.heap.size w6 w8 := Below.trans hla hbs
  have hlz : w6.heap.size ≤ w8.heap.size := by omega
  replace HK := Lib.hid (HK.out.below hbs ltHK)
  replace HN := Lib.hid (HN.out.below hbs ltHN)
  replace HG1 := Lib.hid (HG1.out.below hbs ltHG1)
  replace HOm1 := Lib.hid (HOm1.out.below' hlx hlz)
  replace HOm2 := Lib.hid (HOm2.out.below' hlx hlz)
  replace HG2 := Lib.hid HG2
  replace hL : Low w w8 := Below.trans hL (hlx.mono hL.size)
  clear HZ hla hbs hos hza hzs hlx hlz ltHK ltHN ltHG1
  have n0 : w8.cell? ⟨w.heap.size + 1, 0, none⟩ = some (.int .i64 k) := HN.out.cell 0
  have n1 : w8.cell? ⟨w.heap.size + 1, 1, none⟩ = some (.int .i64 q) := HN.out.cell 1
  have c2 := (BlkM.cells HK.out).2.2.1
  go_wp2_with fail
  refine (icabout_any A n c xs w8 hn hc hc2 (HB.out.below' hL hL.size) k q m.wd HIK.out HIQ.out HM.out.wd).mono ?_
  rintro e w9 ⟨m3, rfl, hm3, hom3, hl, -⟩
  replace HK := Lib.hid (HK.out.below hl HK.out.lt)
  replace HN := Lib.hid (HN.out.below hl HN.out.lt)
  replace HG1 := Lib.hid (HG1.out.below hl HG1.out.lt)
  replace HG2 := Lib.hid (HG2.out.below hl HG2.out.lt)
  replace HOm1 := Lib.hid (HOm1.out.low hl)
  replace HOm2 := Lib.hid (HOm2.out.low hl)
  replace hL := Low.trans hL hl
  have HOm3 := Lib.hid hom3
  have HVm3 := Lib.hid hm3
  clear hl hm3 hom3
  unfold msgV
  rw [← HAB.out]
  clear n0 n1 c2
  go_wp2_with ((with_reducible refine wpList_alloc_msg rfl rfl ?_); intro wa HZ hla hza; refine Hid.out ?_)
  refine Lib.hid ?_
  replace HZ := Lib.hid HZ
  have ltHK := HK.out.lt
  replace HK := Lib.hid (HK.out.below hla HK.out.lt)
  have ltHN := HN.out.lt
  replace HN := Lib.hid (HN.out.below hla HN.out.lt)
  have ltHG1 := HG1.out.lt
  replace HG1 := Lib.hid (HG1.out.below hla HG1.out.lt)
  have ltHG2 := HG2.out.lt
  replace HG2 := Lib.hid (HG2.out.below hla HG2.out.lt)
  go_wp2_with ((refine wpList_store_msg rfl (.tmp 11) (.tmp 44) rfl w9.heap.size rfl m3 rfl zeroM HZ.out ?_); intro wb HG3 hbs hos hzs; refine Hid.out ?_)
  refine Lib.hid ?_
  have hlx : Below w9.heap.size w9 wb := Below.trans hla hbs
  have hlz : w9.heap.size ≤ wb.heap.size := by omega
  replace HK := Lib.hid (HK.out.below hbs ltHK)
  replace HN := Lib.hid (HN.out.below hbs ltHN)
  replace HG1 := Lib.hid (HG1.out.below hbs ltHG1)
  replace HG2 := Lib.hid (HG2.out.below hbs ltHG2)
  replace HOm1 := Lib.hid (HOm1.out.below' hlx hlz)
  replace HOm2 := Lib.hid (HOm2.out.below' hlx hlz)
  replace HOm3 := Lib.hid (HOm3.out.below' hlx hlz)
  replace HG3 := Lib.hid HG3
  replace hL : Low w wb := Below.trans hL (hlx.mono hL.size)
  clear HZ hla hbs hos hza hzs hlx hlz ltHK ltHN ltHG1 ltHG2
  have n0 : wb.cell? ⟨w.heap.size + 1, 0, none⟩ = some (.int .i64 k) := HN.out.cell 0
  have n1 : wb.cell? ⟨w.heap.size + 1, 1, none⟩ = some (.int .i64 q) := HN.out.cell 1
  have c2 := (BlkM.cells HK.out).2.2.1
  go_wp2_with fail
  refine (ricabout_any A n c xs wb hn hc (HB.out.below' hL hL.size) k q m.wd HIK.out HIQ.out HM.out.wd).mono ?_
  rintro e wc ⟨m4, rfl, hm4, hom4, hl, -⟩
  replace HK := Lib.hid (HK.out.below hl HK.out.lt)
  replace HG1 := Lib.hid (HG1.out.below hl HG1.out.lt)
  replace HG2 := Lib.hid (HG2.out.below hl HG2.out.lt)
  replace HG3 := Lib.hid (HG3.out.below hl HG3.out.lt)
  replace HOm1 := Lib.hid (HOm1.out.low hl)
  replace HOm2 := Lib.hid (HOm2.out.low hl)
  replace HOm3 := Lib.hid (HOm3.out.low hl)
  replace hL := Low.trans hL hl
  have HOm4 := Lib.hid hom4
  have HVm4 := Lib.hid hm4
  clear hl hm4 hom4
  unfold msgV
  rw [← HAB.out]
  clear n0 n1 c2 HN
  go_wp2_with ((with_reducible refine wpList_alloc_msg rfl rfl ?_); intro wd HZ hla hza; refine Hid.out ?_)
  refine Lib.hid ?_
  replace HZ := Lib.hid HZ
  have ltHK := HK.out.lt
  replace HK := Lib.hid (HK.out.below hla HK.out.lt)
  have ltHG1 := HG1.out.lt
  replace HG1 := Lib.hid (HG1.out.below hla HG1.out.lt)
  have ltHG2 := HG2.out.lt
  replace HG2 := Lib.hid (HG2.out.below hla HG2.out.lt)
  have ltHG3 := HG3.out.lt
  replace HG3 := Lib.hid (HG3.out.below hla HG3.out.lt)
  go_wp2_with ((refine wpList_store_msg rfl (.tmp 13) (.tmp 55) rfl wc.heap.size rfl m4 rfl zeroM HZ.out ?_); intro we HG4 hbs hos hzs; refine Hid.out ?_)
  refine Lib.hid ?_
  have hlx : Below wc.heap.size wc we := Below.trans hla hbs
  have hlz : wc.heap.size ≤ we.heap.size := by omega
  replace HK := Lib.hid (HK.out.below hbs ltHK)
  replace HG1 := Lib.hid (HG1.out.below hbs ltHG1)
  replace HG2 := Lib.hid (HG2.out.below hbs ltHG2)
  replace HG3 := Lib.hid (HG3.out.below hbs ltHG3)
  replace HOm1 := Lib.hid (HOm1.out.below' hlx hlz)
  replace HOm2 := Lib.hid (HOm2.out.below' hlx hlz)
  replace HOm3 := Lib.hid (HOm3.out.below' hlx hlz)
  replace HOm4 := Lib.hid (HOm4.out.below' hlx hlz)
  replace HG4 := Lib.hid HG4
  replace hL : Low w we := Below.trans hL (hlx.mono hL.size)
  clear HZ hla hbs hos hza hzs hlx hlz ltHK ltHG1 ltHG2 ltHG3
  have HV12 := Lib.hid (HVm1.out.trans HVm2.out.symm)
  have HV34 := Lib.hid (HVm3.out.trans HVm4.out.symm)
  clear HVm1 HVm2 HVm3 HVm4 HRB HAB HB HIK HIQ HM
  go_wp2_with fail
  refine wp_region_plan (.rd 0 (.rd 1 (.act 2 (.rd 3 (.rd 4 (.rd 5 (.rd 6 (.rd 7 (.rd 8 (.rd 9 (.rd 10 (.act 11 (.rd 12 (.rd 13 (.rd 14 (.rd 15 (.rd 16 (.rd 17 (.rd 18 (.rd 19 (.rd 21 (.rd 22 (.rd 23 (.act 20 (.rd 24 (.rd 25 (.rd 26 (.rd 27 (.rd 28 (.rd 29 (.rd 30 (.rd 31 (.act 32 (.rd 33 (.rd 34 (.done)))))))))))))))))))))))))))))))))))) (by kernel_rfl) (by kernel_rfl) (fun _ _ d _ _ h => by cases d <;> exact h) (by kernel_rfl) ?_
  replace hL := hL.trans (Below.drew (Below.refl we.heap.size we))
  replace HK : Hid (BlkM we.drew w.heap.size m) := HK
  replace HG1 : Hid (BlkM we.drew w3.heap.size m1) := HG1
  replace HG2 : Hid (BlkM we.drew w6.heap.size m2) := HG2
  replace HG3 : Hid (BlkM we.drew w9.heap.size m3) := HG3
  replace HG4 : Hid (BlkM we.drew wc.heap.size m4) := HG4
  replace HOm1 : Hid (Mg.ok we.drew we.drew.heap.size m1) := Lib.hid (HOm1.out.keep fun _ _ => rfl)
  replace HOm2 : Hid (Mg.ok we.drew we.drew.heap.size m2) := Lib.hid (HOm2.out.keep fun _ _ => rfl)
  replace HOm3 : Hid (Mg.ok we.drew we.drew.heap.size m3) := Lib.hid (HOm3.out.keep fun _ _ => rfl)
  replace HOm4 : Hid (Mg.ok we.drew we.drew.heap.size m4) := Lib.hid (HOm4.out.keep fun _ _ => rfl)
  generalize we.drew = wf at *
  generalize w3.heap.size = g1 at *
  generalize w6.heap.size = g2 at *
  generalize w9.heap.size = g3 at *
  generalize wc.heap.size = g4 at *
  iterate 2 (refine walkP_read (v := _) rfl (by rfl) (by
    intro y hy
    first
      | exact exec_load_msg rfl (HG1.out.below hy HG1.out.lt)
      | exact exec_load_msg rfl (HG2.out.below hy HG2.out.lt)) ?_; simp only [Act.put, List.setIfInBounds_toArray, List.set_cons_zero, List.set_cons_succ])
  refine walkP_act rfl (by rfl) (fun K hK => ?_)
  go_simp
  refine (icsame_eq m1 m2 wf HOm1.out HOm2.out HV12.out).mono ?_
  rintro e wg ⟨rfl, hl⟩
  go_simp
  refine hK _ _ hl ?_
  clear hK K HG1 HG2 HOm1 HOm2 HV12
  replace hL := hL.trans hl
  replace HK := Lib.hid (HK.out.below hl HK.out.lt)
  replace HG3 := Lib.hid (HG3.out.below hl HG3.out.lt)
  replace HG4 := Lib.hid (HG4.out.below hl HG4.out.lt)
  replace HOm3 := Lib.hid (HOm3.out.low hl)
  replace HOm4 := Lib.hid (HOm4.out.low hl)
  clear hl
  iterate 6 (refine walkP_read (v := _) rfl (by rfl) (by intro y hy; go_simp; try rfl) ?_; simp only [Act.put, List.setIfInBounds_toArray, List.set_cons_zero, List.set_cons_succ])
  iterate 2 (refine walkP_read (v := _) rfl (by rfl) (by
    intro y hy
    first
      | exact exec_load_msg rfl (HG3.out.below hy HG3.out.lt)
      | exact exec_load_msg rfl (HG4.out.below hy HG4.out.lt)) ?_; simp only [Act.put, List.setIfInBounds_toArray, List.set_cons_zero, List.set_cons_succ])
  refine walkP_act rfl (by rfl) (fun K hK => ?_)
  go_simp
  refine (icsame_eq m3 m4 wg HOm3.out HOm4.out HV34.out).mono ?_
  rintro e wh ⟨rfl, hl⟩
  go_simp
  refine hK _ _ hl ?_
  clear hK K HG3 HG4 HOm3 HOm4 HV34
  replace hL := hL.trans hl
  replace HK := Lib.hid (HK.out.below hl HK.out.lt)
  clear hl
  iterate 7 (refine walkP_read (v := _) rfl (by rfl) (by intro y hy; go_simp; try rfl) ?_; simp only [Act.put, List.setIfInBounds_toArray, List.set_cons_zero, List.set_cons_succ])
  have h3 : m.kd < 0 ∨ (0 ≤ m.kd ∧ m.kd ≤ 127) ∨ 127 < m.kd := by omega
  have hkc := (BlkM.cells HK.out).1
  have hkl := HK.out.lt
  rcases h3 with h3 | h3 | h3
  case' inl =>
    have HI : Hid (inB 0 127 m.kd = false) := Lib.hid (by unfold inB; rw [decide_eq_false_iff_not]; omega)
    have p1 : ¬ 0 ≤ m.kd := by omega
  case' inr.inl =>
    have HI : Hid (inB 0 127 m.kd = true) := Lib.hid (by unfold inB; rw [decide_eq_true_eq]; omega)
    have p1 : 0 ≤ m.kd := h3.1
    have p2 : m.kd ≤ 127 := h3.2
  case' inr.inr =>
    have HI : Hid (inB 0 127 m.kd = false) := Lib.hid (by unfold inB; rw [decide_eq_false_iff_not]; omega)
    have p1 : 0 ≤ m.kd := by omega
    have p2 : ¬ m.kd ≤ 127 := by omega
  all_goals
    clear h3
    iterate 1 (refine walkP_read (v := _) rfl (by rfl) (by intro y hy; exact exec_load_msg rfl (HK.out.below hy HK.out.lt)) ?_; simp only [Act.put, List.setIfInBounds_toArray, List.set_cons_zero, List.set_cons_succ])
    iterate 3 (refine walkP_read (v := _) rfl (by rfl) (by intro y hy; have e0 := (hy.cell (p := ⟨w.heap.size, 0, none⟩) hkl).trans hkc; go_simp; try rfl) ?_; simp only [Act.put, List.setIfInBounds_toArray, List.set_cons_zero, List.set_cons_succ])
    refine walkP_act rfl (by rfl) (fun K hK => ?_)
    go_simp
    refine (isError_any m wh).mono ?_
    rintro e wi ⟨rfl, hl⟩
    rw [HI.out]
    go_simp
    refine hK _ _ hl ?_
    clear hK K HI
    replace hL := hL.trans hl
    replace hkc := (hl.cell (p := ⟨w.heap.size, 0, none⟩) hkl).trans hkc
    replace hkl := Nat.lt_of_lt_of_le hkl hl.size
    clear hl HK
    iterate 8 (first
      | (refine walkP_read (v := _) rfl (by rfl) (by intro y hy; have e0 := (hy.cell (p := ⟨w.heap.size, 0, none⟩) hkl).trans hkc; go_simp; try rfl) ?_; simp only [Act.put, List.setIfInBounds_toArray, List.set_cons_zero, List.set_cons_succ])
      | (refine walkP_skip rfl (by rfl) ?_; simp only [Act.put, List.setIfInBounds_toArray, List.set_cons_zero, List.set_cons_succ]))
    clear hkc hkl
    refine walkP_act rfl (by rfl) (fun K hK => ?_)
    go_simp
    refine (iclives_any _).mono ?_
    rintro e wj ⟨rfl, hl⟩
    go_simp
    refine hK _ _ hl ?_
    clear hK K
    replace hL := hL.trans hl
    clear hl
    iterate 2 (refine walkP_read (v := _) rfl (by rfl) (by intro y hy; go_simp; try rfl) ?_; simp only [Act.put, List.setIfInBounds_toArray, List.set_cons_zero, List.set_cons_succ])
    unfold walkP
    go_wp2
    go_ret
    exact ⟨rfl, hL⟩
theorem ic_makes_walk (m : Mg) (k q : Int) (A : Option Addr) (n c : Nat) (xs : List Int) (w : World) (hm : m.ok w w.heap.size) (hk : i64ok k) (hq : i64ok q) (hn : n ≤ 140737488351232) (hc : n ≤ c) (hc2 : c ≤ 9223372036854775807) (hb : Bs w w.heap.size A n xs) :
    Calls Try.prog 5 #[msgV m, .agg #[.int .i64 k, .int .i64 q], .slice A n c] w fun e w' => e = .returned (.bool true) ∧ Below w.heap.size w w' := by
  by_cases h1 : 3000 < n
  · exact ic_makes_no m k q A n c w (.inl h1)
  · by_cases h2 : 3000 < m.bm
    · exact ic_makes_no m k q A n c w (.inr ⟨h1, h2⟩)
    · exact ic_makes_yes m k q A n c xs w hm hk hq hn hc hc2 hb h1 h2
end Go.Proofs.Ytheagbgojdlfaaa
