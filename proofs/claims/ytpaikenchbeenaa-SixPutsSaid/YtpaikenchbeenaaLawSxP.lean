/- The law SixPuts answers true for every input. No condition. -/
import Derived.Test.YtpaikenchbeenaaSxM
import Derived.Test.YtpaikenchbeenaaApp2
namespace Go.Proofs.Ytpaikenchbeenaa
open Go.RowKit
set_option linter.unusedVariables false

set_option maxHeartbeats 1600000 in
set_option maxRecDepth 100000 in
theorem sxp_long (h : Hd) (A : Option Addr) (n c : Nat) (w : World) (hn : n ≤ 140737488355328) (hl : 50 < n) :
    Calls Try.prog 3 #[headV h, .slice A n c] w fun e w' => e = .returned (.bool true) ∧ Below w.heap.size w w' := by
  unfold headV
  go_enter Try.func3, Try.ntmps3
  go_wp2_with ((with_reducible refine wpList_box_v rfl 25 (.tmp 0) rfl (headC h) rfl ?_); intro w1 HB hL hz1; refine Hid.out ?_)
  refine Lib.hid ?_
  clear HB hz1
  go_wp2_with fail
  refine (sxlives_any w1).mono ?_
  rintro e w2 ⟨rfl, hl2⟩
  go_wp2_with fail
  go_ret
  exact ⟨rfl, hL.trans hl2⟩

set_option maxHeartbeats 3200000 in
set_option maxRecDepth 100000 in
theorem sxp_short (h : Hd) (A : Option Addr) (n c : Nat) (xs : List Int) (w : World) (hk : h.ok) (hl : n ≤ 50) (hb : Bs w w.heap.size A n xs) :
    Calls Try.prog 3 #[headV h, .slice A n c] w fun e w' => e = .returned (.bool true) ∧ Below w.heap.size w w' := by
  obtain ⟨i0, hi, hz0, hz1, hz2⟩ := info_parts info5
  have HI := Lib.hid hi
  have HZ0 := Lib.hid hz0
  have HZ1 := Lib.hid hz1
  have HZ2 := Lib.hid hz2
  clear hi hz0 hz1 hz2
  unfold headV
  have HO := Lib.hid hk
  have HS := Lib.hid hk.s
  have HD := Lib.hid hk.d
  clear hk
  go_enter Try.func3, Try.ntmps3
  go_wp2_with ((with_reducible refine wpList_box_v rfl 25 (.tmp 0) rfl (headC h) rfl ?_); intro w1 HB hL hz1; refine Hid.out ?_)
  refine Lib.hid ?_
  replace HB := Lib.hid HB
  replace hb := hb.below' hL hL.size
  clear hz1
  go_wp2_with fail
  refine wp_region_plan (.rd 0 (.rd 2 (.act 1 (.act 3 (.rd 4 (.rd 5 (.rd 7 (.rd 9 (.rd 12 (.rd 13 (.rd 14 (.act 6 (.act 8 (.act 10 (.rd 11 (.act 15 (.rd 16 (.rd 17 (.rd 18 (.rd 19 (.rd 20 (.act 21 (.rd 22 (.rd 23 (.done)))))))))))))))))))))))))
    (by kernel_rfl) (by kernel_rfl) (fun _ _ d _ _ h => by cases d <;> exact h) (by kernel_rfl) ?_
  replace hL : Low w w1.drew := hL.trans (Below.drew (Below.refl _ _))
  replace HB : Hid (BlkH w1.drew w.heap.size h) := HB
  replace hb : Bs w1.drew w1.drew.heap.size A n xs := hb.drew
  generalize w1.drew = w2 at *
  iterate 2 (refine walkP_read (v := _) rfl (by rfl) (by intro y hy; exact exec_load_head rfl (HB.out.below hy HB.out.lt) HS.out HD.out) ?_; simp only [Act.put, List.setIfInBounds_toArray, List.set_cons_zero, List.set_cons_succ])
  refine walkP_act rfl (by rfl) (fun K hK => ?_)
  go_simp
  refine (can_any h w2 HO.out).mono ?_
  rintro e w3 ⟨rfl, hq⟩
  go_simp
  refine hK _ _ hq ?_
  clear hK K
  replace hL := hL.trans hq
  replace HB := Lib.hid (HB.out.below hq HB.out.lt)
  replace hb := hb.below' hq hq.size
  clear hq
  refine walkP_act rfl (by rfl) (fun K hK => ?_)
  go_simp
  refine (rcan_any h w3 HO.out).mono ?_
  rintro e w4 ⟨rfl, hq⟩
  go_simp
  refine hK _ _ hq ?_
  clear hK K
  replace hL := hL.trans hq
  replace HB := Lib.hid (HB.out.below hq HB.out.lt)
  replace hb := hb.below' hq hq.size
  clear hq
  generalize canE h = ce at *
  iterate 7 (refine walkP_read (v := _) rfl (by rfl) (by intro y hy; have e0 := conv_bs (c := c) (hb.below hy); first | exact exec_load_head rfl (HB.out.below hy HB.out.lt) HS.out HD.out | (go_simp; try rfl)) ?_; simp only [Act.put, List.setIfInBounds_toArray, List.set_cons_zero, List.set_cons_succ])
  refine walkP_act rfl (by rfl) (fun K hK => ?_)
  go_simp
  refine hK _ _ (Low.alloc _ _) ?_
  clear hK K
  have hq := Low.alloc w4 (.cells #[] 5)
  replace hL := hL.trans hq
  replace HB := Lib.hid (HB.out.below hq HB.out.lt)
  replace hb := hb.below' hq hq.size
  clear hq
  generalize w4.alloc (.cells #[] 5) = w5 at *
  generalize w4.heap.size = g4 at *
  refine walkP_act rfl (by rfl) (fun K hK => ?_)
  refine wp_append_full (.tmp 15) (.tmp 16) 26 rfl 5 i0 Try.underlying26 HI.out HZ0.out HZ1.out HZ2.out g4 0 0 0 [] rfl (Bs.nil _ _ _) rfl A n c xs rfl hb (by omega) ?_
  intro A6 c6 w6 hb6 hn6 hc6 hq
  rw [List.nil_append, Nat.zero_add] at hb6
  refine hK _ _ hq ?_
  clear hK K
  replace hL := hL.trans hq
  replace HB := Lib.hid (HB.out.below hq HB.out.lt)
  clear hq hn6 hc6 hb
  rw [Nat.zero_add]
  simp only [Act.put, List.setIfInBounds_toArray, List.set_cons_zero, List.set_cons_succ]
  refine walkP_act rfl (by rfl) (fun K hK => ?_)
  go_simp
  refine (put_any A6 n c6 xs h w6 HO.out (by omega) hb6).mono ?_
  rintro e w7 ⟨v, rfl, g7, rfl, hg7, hk7, hl7, ha7, hq⟩
  have hb7 := hk7.bs ha7 hk7.lt hl7
  have HAll := Lib.hid hb6.len
  clear hg7 hk7 hl7 ha7 hb6
  go_simp
  refine hK _ _ hq ?_
  clear hK K
  replace hL := hL.trans hq
  replace HB := Lib.hid (HB.out.below hq HB.out.lt)
  clear hq
  have HM : Hid ((putL h).length ≤ 40) := Lib.hid (by unfold putL; split; exact Nat.le_of_eq (headL_length HO.out); simp)
  iterate 1 (refine walkP_read (v := _) rfl (by rfl) (by intro y hy; have e0 := conv_bs (c := n + (putL h).length) (hb7.below hy); have e1 := str_append xs (putL h); first | exact exec_load_head rfl (HB.out.below hy HB.out.lt) HS.out HD.out | (go_simp; try rfl)) ?_; simp only [Act.put, List.setIfInBounds_toArray, List.set_cons_zero, List.set_cons_succ])
  clear hb7
  refine walkP_act rfl (by rfl) (fun K hK => ?_)
  go_simp
  refine (rput_any h w7 HO.out).mono ?_
  rintro e w8 ⟨v, rfl, A8, c8, rfl, hO8, hq⟩
  have hb8 := hO8.bs (Nat.le_refl _)
  clear hO8
  go_simp
  refine hK _ _ hq ?_
  clear hK K
  replace hL := hL.trans hq
  clear hq HB
  have z1 : (strOfNums xs).size = n := by rw [strOfNums_size, HAll.out]
  have z2 := HM.out
  have s1 : ¬ 9223372036854775807 < (strOfNums xs).size + (strOfNums (putL h)).size := by rw [z1, strOfNums_size]; omega
  clear z1 z2
  iterate 5 (refine walkP_read (v := _) rfl (by rfl) (by intro y hy; have e0 := conv_bs (c := c8) (hb8.below hy); go_simp; try rfl) ?_; simp only [Act.put, List.setIfInBounds_toArray, List.set_cons_zero, List.set_cons_succ])
  refine walkP_act rfl (by rfl) (fun K hK => ?_)
  go_simp
  refine (sxlives_any w8).mono ?_
  rintro e w9 ⟨rfl, hq⟩
  go_simp
  refine hK _ _ hq ?_
  clear hK K
  replace hL := hL.trans hq
  iterate 2 (refine walkP_read (v := _) rfl (by rfl) (by intro y hy; go_simp; try rfl) ?_; simp only [Act.put, List.setIfInBounds_toArray, List.set_cons_zero, List.set_cons_succ])
  unfold walkP
  go_wp2
  go_ret
  exact ⟨rfl, hL⟩
theorem sxp_walk (h : Hd) (A : Option Addr) (n c : Nat) (xs : List Int) (w : World) (hk : h.ok) (hn : n ≤ 140737488355328) (hb : Bs w w.heap.size A n xs) :
    Calls Try.prog 3 #[headV h, .slice A n c] w fun e w' => e = .returned (.bool true) ∧ Below w.heap.size w w' := by
  by_cases hl : n ≤ 50
  · exact sxp_short h A n c xs w hk hl hb
  · exact sxp_long h A n c w hn (by omega)
end Go.Proofs.Ytpaikenchbeenaa
