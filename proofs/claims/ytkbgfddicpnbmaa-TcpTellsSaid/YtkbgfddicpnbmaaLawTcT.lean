/- The walk of harrierlaw07.TcpTells: it answers true. Condition: at most 2^47 options, and as many bytes of payload; flags is an int. -/
import Derived.Test.YtkbgfddicpnbmaaTcD
import Derived.Test.YtkbgfddicpnbmaaTcQ
namespace Go.Proofs.Ytkbgfddicpnbmaa
open Go.RowKit
set_option linter.unusedVariables false

set_option maxRecDepth 100000 in
set_option maxHeartbeats 3200000 in
theorem tcp_tells_walk (t : Sg) (k : Int) (w : World) (ht : t.ok w w.heap.size) (hk : i64ok k) :
    Calls Try.prog 5 #[segV t, .int .i64 k] w fun e w' => e = .returned (.bool true) ∧ Below w.heap.size w w' := by
  unfold segV
  have HT := Lib.hid ht
  have HO := Lib.hid (has_or ht.fl hk)
  clear ht hk
  go_enter Try.func5, Try.ntmps5
  go_wp2_with ((with_reducible refine wpList_box_seg rfl (.tmp 0) rfl t rfl ?_); intro w1 HK hL hz1; refine Hid.out ?_)
  refine Lib.hid ?_
  replace HK := Lib.hid HK
  clear hz1
  go_wp2_with (with_reducible refine wpList_load_seg rfl (.tmp 2) rfl w.heap.size rfl t HK.out ?_)
  refine (small_any t w1 HT.out.om HT.out.pm).mono ?_
  rintro e w2 ⟨rfl, hB2⟩
  replace HK := Lib.hid (HK.out.below hB2 HK.out.lt)
  replace hL := hL.trans hB2
  clear hB2
  cases hsm : smallB t
  · go_wp2_with fail
    refine (tclives_any _).mono ?_
    rintro e w3 ⟨rfl, hB3⟩
    replace hL := hL.trans hB3
    clear hB3
    go_wp2_with fail
    go_ret
    exact ⟨rfl, hL⟩
  · go_wp2_with fail
    refine wp_region_plan (.rd 0 (.rd 2 (.act 1 (.act 3 (.rd 4 (.rd 5 (.rd 6 (.rd 8 (.act 7 (.act 9 (.rd 10 (.rd 11 (.rd 12 (.rd 13 (.rd 14 (.rd 16 (.rd 17 (.rd 18 (.rd 19 (.rd 20 (.rd 21 (.rd 22 (.act 15 (.rd 23 (.rd 24 (.rd 25 (.act 26 (.rd 27 (.rd 28 (.done)))))))))))))))))))))))))))))) (by kernel_rfl) (by kernel_rfl) (fun _ _ d _ _ h => by cases d <;> exact h) (by kernel_rfl) ?_
    replace hL := hL.trans (Below.drew (Below.refl w2.heap.size w2))
    replace HK := Lib.hid HK.out.drew
    generalize w2.drew = w3 at *
    iterate 2 (refine walkP_read (v := _) rfl (by rfl) (by intro y hy; exact exec_load_seg rfl (HK.out.below hy HK.out.lt)) ?_; simp only [Act.put, List.setIfInBounds_toArray, List.set_cons_zero, List.set_cons_succ])
    refine walkP_act rfl (by rfl) (fun K hK => ?_)
    go_simp
    refine (span_any t w3 HT.out.pm).mono ?_
    rintro e w4 ⟨rfl, hl⟩
    go_simp
    refine hK _ _ hl ?_
    clear hK K
    replace HK := Lib.hid (HK.out.below hl HK.out.lt)
    replace hL := hL.trans hl
    clear hl
    refine walkP_act rfl (by rfl) (fun K hK => ?_)
    go_simp
    refine (rspan_any t w4 HT.out.pm).mono ?_
    rintro e w5 ⟨rfl, hl⟩
    go_simp
    refine hK _ _ hl ?_
    clear hK K
    replace HK := Lib.hid (HK.out.below hl HK.out.lt)
    replace hL := hL.trans hl
    clear hl
    generalize spanV t = z at *
    iterate 4 (refine walkP_read (v := _) rfl (by rfl) (by intro y hy; first | exact exec_load_seg rfl (HK.out.below hy HK.out.lt) | (go_simp; try rfl)) ?_; simp only [Act.put, List.setIfInBounds_toArray, List.set_cons_zero, List.set_cons_succ])
    refine walkP_act rfl (by rfl) (fun K hK => ?_)
    go_simp
    refine (first_any t w5).mono ?_
    rintro e w6 ⟨rfl, hl⟩
    go_simp
    refine hK _ _ hl ?_
    clear hK K
    replace HK := Lib.hid (HK.out.below hl HK.out.lt)
    replace hL := hL.trans hl
    clear hl
    refine walkP_act rfl (by rfl) (fun K hK => ?_)
    go_simp
    refine (rfirst_any t w6).mono ?_
    rintro e w7 ⟨rfl, hl⟩
    go_simp
    refine hK _ _ hl ?_
    clear hK K
    replace HK := Lib.hid (HK.out.below hl HK.out.lt)
    replace hL := hL.trans hl
    clear hl
    generalize firstV t = z2 at *
    have c4 := (BlkS.cells HK.out).2.2.2.2.1
    have hlt := HK.out.lt
    iterate 12 (refine walkP_read (v := _) rfl (by rfl) (by intro y hy; have e4 := (hy.cell (p := ⟨w.heap.size, 4, none⟩) hlt).trans c4; first | exact exec_load_seg rfl (HK.out.below hy HK.out.lt) | (go_simp; try rfl)) ?_; simp only [Act.put, List.setIfInBounds_toArray, List.set_cons_zero, List.set_cons_succ])
    refine walkP_act rfl (by rfl) (fun K hK => ?_)
    go_simp
    refine (thas_any t k w7).mono ?_
    rintro e w8 ⟨rfl, hl⟩
    rw [HO.out]
    go_simp
    refine hK _ _ hl ?_
    clear hK K
    replace hL := hL.trans hl
    clear hl c4 hlt HK
    iterate 3 (refine walkP_read (v := _) rfl (by rfl) (by intro y hy; go_simp; try rfl) ?_; simp only [Act.put, List.setIfInBounds_toArray, List.set_cons_zero, List.set_cons_succ])
    refine walkP_act rfl (by rfl) (fun K hK => ?_)
    go_simp
    refine (tclives_any w8).mono ?_
    rintro e w9 ⟨rfl, hl⟩
    go_simp
    refine hK _ _ hl ?_
    clear hK K
    replace hL := hL.trans hl
    clear hl
    iterate 2 (refine walkP_read (v := _) rfl (by rfl) (by intro y hy; go_simp; try rfl) ?_; simp only [Act.put, List.setIfInBounds_toArray, List.set_cons_zero, List.set_cons_succ])
    unfold walkP
    go_wp2
    go_ret
    exact ⟨rfl, hL⟩
end Go.Proofs.Ytkbgfddicpnbmaa
