/- The walk of KeyedFlows. Conditions: addresses are 16 bytes, ports and numbers are ints. -/
import Derived.Test.YtcfppidobenbfaaKdJ
import Derived.Test.YtcfppidobenbfaaKdK
set_option maxRecDepth 100000
namespace Go.Proofs.Ytcfppidobenbfaa
open Go.RowKit
set_option linter.unusedVariables false

def pairC (p q : Int) : List Value := [.int .i64 p, .int .i64 q]
set_option maxHeartbeats 3200000 in
set_option maxRecDepth 100000 in
theorem kdf_walk (a b : Int) (f : Fw) (p q : Int) (w : World) (hf : f.ok) :
    Calls Try.prog 4 #[keyV a b, fwV f, .agg (pairC p q).toArray] w fun e w' => e = .returned (.bool true) ∧ Low w w' := by
  have HF := Lib.hid hf
  clear hf
  have hpq : ∀ (y : World) (t : TypeId) (g : Nat), BlkV y t g (pairC p q) → y.cell? ⟨g, 0, none⟩ = some (.int .i64 p) ∧ y.cell? ⟨g, 1, none⟩ = some (.int .i64 q) := fun _ _ _ h => ⟨by rw [BlkV.cell h]; rfl, by rw [BlkV.cell h]; rfl⟩
  have HPQ := Lib.hid hpq
  clear hpq
  unfold fwV keyV
  go_enter Try.func4, Try.ntmps4
  go_wp2_with (first
    | ((with_reducible refine wpList_box_v rfl _ (.tmp 0) rfl (keyC a b) rfl ?_); intro w1 HK hL hz1)
    | ((with_reducible refine wpList_box_fw rfl (.tmp 1) rfl f rfl ?_); intro w2 HB hl2 hz2)
    | ((with_reducible refine wpList_box_v rfl _ (.tmp 2) rfl (pairC p q) rfl ?_); intro w3 HP hl3 hz3; refine Hid.out ?_))
  refine Lib.hid ?_
  rw [hz1] at HB
  rw [hz2, hz1] at HP
  replace HK := (HK.below hl2 HK.lt).below hl3 (HK.below hl2 HK.lt).lt
  replace HB := Lib.hid (HB.below hl3 HB.lt)
  replace HP := Lib.hid HP
  have hL3 := Lib.hid ((hL.trans hl2).trans hl3)
  have c0 := key_a HK
  have c1 := key_b HK
  replace HK := Lib.hid HK
  replace hz3 : w3.heap.size = w.heap.size + 3 := by omega
  clear hL hl2 hl3 hz2 hz1
  go_wp2_with ((with_reducible refine wpList_alloc_v rfl _ rfl _ rkey_zero ?_); intro w4 HZ hl4 hz4; refine Hid.out ?_)
  refine Lib.hid ?_
  rw [hz3] at HZ
  replace HZ := Lib.hid HZ
  replace HK := Lib.hid (HK.out.below hl4 HK.out.lt)
  replace HB := Lib.hid (HB.out.below hl4 HB.out.lt)
  replace HP := Lib.hid (HP.out.below hl4 HP.out.lt)
  replace hL3 := Lib.hid (hL3.out.trans hl4)
  clear hl4 c0 c1
  rw [hz3] at hz4
  clear hz3
  go_wp2_with ((refine wpList_store_v rfl 29 (.tmp 7) (.tmp 12) rfl (w.heap.size + 3) rfl (keyC a b) rfl _ _ HZ.out rfl rkey_size (keyC_one _ _) ?_); intro w5 HR hb5 hz5; refine Hid.out ?_)
  refine Lib.hid ?_
  replace HK := HK.out.below hb5 (by omega)
  replace HB : BlkF w5 (w.heap.size + 1) f := BlkV.below HB.out hb5 (by omega)
  replace HP := HP.out.below hb5 (by omega)
  replace hL3 := Lib.hid (show Low w w5 from Below.trans hL3.out (hb5.mono (by omega)))
  clear hb5 hz5 hz4 HZ
  go_wp2_with fail
  refine wp_region_planS (fun y => BlkV y 24 w.heap.size (keyC a b) ∧ BlkF y (w.heap.size + 1) f ∧ BlkV y 36 (w.heap.size + 2) (pairC p q) ∧ BlkV y 29 (w.heap.size + 3) (keyC a b))
    (.rd 0 (.rd 1 (.rd 3 (.rd 4 (.act 2 (.act 5 (.rd 6 (.rd 7 (.rd 8 (.rd 9 (.rd 10 (.rd 11 (.rd 12 (.rd 14 (.rd 15 (.rd 16 (.rd 17 (.rd 18 (.act 13 (.act 19 (.rd 20 (.rd 21 (.rd 22 (.act 23 (.rd 24 (.rd 25 (.done)))))))))))))))))))))))))))
    (by kernel_rfl) (by kernel_rfl) (fun _ _ d _ _ h => by cases d <;> exact h) (by kernel_rfl) ⟨HK, HB, HP, HR⟩ ?_
  have HS := Lib.hid (show BlkV w5.drew 24 w.heap.size (keyC a b) ∧ BlkF w5.drew (w.heap.size + 1) f ∧ BlkV w5.drew 36 (w.heap.size + 2) (pairC p q) ∧ BlkV w5.drew 29 (w.heap.size + 3) (keyC a b) from ⟨HK, HB, HP, HR⟩)
  have HLow : ∀ (x y : World), (BlkV x 24 w.heap.size (keyC a b) ∧ BlkF x (w.heap.size + 1) f ∧ BlkV x 36 (w.heap.size + 2) (pairC p q) ∧ BlkV x 29 (w.heap.size + 3) (keyC a b)) → Low x y →
      (BlkV y 24 w.heap.size (keyC a b) ∧ BlkF y (w.heap.size + 1) f ∧ BlkV y 36 (w.heap.size + 2) (pairC p q) ∧ BlkV y 29 (w.heap.size + 3) (keyC a b)) := fun _ _ h l =>
    ⟨h.1.below l h.1.lt, BlkV.below h.2.1 l h.2.1.lt, h.2.2.1.below l h.2.2.1.lt, h.2.2.2.below l h.2.2.2.lt⟩
  have HLW := Lib.hid HLow
  replace hL3 : Hid (Low w w5.drew) := Lib.hid (Below.drew hL3.out)
  clear HLow HK HB HP HR
  generalize w5.drew = w6 at *
  iterate 4 (refine walkS_read (v := _) rfl (by rfl) (by intro y hy; first | exact exec_load_v rfl hy.1 _ Try.underlying24 rfl key_size | exact exec_load_v rfl hy.2.2.2 _ Try.underlying29 rfl rkey_size | exact exec_load_fw rfl hy.2.1 HF.out.s HF.out.d) ?_; simp only [Act.put, List.setIfInBounds_toArray, List.set_cons_zero, List.set_cons_succ])
  refine walkS_act rfl (by rfl) (fun K hK => ?_)
  go_simp
  refine (kflow_any a b f w6 HF.out).mono ?_
  rintro e w7 ⟨rfl, hl⟩
  replace HS := Lib.hid (HLW.out _ _ HS.out hl)
  go_simp
  refine hK _ _ HS.out ?_
  clear hK K
  replace hL3 := Lib.hid (hL3.out.trans hl)
  clear hl
  refine walkS_act rfl (by rfl) (fun K hK => ?_)
  go_simp
  refine (rkflow_any a b f w7 HF.out).mono ?_
  rintro e w8 ⟨rfl, hl⟩
  replace HS := Lib.hid (HLW.out _ _ HS.out hl)
  generalize sumK a b (bytesF f) = u at *
  go_simp
  refine hK _ _ HS.out ?_
  clear hK K
  replace hL3 := Lib.hid (hL3.out.trans hl)
  clear hl
  iterate 12 (refine walkS_read (v := _) rfl (by rfl) (by intro y hy; first | exact exec_load_v rfl hy.1 _ Try.underlying24 rfl key_size | exact exec_load_v rfl hy.2.2.2 _ Try.underlying29 rfl rkey_size | (have hc := HPQ.out _ _ _ hy.2.2.1; have hc0 := hc.1; have hc1 := hc.2; clear hc; go_simp; try rfl)) ?_; simp only [Act.put, List.setIfInBounds_toArray, List.set_cons_zero, List.set_cons_succ])
  refine walkS_act rfl (by rfl) (fun K hK => ?_)
  go_simp
  refine (kpair_any a b p q w8).mono ?_
  rintro e w9 ⟨rfl, hl⟩
  replace HS := Lib.hid (HLW.out _ _ HS.out hl)
  go_simp
  refine hK _ _ HS.out ?_
  clear hK K
  replace hL3 := Lib.hid (hL3.out.trans hl)
  clear hl
  refine walkS_act rfl (by rfl) (fun K hK => ?_)
  go_simp
  refine (rkpair_any a b p q w9).mono ?_
  rintro e w10 ⟨rfl, hl⟩
  replace HS := Lib.hid (HLW.out _ _ HS.out hl)
  generalize sumK a b (four (p % 4294967296) ++ four (q % 4294967296)) = z at *
  go_simp
  refine hK _ _ HS.out ?_
  clear hK K
  replace hL3 := Lib.hid (hL3.out.trans hl)
  clear hl
  iterate 3 (refine walkS_read (v := _) rfl (by rfl) (by intro y hy; go_simp; try rfl) ?_; simp only [Act.put, List.setIfInBounds_toArray, List.set_cons_zero, List.set_cons_succ])
  refine walkS_act rfl (by rfl) (fun K hK => ?_)
  go_simp
  refine (kdlives_any w10).mono ?_
  rintro e w11 ⟨rfl, hl⟩
  replace HS := Lib.hid (HLW.out _ _ HS.out hl)
  go_simp
  refine hK _ _ HS.out ?_
  clear hK K
  replace hL3 := Lib.hid (hL3.out.trans hl)
  clear hl
  iterate 2 (refine walkS_read (v := _) rfl (by rfl) (by intro y hy; go_simp; try rfl) ?_; simp only [Act.put, List.setIfInBounds_toArray, List.set_cons_zero, List.set_cons_succ])
  unfold walkS
  go_wp2_with fail
  go_ret
  exact ⟨rfl, hL3.out⟩
end Go.Proofs.Ytcfppidobenbfaa
