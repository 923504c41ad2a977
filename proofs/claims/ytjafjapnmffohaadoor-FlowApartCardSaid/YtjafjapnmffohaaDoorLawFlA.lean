/- The walk of harrierlaw14.FlowApart: it answers true. Conditions: addresses are 16 bytes, ports are ints; the library's tables hold what their texts lay. -/
import Derived.Test.YtjafjapnmffohaaDoorLawFlT
import Derived.Lib.Bytes
set_option maxRecDepth 100000
namespace Go.Proofs.YtjafjapnmffohaaDoor
open Go.RowKit
set_option linter.unusedVariables false

theorem ofNat_injF {a b : Int} (ha : 0 ≤ a ∧ a < 256) (hb : 0 ≤ b ∧ b < 256) (h : UInt8.ofNat a.toNat = UInt8.ofNat b.toNat) : a = b := by
  have h2 := congrArg UInt8.toNat h
  simp only [UInt8.toNat_ofNat'] at h2
  omega
theorem str_injF : ∀ {xs ys : List Int}, AllB xs → AllB ys → (strOfNums xs).toList = (strOfNums ys).toList → xs = ys := fun {xs ys} hx hy h => by
  rw [Lib.strOfNums_toList, Lib.strOfNums_toList] at h
  unfold Lib.bytesOf at h
  induction xs generalizing ys with
  | nil => cases ys with
    | nil => rfl
    | cons y ys => simp at h
  | cons x xs ih => cases ys with
    | nil => simp at h
    | cons y ys =>
      simp only [List.map_cons, List.cons.injEq] at h
      rw [ofNat_injF (hx x (by simp)) (hy y (by simp)) h.1, ih (fun z hz => hx z (by simp [hz])) (fun z hz => hy z (by simp [hz])) h.2]
theorem str_beqF {xs ys : List Int} (hx : AllB xs) (hy : AllB ys) : ((strOfNums xs).toList == (strOfNums ys).toList) = decide (xs = ys) := by
  by_cases h : xs = ys
  · subst h; simp
  · have : ¬ (strOfNums xs).toList = (strOfNums ys).toList := fun e => h (str_injF hx hy e)
    simp [h, this]
/-- the bytes as strings, and the flows, are the same or not together; one of two others comes ahead -/
theorem apart_cases {a b : Fw} (ha : a.ok) (hb : b.ok) (ra : rightF a = true) (rb : rightF b = true) :
    (eqFw a b = true ∧ ((strOfNums (bytesF a)).toList == (strOfNums (bytesF b)).toList) = true ∧ lessF a b = false ∧ lessF b a = false) ∨
    (eqFw a b = false ∧ ((strOfNums (bytesF a)).toList == (strOfNums (bytesF b)).toList) = false ∧ ((lessF a b = true ∧ lessF b a = false) ∨ (lessF a b = false ∧ lessF b a = true))) := by
  by_cases h : a = b
  · subst h
    exact .inl ⟨eqFw_refl a, by simp, lessF_irr a, lessF_irr a⟩
  · refine .inr ⟨?_, ?_, lessF_tri ha hb h⟩
    · cases he : eqFw a b
      · rfl
      · exact absurd ((eqFw_iff a b).1 he) h
    · rw [str_beqF (bytesF_all ha) (bytesF_all hb)]
      exact decide_eq_false fun e => h (bytesF_one ha hb ra rb e)

set_option maxRecDepth 100000 in
set_option maxHeartbeats 25600000 in
theorem fla_walk (a b : Fw) (w : World) (ha : a.ok) (hb : b.ok) (hp : Pow10 w) (ht : LibT w) :
    Calls Tryd.prog 5 #[fwV a, fwV b] w fun e w' => e = .returned (.bool true) ∧ Below w.heap.size w w' := by
  have HA := Lib.hid ha
  have HB := Lib.hid hb
  have HP := Lib.hid hp
  have HT := Lib.hid ht
  have HC1 := Lib.hid (fun w => right_any a w ha)
  have HC2 := Lib.hid (fun w => right_any b w hb)
  have HC3 := Lib.hid (fun w => fbytes_any a w ha)
  have HC4 := Lib.hid (fun w => fbytes_any b w hb)
  have HC5 := Lib.hid (fun w => fless_ext a b w ha hb)
  have HC6 := Lib.hid (fun w => fless_ext b a w hb ha)
  have HPC := Lib.hid (apart_cases ha hb)
  clear ha hb hp ht
  unfold fwV at *
  go_enter Tryd.func5, Tryd.ntmps5
  go_wp2_with (first
    | ((with_reducible refine wpList_box_fw rfl (.tmp 0) rfl a rfl ?_); intro w1 HBA hL hz1)
    | ((with_reducible refine wpList_box_fw rfl (.tmp 1) rfl b rfl ?_); intro w2 HBB hl hz2; refine Hid.out ?_))
  refine Lib.hid ?_
  rw [hz1] at HBB
  replace HBA := Lib.hid (HBA.below hl HBA.lt)
  replace HBB := Lib.hid HBB
  replace hL := hL.trans hl
  clear hz2 hl
  generalize hG : w.heap.size = G at *
  clear hz1
  go_wp2_with (with_reducible refine wpList_load_fw rfl (.tmp 2) rfl G rfl a HBA.out HA.out.s HA.out.d ?_)
  refine (HC1.out w2).mono ?_
  rintro e w3 ⟨rfl, hl⟩
  replace hl : Low w2 w3 := hl
  replace HBA := Lib.hid (HBA.out.below hl HBA.out.lt)
  replace HBB := Lib.hid (HBB.out.below hl HBB.out.lt)
  replace hL := hL.trans hl
  clear hl HC1
  cases hra : rightF a
  · clear hra HPC HC2 HC3 HC4 HC5 HC6
    go_wp2_with fail
    refine (fllives_any w3 (HP.out.low (by subst hG; exact hL)) (HT.out.low (by subst hG; exact hL))).mono ?_
    rintro e w4 ⟨rfl, hl⟩
    replace hL := hL.trans hl
    clear hl
    go_wp2_with fail
    go_ret
    subst hG
    exact ⟨rfl, hL⟩
  go_wp2_with (with_reducible refine wpList_load_fw_g rfl (.tmp 3) rfl (G + 1) rfl b HBB.out HB.out.s HB.out.d ?_)
  refine (HC2.out w3).mono ?_
  rintro e w4 ⟨rfl, hl⟩
  replace hl : Low w3 w4 := hl
  replace HBA := Lib.hid (HBA.out.below hl HBA.out.lt)
  replace HBB := Lib.hid (HBB.out.below hl HBB.out.lt)
  replace hL := hL.trans hl
  clear hl HC2
  cases hrb : rightF b
  · clear hra hrb HPC HC3 HC4 HC5 HC6
    go_wp2_with fail
    refine (fllives_any w4 (HP.out.low (by subst hG; exact hL)) (HT.out.low (by subst hG; exact hL))).mono ?_
    rintro e w5 ⟨rfl, hl⟩
    replace hL := hL.trans hl
    clear hl
    go_wp2_with fail
    go_ret
    subst hG
    exact ⟨rfl, hL⟩
  have h3 := HPC.out hra hrb
  clear hra hrb HPC
  go_wp2_with fail
  refine wp_region_plan (.rd 0 (.rd 3 (.rd 7 (.rd 8 (.rd 9 (.act 1 (.rd 2 (.act 4 (.rd 5 (.rd 6 (.rd 10 (.rd 11 (.rd 12 (.rd 13 (.rd 15 (.rd 16 (.rd 19 (.rd 20 (.rd 21 (.act 14 (.act 17 (.rd 18 (.rd 22 (.rd 23 (.rd 24 (.act 25 (.rd 26 (.rd 27 (.done)))))))))))))))))))))))))))))
    (by kernel_rfl) (by kernel_rfl) (fun _ _ d _ _ h => by cases d <;> exact h) (by kernel_rfl) ?_
  replace hL : Low w w4.drew := hL.trans (Below.drew (Below.refl _ _))
  replace HBA : Hid (BlkF w4.drew G a) := HBA
  replace HBB : Hid (BlkF w4.drew (G + 1) b) := HBB
  generalize w4.drew = w5 at *
  clear w4
  rcases h3 with ⟨q1, q2, q3, q4⟩ | ⟨q1, q2, ⟨q3, q4⟩ | ⟨q3, q4⟩⟩
  all_goals
    rw [q3] at HC5
    rw [q4] at HC6
    iterate 5 (refine walkP_read (v := _) rfl (by rfl) (by
        intro y hy
        first
        | exact exec_load_fw rfl (HBA.out.below hy HBA.out.lt) HA.out.s HA.out.d
        | exact exec_load_fw rfl (HBB.out.below hy HBB.out.lt) HB.out.s HB.out.d
        | exact exec_eq_fw (a := a) (b := b) rfl rfl HA.out.s HA.out.d HB.out.s HB.out.d
        | exact exec_ne_fw (a := a) (b := b) rfl rfl HA.out.s HA.out.d HB.out.s HB.out.d
        | (go_simp; try rfl)) ?_; simp only [Act.put, List.setIfInBounds_toArray, List.set_cons_zero, List.set_cons_succ]; try rw [q1])
    refine walkP_act rfl (by rfl) (fun K hK => ?_)
    go_simp
    refine (HC3.out w5).mono ?_
    rintro e w6 ⟨v, rfl, g3, rfl, hg3, hk3, hl3, ha3, hl⟩
    replace hl : Low _ _ := hl
    have hb3 := hk3.bs (n := 36) ha3 hk3.lt hl3
    clear hk3 ha3 hl3 hg3
    go_simp
    refine hK _ _ hl ?_
    clear hK K
    replace hL := hL.trans hl
    replace HBA := Lib.hid (HBA.out.below hl HBA.out.lt)
    replace HBB := Lib.hid (HBB.out.below hl HBB.out.lt)
    clear hl
    iterate 1 (refine walkP_read (v := _) rfl (by rfl) (by
        intro y hy
        have e0 := conv_bs (c := 36) (hb3.below hy)
        first
        | exact exec_load_fw rfl (HBA.out.below hy HBA.out.lt) HA.out.s HA.out.d
        | exact exec_load_fw rfl (HBB.out.below hy HBB.out.lt) HB.out.s HB.out.d
        | exact exec_eq_fw (a := a) (b := b) rfl rfl HA.out.s HA.out.d HB.out.s HB.out.d
        | exact exec_ne_fw (a := a) (b := b) rfl rfl HA.out.s HA.out.d HB.out.s HB.out.d
        | (go_simp; try rfl)) ?_; simp only [Act.put, List.setIfInBounds_toArray, List.set_cons_zero, List.set_cons_succ]; try rw [q1])
    clear hb3
    refine walkP_act rfl (by rfl) (fun K hK => ?_)
    go_simp
    refine (HC4.out w6).mono ?_
    rintro e w7 ⟨v, rfl, g4, rfl, hg3, hk3, hl3, ha3, hl⟩
    replace hl : Low _ _ := hl
    have hb3 := hk3.bs (n := 36) ha3 hk3.lt hl3
    clear hk3 ha3 hl3 hg3
    go_simp
    refine hK _ _ hl ?_
    clear hK K
    replace hL := hL.trans hl
    replace HBA := Lib.hid (HBA.out.below hl HBA.out.lt)
    replace HBB := Lib.hid (HBB.out.below hl HBB.out.lt)
    clear hl
    iterate 1 (refine walkP_read (v := _) rfl (by rfl) (by
        intro y hy
        have e0 := conv_bs (c := 36) (hb3.below hy)
        first
        | exact exec_load_fw rfl (HBA.out.below hy HBA.out.lt) HA.out.s HA.out.d
        | exact exec_load_fw rfl (HBB.out.below hy HBB.out.lt) HB.out.s HB.out.d
        | exact exec_eq_fw (a := a) (b := b) rfl rfl HA.out.s HA.out.d HB.out.s HB.out.d
        | exact exec_ne_fw (a := a) (b := b) rfl rfl HA.out.s HA.out.d HB.out.s HB.out.d
        | (go_simp; try rfl)) ?_; simp only [Act.put, List.setIfInBounds_toArray, List.set_cons_zero, List.set_cons_succ]; try rw [q1])
    clear hb3
    iterate 10 (refine walkP_read (v := _) rfl (by rfl) (by
        intro y hy
        have e0 := q2
        first
        | exact exec_load_fw rfl (HBA.out.below hy HBA.out.lt) HA.out.s HA.out.d
        | exact exec_load_fw rfl (HBB.out.below hy HBB.out.lt) HB.out.s HB.out.d
        | exact exec_eq_fw (a := a) (b := b) rfl rfl HA.out.s HA.out.d HB.out.s HB.out.d
        | exact exec_ne_fw (a := a) (b := b) rfl rfl HA.out.s HA.out.d HB.out.s HB.out.d
        | (go_simp; try rfl)) ?_; simp only [Act.put, List.setIfInBounds_toArray, List.set_cons_zero, List.set_cons_succ]; try rw [q1])
    refine walkP_act rfl (by rfl) (fun K hK => ?_)
    go_simp
    refine (HC5.out w7).mono ?_
    rintro e w8 ⟨rfl, hl⟩
    replace hl : Low _ _ := hl.low
    go_simp
    refine hK _ _ hl ?_
    clear hK K
    replace hL := hL.trans hl
    replace HBA := Lib.hid (HBA.out.below hl HBA.out.lt)
    replace HBB := Lib.hid (HBB.out.below hl HBB.out.lt)
    clear hl
    refine walkP_act rfl (by rfl) (fun K hK => ?_)
    go_simp
    refine (HC6.out w8).mono ?_
    rintro e w9 ⟨rfl, hl⟩
    replace hl : Low _ _ := hl.low
    go_simp
    refine hK _ _ hl ?_
    clear hK K
    replace hL := hL.trans hl
    replace HBA := Lib.hid (HBA.out.below hl HBA.out.lt)
    replace HBB := Lib.hid (HBB.out.below hl HBB.out.lt)
    clear hl
    iterate 4 (refine walkP_read (v := _) rfl (by rfl) (by
        intro y hy
        first
        | exact exec_load_fw rfl (HBA.out.below hy HBA.out.lt) HA.out.s HA.out.d
        | exact exec_load_fw rfl (HBB.out.below hy HBB.out.lt) HB.out.s HB.out.d
        | exact exec_eq_fw (a := a) (b := b) rfl rfl HA.out.s HA.out.d HB.out.s HB.out.d
        | exact exec_ne_fw (a := a) (b := b) rfl rfl HA.out.s HA.out.d HB.out.s HB.out.d
        | (go_simp; try rfl)) ?_; simp only [Act.put, List.setIfInBounds_toArray, List.set_cons_zero, List.set_cons_succ]; try rw [q1])
    refine walkP_act rfl (by rfl) (fun K hK => ?_)
    go_simp
    refine (fllives_any w9 (HP.out.low (by subst hG; exact hL)) (HT.out.low (by subst hG; exact hL))).mono ?_
    rintro e w10 ⟨rfl, hl⟩
    replace hl : Low _ _ := hl
    go_simp
    refine hK _ _ hl ?_
    clear hK K
    replace hL := hL.trans hl
    replace HBA := Lib.hid (HBA.out.below hl HBA.out.lt)
    replace HBB := Lib.hid (HBB.out.below hl HBB.out.lt)
    clear hl
    iterate 2 (refine walkP_read (v := _) rfl (by rfl) (by
        intro y hy
        first
        | exact exec_load_fw rfl (HBA.out.below hy HBA.out.lt) HA.out.s HA.out.d
        | exact exec_load_fw rfl (HBB.out.below hy HBB.out.lt) HB.out.s HB.out.d
        | exact exec_eq_fw (a := a) (b := b) rfl rfl HA.out.s HA.out.d HB.out.s HB.out.d
        | exact exec_ne_fw (a := a) (b := b) rfl rfl HA.out.s HA.out.d HB.out.s HB.out.d
        | (go_simp; try rfl)) ?_; simp only [Act.put, List.setIfInBounds_toArray, List.set_cons_zero, List.set_cons_succ]; try rw [q1])
    unfold walkP
    clear HBA HBB
    go_wp2_with fail
    go_ret
    subst hG
    exact ⟨rfl, hL⟩
end Go.Proofs.YtjafjapnmffohaaDoor
