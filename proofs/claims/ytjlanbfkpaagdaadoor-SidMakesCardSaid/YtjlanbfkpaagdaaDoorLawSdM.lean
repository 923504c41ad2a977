/- The walk of harrierlaw12.SidMakes: it answers true. Condition: the library's table of powers of ten holds what its text lays. -/
import Derived.Test.YtjlanbfkpaagdaaDoorSdJ
import Derived.Test.YtjlanbfkpaagdaaDoorSdC
namespace Go.Proofs.YtjlanbfkpaagdaaDoor
open Go.RowKit
set_option linter.unusedVariables false

set_option maxRecDepth 100000 in
set_option maxHeartbeats 12800000 in
theorem sdm_walk (n d : Int) (u : Nat) (w : World) (hn : i64ok n) (hd : i64ok d) (hu : u < 4294967296) (hp : Pow10 w) :
    Calls Tryd.prog 3 #[sidV n d u] w fun e w' => e = .returned (.bool true) ∧ Below w.heap.size w w' := by
  have HP := Lib.hid hp
  have HM := Lib.hid (fun w => sidmake_any n d u w (by omega))
  have HR := Lib.hid (fun w => rsidmake_any n d u w (by omega))
  have HT := Lib.hid (fun w hp => sidtext_any n d u w hn hd hu hp)
  have HU := Lib.hid (fun w => rsidtext_any n d u w hn hd hu)
  have HXL := Lib.hid (makeD_len n d u)
  have HYL := Lib.hid (makeD_len n 0 0)
  unfold sidV at HM HR HT HU
  unfold sidV
  clear hp hn hd hu
  go_enter Tryd.func3, Tryd.ntmps3
  go_wp2_with ((with_reducible refine wpList_box_v rfl 24 (.tmp 0) rfl [.int .i64 n, .int .i64 d, .int .u32 u] rfl ?_); intro w1 HB0 hL hz1; refine Hid.out ?_)
  refine Lib.hid ?_
  have HB : Hid (BlkD w1 w.heap.size ⟨n, d, u⟩) := Lib.hid HB0
  clear HB0 hz1
  go_wp2_with (with_reducible refine wpList_load_sd rfl (.tmp 1) rfl w.heap.size rfl ⟨n, d, u⟩ HB.out ?_)
  refine (HM.out w1).mono ?_
  rintro e w2 ⟨rfl, hl0⟩
  have hl : Low w1 w2 := hl0
  replace HB := Lib.hid (HB.out.below hl HB.out.lt)
  replace hL := hL.trans hl
  clear hl hl0 HM
  generalize makeD n d u = x at *
  generalize errD n d = er at *
  unfold addrV
  go_wp2_with ((with_reducible refine wpList_alloc_v rfl 26 rfl (cellsB zero16) addr_zeroD ?_); intro w3 HY hl hz5; refine Hid.out ?_)
  refine Lib.hid ?_
  replace HY : Hid (Blk w3 26 w2.heap.size zero16) := Lib.hid HY
  have hlb := HB.out.lt
  replace HB := Lib.hid (HB.out.below hl HB.out.lt)
  go_wp2_with ((refine wpList_store_addr rfl (.tmp 3) (.tmp 10) rfl w2.heap.size rfl x rfl _ zero16 HY.out rfl HXL.out ?_); intro w4 HG hb6 hz6; refine Hid.out ?_)
  refine Lib.hid ?_
  replace HG := Lib.hid HG
  replace HB := Lib.hid (HB.out.below hb6 hlb)
  replace hl : Low w2 w4 := Below.trans hl hb6
  replace hL := hL.trans hl
  obtain ⟨G, hG⟩ : ∃ g, g = w2.heap.size := ⟨_, rfl⟩
  rw [← hG] at HG ⊢
  clear HY hz5 hz6 hb6 hl hG hlb
  go_wp2_with (with_reducible refine wpList_load_sd rfl (.tmp 1) rfl w.heap.size rfl ⟨n, d, u⟩ HB.out ?_)
  refine (HR.out w4).mono ?_
  rintro e w5 ⟨rfl, hl0⟩
  have hl : Low w4 w5 := hl0
  replace HB := Lib.hid (HB.out.below hl HB.out.lt)
  replace HG := Lib.hid (HG.out.below hl HG.out.lt)
  replace hL := hL.trans hl
  clear hl hl0 HR
  unfold addrV
  go_wp2_with ((with_reducible refine wpList_alloc_v rfl 26 rfl (cellsB zero16) addr_zeroD ?_); intro w6 HY hl hz5; refine Hid.out ?_)
  refine Lib.hid ?_
  replace HY : Hid (Blk w6 26 w5.heap.size zero16) := Lib.hid HY
  have hlb := HB.out.lt
  have hlg := HG.out.lt
  replace HB := Lib.hid (HB.out.below hl HB.out.lt)
  replace HG := Lib.hid (HG.out.below hl HG.out.lt)
  go_wp2_with ((refine wpList_store_addr rfl (.tmp 5) (.tmp 15) rfl w5.heap.size rfl x rfl _ zero16 HY.out rfl HXL.out ?_); intro w7 HK hb6 hz6; refine Hid.out ?_)
  refine Lib.hid ?_
  replace HK := Lib.hid HK
  replace HB := Lib.hid (HB.out.below hb6 hlb)
  replace HG := Lib.hid (HG.out.below hb6 hlg)
  replace hl : Low w5 w7 := Below.trans hl hb6
  replace hL := hL.trans hl
  obtain ⟨F, hF⟩ : ∃ g, g = w5.heap.size := ⟨_, rfl⟩
  rw [← hF] at HK ⊢
  clear HY hz5 hz6 hb6 hl hF hlb hlg
  go_wp2_with fail
  refine wp_region_plan (.rd 0 (.rd 1 (.rd 2 (.rd 3 (.rd 4 (.rd 5 (.rd 6 (.rd 7 (.rd 8 (.rd 9 (.rd 10 (.rd 12 (.rd 13 (.act 11 (.act 14 (.rd 15 (.rd 16 (.rd 17 (.rd 18 (.rd 20 (.act 19 (.act 21 (.rd 22 (.rd 23 (.rd 24 (.act 25 (.rd 26 (.rd 27 (.done)))))))))))))))))))))))))))))
    (by kernel_rfl) (by kernel_rfl) (fun _ _ d _ _ h => by cases d <;> exact h) (by kernel_rfl) ?_
  have hDR : Low w7 w7.drew := Below.drew (Below.refl _ _)
  replace hL := hL.trans hDR
  replace HB := Lib.hid (HB.out.below hDR HB.out.lt)
  replace HG := Lib.hid (HG.out.below hDR HG.out.lt)
  replace HK := Lib.hid (HK.out.below hDR HK.out.lt)
  replace HP := Lib.hid (HP.out.low hL)
  clear hDR
  generalize w7.drew = w8 at *
  iterate 13 (refine walkP_read (v := _) rfl (by rfl) (by
      intro y hy
      have e0 : y.cell? ⟨w.heap.size, 0, none⟩ = some (.int .i64 n) := BlkV.cell (HB.out.below hy HB.out.lt) 0
      have e1 := eq_addr x x HXL.out HXL.out y
      first
        | exact exec_load_addr rfl (HG.out.below hy HG.out.lt) HXL.out
        | exact exec_load_addr rfl (HK.out.below hy HK.out.lt) HXL.out
        | (go_simp; try rfl)) ?_; simp only [Act.put, List.setIfInBounds_toArray, List.set_cons_zero, List.set_cons_succ])
  clear HG HK
  refine walkP_act rfl (by rfl) (fun K hK => ?_)
  go_simp
  refine (sidnode_any n w8).mono ?_
  rintro e w9 ⟨rfl, hl⟩
  obtain ⟨z, hz⟩ : ∃ z, z = makeD n 0 0 := ⟨_, rfl⟩
  rw [← hz] at HYL ⊢
  replace hz := Lib.hid hz
  unfold addrV
  go_simp
  refine hK _ _ hl ?_
  clear hK K
  replace hL := hL.trans hl
  replace HP := Lib.hid (HP.out.low hl)
  replace HB := Lib.hid (HB.out.below hl HB.out.lt)
  clear hl
  refine walkP_act rfl (by rfl) (fun K hK => ?_)
  go_simp
  refine (rsidnode_any n w9).mono ?_
  rintro e w10 ⟨rfl, hl⟩
  rw [← hz.out]
  unfold addrV
  go_simp
  refine hK _ _ hl ?_
  clear hK K
  replace hL := hL.trans hl
  replace HP := Lib.hid (HP.out.low hl)
  replace HB := Lib.hid (HB.out.below hl HB.out.lt)
  clear hl
  iterate 5 (refine walkP_read (v := _) rfl (by rfl) (by
      intro y hy
      have e1 := eq_addr z z HYL.out HYL.out y
      first
        | exact exec_load_sd rfl (HB.out.below hy HB.out.lt)
        | (go_simp; try rfl)) ?_; simp only [Act.put, List.setIfInBounds_toArray, List.set_cons_zero, List.set_cons_succ])
  clear HB
  refine walkP_act rfl (by rfl) (fun K hK => ?_)
  go_simp
  refine (HT.out w10 HP.out).mono ?_
  rintro e w11 ⟨rfl, hl⟩
  generalize strD (textD n d u) = tx at *
  go_simp
  refine hK _ _ hl ?_
  clear hK K
  replace hL := hL.trans hl
  replace HP := Lib.hid (HP.out.low hl)
  clear hl HT
  refine walkP_act rfl (by rfl) (fun K hK => ?_)
  go_simp
  refine (HU.out w11).mono ?_
  rintro e w12 ⟨rfl, hl⟩
  go_simp
  refine hK _ _ hl ?_
  clear hK K
  replace hL := hL.trans hl
  replace HP := Lib.hid (HP.out.low hl)
  clear hl HU
  iterate 3 (refine walkP_read (v := _) rfl (by rfl) (by intro y hy; go_simp; try rfl) ?_; simp only [Act.put, List.setIfInBounds_toArray, List.set_cons_zero, List.set_cons_succ])
  refine walkP_act rfl (by rfl) (fun K hK => ?_)
  go_simp
  refine (sdlives_any w12 HP.out).mono ?_
  rintro e w13 ⟨rfl, hl⟩
  go_simp
  refine hK _ _ hl ?_
  clear hK K
  replace hL := hL.trans hl
  clear hl HP
  iterate 2 (refine walkP_read (v := _) rfl (by rfl) (by intro y hy; go_simp; try rfl) ?_; simp only [Act.put, List.setIfInBounds_toArray, List.set_cons_zero, List.set_cons_succ])
  unfold walkP
  go_wp2_with fail
  go_ret
  exact ⟨rfl, hL⟩
end Go.Proofs.YtjlanbfkpaagdaaDoor
