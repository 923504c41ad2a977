/- The walk of harrierlaw12.SidSplits: it answers true. Conditions: the address is 16 bytes; the library's table of powers of ten holds what its text lays. -/
import Derived.Test.YtjlanbfkpaagdaaDoorSdJ
namespace Go.Proofs.YtjlanbfkpaagdaaDoor
open Go.RowKit
set_option linter.unusedVariables false

/-- a segment is compared with itself -/
theorem exec_same_sd {f : Operand → Value} {dd : Option Tmp} {x y : Operand} {ty : TypeId} {pos : String} {gd : Option (Nat × Bool)} (z : Sd) (hx : f x = .agg (sdC z).toArray) (hy : f y = .agg (sdC z).toArray) (w : World) :
    (execOp f ⟨dd, .binOp .eql 24 x y 24, ty, pos, #[], gd⟩).run Tryd.prog w = .ok (.value (.bool true)) w := by
  obtain ⟨a, b, c⟩ := z
  have heq := eq_sd ⟨a, b, c⟩ ⟨a, b, c⟩ w
  rw [eqD_refl] at heq
  replace hx : f x = .agg #[.int .i64 a, .int .i64 b, .int .u32 c] := hx
  replace hy : f y = .agg #[.int .i64 a, .int .i64 b, .int .u32 c] := hy
  go_simp

set_option maxRecDepth 100000 in
set_option maxHeartbeats 12800000 in
theorem sds_walk (s : List Int) (n d : Int) (w : World) (hs : s.length = 16) (vs : AllB s) (hp : Pow10 w) :
    Calls Tryd.prog 4 #[addrV s, .int .i64 n, .int .i64 d] w fun e w' => e = .returned (.bool true) ∧ Below w.heap.size w w' := by
  have HP := Lib.hid hp
  have HM := Lib.hid (fun w => split_any s w hs vs)
  have HR := Lib.hid (fun w => rsplit_any s w hs vs)
  have HT := Lib.hid (fun w => is_anyD s n d w hs vs)
  have HU := Lib.hid (fun w => ris_anyD s n d w hs vs)
  have HS := Lib.hid hs
  unfold addrV at HM HR HT HU
  unfold addrV
  clear hp hs vs
  go_enter Tryd.func4, Tryd.ntmps4
  go_wp2_with ((with_reducible refine wpList_box_ad rfl (.tmp 0) rfl rfl ?_); intro w1 HB0 hL hz1; refine Hid.out ?_)
  refine Lib.hid ?_
  have HB := Lib.hid HB0
  clear HB0 hz1
  go_wp2_with (with_reducible refine wpList_load_addr rfl (.tmp 3) rfl w.heap.size rfl 26 s HB.out HS.out ?_)
  refine (HM.out w1).mono ?_
  rintro e w2 ⟨rfl, hl0⟩
  have hl : Low w1 w2 := hl0
  replace HB := Lib.hid (HB.out.below hl HB.out.lt)
  replace hL := hL.trans hl
  clear hl hl0 HM
  generalize splitD s = x at *
  generalize isD s = b at *
  go_wp2_with ((with_reducible refine wpList_alloc_sd rfl rfl ?_); intro w3 HY hl hz5; refine Hid.out ?_)
  refine Lib.hid ?_
  replace HY := Lib.hid HY
  have hlb := HB.out.lt
  replace HB := Lib.hid (HB.out.below hl HB.out.lt)
  go_wp2_with ((with_reducible refine wpList_store_sd rfl (.tmp 7) (.tmp 14) rfl w2.heap.size rfl x rfl _ HY.out ?_); intro w4 HG hb6 hz6; refine Hid.out ?_)
  refine Lib.hid ?_
  replace HG := Lib.hid HG
  replace HB := Lib.hid (HB.out.below hb6 hlb)
  replace hl : Low w2 w4 := Below.trans hl hb6
  replace hL := hL.trans hl
  obtain ⟨G, hG⟩ : ∃ g, g = w2.heap.size := ⟨_, rfl⟩
  rw [← hG] at HG ⊢
  clear HY hz5 hz6 hb6 hl hG hlb
  go_wp2_with (with_reducible refine wpList_load_addr rfl (.tmp 3) rfl w.heap.size rfl 26 s HB.out HS.out ?_)
  refine (HR.out w4).mono ?_
  rintro e w5 ⟨rfl, hl0⟩
  have hl : Low w4 w5 := hl0
  replace HB := Lib.hid (HB.out.below hl HB.out.lt)
  replace HG := Lib.hid (HG.out.below hl HG.out.lt)
  replace hL := hL.trans hl
  clear hl hl0 HR
  go_wp2_with ((with_reducible refine wpList_alloc_sd rfl rfl ?_); intro w6 HY hl hz5; refine Hid.out ?_)
  refine Lib.hid ?_
  replace HY := Lib.hid HY
  have hlb := HB.out.lt
  have hlg := HG.out.lt
  replace HB := Lib.hid (HB.out.below hl HB.out.lt)
  replace HG := Lib.hid (HG.out.below hl HG.out.lt)
  go_wp2_with ((with_reducible refine wpList_store_sd rfl (.tmp 9) (.tmp 19) rfl w5.heap.size rfl x rfl _ HY.out ?_); intro w7 HK hb6 hz6; refine Hid.out ?_)
  refine Lib.hid ?_
  replace HK := Lib.hid HK
  replace HB := Lib.hid (HB.out.below hb6 hlb)
  replace HG := Lib.hid (HG.out.below hb6 hlg)
  replace hl : Low w5 w7 := Below.trans hl hb6
  replace hL := hL.trans hl
  obtain ⟨F, hF⟩ : ∃ g, g = w5.heap.size := ⟨_, rfl⟩
  rw [← hF] at HK ⊢
  clear HY hz5 hz6 hb6 hl hF hlb hlg
  go_wp2_with fail
  refine wp_region_plan (.rd 0 (.rd 1 (.rd 2 (.rd 3 (.rd 4 (.rd 5 (.rd 6 (.rd 7 (.rd 8 (.rd 9 (.rd 10 (.rd 11 (.rd 13 (.rd 14 (.rd 15 (.act 12 (.act 16 (.rd 17 (.rd 18 (.rd 19 (.act 20 (.rd 21 (.rd 22 (.done))))))))))))))))))))))))
    (by kernel_rfl) (by kernel_rfl) (fun _ _ d _ _ h => by cases d <;> exact h) (by kernel_rfl) ?_
  have hDR : Low w7 w7.drew := Below.drew (Below.refl _ _)
  replace hL := hL.trans hDR
  replace HB := Lib.hid (HB.out.below hDR HB.out.lt)
  replace HG := Lib.hid (HG.out.below hDR HG.out.lt)
  replace HK := Lib.hid (HK.out.below hDR HK.out.lt)
  replace HP := Lib.hid (HP.out.low hL)
  clear hDR
  generalize w7.drew = w8 at *
  iterate 15 (refine walkP_read (v := _) rfl (by rfl) (by
      intro y hy
      first
        | exact exec_load_sd rfl (HG.out.below hy HG.out.lt)
        | exact exec_load_sd rfl (HK.out.below hy HK.out.lt)
        | exact exec_same_sd x rfl rfl y
        | exact exec_load_addr rfl (HB.out.below hy HB.out.lt) HS.out
        | (go_simp; try rfl)) ?_; simp only [Act.put, List.setIfInBounds_toArray, List.set_cons_zero, List.set_cons_succ])
  clear HG HK HB
  refine walkP_act rfl (by rfl) (fun K hK => ?_)
  go_simp
  refine (HT.out w8).mono ?_
  rintro e w9 ⟨rfl, hl⟩
  generalize isB s n d = q at *
  go_simp
  refine hK _ _ hl ?_
  clear hK K
  replace hL := hL.trans hl
  replace HP := Lib.hid (HP.out.low hl)
  clear hl HT
  refine walkP_act rfl (by rfl) (fun K hK => ?_)
  go_simp
  refine (HU.out w9).mono ?_
  rintro e w10 ⟨rfl, hl⟩
  go_simp
  refine hK _ _ hl ?_
  clear hK K
  replace hL := hL.trans hl
  replace HP := Lib.hid (HP.out.low hl)
  clear hl HU
  iterate 3 (refine walkP_read (v := _) rfl (by rfl) (by intro y hy; go_simp; try rfl) ?_; simp only [Act.put, List.setIfInBounds_toArray, List.set_cons_zero, List.set_cons_succ])
  refine walkP_act rfl (by rfl) (fun K hK => ?_)
  go_simp
  refine (sdlives_any w10 HP.out).mono ?_
  rintro e w13 ⟨rfl, hl⟩
  go_simp
  refine hK _ _ hl ?_
  clear hK K
  replace hL := hL.trans hl
  clear hl HP
  iterate 2 (refine walkP_read (v := _) rfl (by rfl) (by intro y hy; go_simp; try rfl) ?_; simp only [Act.put, List.setIfInBounds_toArray, List.set_cons_zero, List.set_cons_succ])
  unfold walkP
  go_wp2_with fail
  go_ret
  exact ⟨rfl, hL⟩
end Go.Proofs.YtjlanbfkpaagdaaDoor
