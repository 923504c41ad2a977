/- The walk of harrierlaw09.TlvPuts: it answers true. Condition: at most 2^47 parts. -/
import Derived.Test.YtendfhonnodonaaTlE
import Derived.Test.YtendfhonnodonaaTlI
namespace Go.Proofs.Ytendfhonnodonaa
open Go.RowKit
set_option linter.unusedVariables false

set_option maxRecDepth 100000 in
set_option maxHeartbeats 3200000 in
theorem tlp_walk (A : Option Addr) (n c : Nat) (os : List Od) (x : Int) (w : World) (hn : n ≤ 140737488355328) (ho : Os w w.heap.size A n os) (hx : i64ok x) :
    Calls Try.prog 3 #[.slice A n c, .int .i64 x] w fun e w' => e = .returned (.bool true) ∧ Below w.heap.size w w' := by
  have HO := Lib.hid ho
  have HX := Lib.hid hx
  clear ho hx
  by_cases h200 : 200 < n
  · go_enter Try.func3, Try.ntmps3
    go_wp2_with fail
    refine (tllives_any _).mono ?_
    rintro e w1 ⟨rfl, hB1⟩
    go_wp2_with fail
    go_ret
    exact ⟨rfl, hB1⟩
  · go_enter Try.func3, Try.ntmps3
    go_wp2_with fail
    refine (tlput_any A n c os w hn HO.out).mono ?_
    rintro e w1 ⟨A1, c1, rfl, hb1, -, hB1⟩
    have HO1 := Lib.hid (HO.out.below' hB1 hB1.size)
    have HB1 := Lib.hid hb1
    clear hb1
    go_wp2_with fail
    refine (rtlput_any A n c os w1 hn HO1.out).mono ?_
    rintro e w2 ⟨A2, c2, rfl, hb2, -, hB2⟩
    have HO2 := Lib.hid (HO1.out.below' hB2 hB2.size)
    have hb1 := HB1.out.below' hB2 hB2.size
    have hL := Low.trans hB1 hB2
    have HCA := Lib.hid (fun u h => tlcan_any A n c os u hn h)
    generalize canT (os.map Od.v) = y at *
    generalize putT (os.map Od.v) = ys at *
    clear hB1 hB2
    go_wp2_with fail
    refine wp_region_plan (.rd 0 (.rd 2 (.act 1 (.rd 3 (.rd 4 (.rd 5 (.rd 6 (.rd 7 (.rd 8 (.rd 9 (.rd 10 (.rd 11 (.rd 12 (.rd 13 (.rd 14 (.rd 15 (.rd 16 (.rd 17 (.rd 20 (.act 18 (.rd 19 (.act 21 (.rd 22 (.rd 23 (.rd 24 (.rd 25 (.act 26 (.rd 27 (.rd 28 (.done)))))))))))))))))))))))))))))) (by kernel_rfl) (by kernel_rfl) (fun _ _ d _ _ h => by cases d <;> exact h) (by kernel_rfl) ?_
    replace hL := Below.drew hL
    replace HO2 : Hid (Os w2.drew w2.drew.heap.size A n os) := Lib.hid (HO2.out.keep fun _ _ => rfl)
    replace hb1 : Bs w2.drew w2.drew.heap.size A1 ys.length ys := hb1.drew
    replace hb2 : Bs w2.drew w2.drew.heap.size A2 ys.length ys := hb2.drew
    generalize w2.drew = u at *
    iterate 2 (refine walkP_read (v := _) rfl (by rfl) (by intro y hy; go_simp; try rfl) ?_; simp only [Act.put, List.setIfInBounds_toArray, List.set_cons_zero, List.set_cons_succ])
    refine walkP_act rfl (by rfl) (fun K hK => ?_)
    go_simp
    refine (HCA.out u HO2.out).mono ?_
    rintro e u1 ⟨rfl, hl⟩
    go_simp
    refine hK _ _ hl ?_
    clear hK K
    replace hL := Low.trans hL hl
    replace hb1 := hb1.below' hl hl.size
    replace hb2 := hb2.below' hl hl.size
    clear hl
    iterate 16 (refine walkP_read (v := _) rfl (by rfl) (by
      intro y hy
      have v1 := conv_bs (c := c1) (hb1.below hy)
      have v2 := conv_bs (c := c2) (hb2.below hy)
      go_simp; try rfl) ?_; simp only [Act.put, List.setIfInBounds_toArray, List.set_cons_zero, List.set_cons_succ])
    clear hb1 hb2
    refine walkP_act rfl (by rfl) (fun K hK => ?_)
    go_simp
    refine (tlpad_any x u1 HX.out).mono ?_
    rintro e u2 ⟨A3, c3, rfl, hown3, hl⟩
    go_simp
    refine hK _ _ hl ?_
    clear hK K
    replace hL := Low.trans hL hl
    have hb3 := hown3.bs (Nat.le_refl _)
    clear hl hown3
    have HRP := Lib.hid (fun u => rtlpad_any x u HX.out)
    generalize padT x = zs at *
    iterate 1 (refine walkP_read (v := _) rfl (by rfl) (by
      intro y hy
      have v1 := conv_bs (c := c3) (hb3.below hy)
      go_simp; try rfl) ?_; simp only [Act.put, List.setIfInBounds_toArray, List.set_cons_zero, List.set_cons_succ])
    refine walkP_act rfl (by rfl) (fun K hK => ?_)
    go_simp
    refine (HRP.out u2).mono ?_
    rintro e u3 ⟨A4, c4, rfl, hown4, hl⟩
    go_simp
    refine hK _ _ hl ?_
    clear hK K
    replace hL := Low.trans hL hl
    have hb4 := hown4.bs (Nat.le_refl _)
    clear hl hown4
    iterate 4 (refine walkP_read (v := _) rfl (by rfl) (by
      intro y hy
      have v1 := conv_bs (c := c4) (hb4.below hy)
      go_simp; try rfl) ?_; simp only [Act.put, List.setIfInBounds_toArray, List.set_cons_zero, List.set_cons_succ])
    clear hb3 hb4
    refine walkP_act rfl (by rfl) (fun K hK => ?_)
    go_simp
    refine (tllives_any _).mono ?_
    rintro e u4 ⟨rfl, hl⟩
    go_simp
    refine hK _ _ hl ?_
    clear hK K
    replace hL := Low.trans hL hl
    clear hl
    iterate 2 (refine walkP_read (v := _) rfl (by rfl) (by intro y hy; go_simp; try rfl) ?_; simp only [Act.put, List.setIfInBounds_toArray, List.set_cons_zero, List.set_cons_succ])
    unfold walkP
    go_wp2_with fail
    go_ret
    exact ⟨rfl, hL⟩
end Go.Proofs.Ytendfhonnodonaa
