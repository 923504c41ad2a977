/- The law CksumSums answers true for every input. Condition: the slice is at most 2^47 - 4096 bytes long. -/
import Derived.Test.YteojbdchekgooaaCkL
import Derived.Test.YteojbdchekgooaaReg2
namespace Go.Proofs.Yteojbdchekgooaa
open Go.RowKit
set_option linter.unusedVariables false

set_option maxHeartbeats 2000000 in
set_option maxRecDepth 100000 in
theorem cks_walk (A : Option Addr) (n c : Nat) (x0 x1 x2 : Int) (xs : List Int) (w : World) (hn : n ≤ 140737488351232) (hb : Bs w w.heap.size A n xs) :
    Calls Try.prog 3 #[.slice A n c, .agg #[.int .i64 x0, .int .i64 x1, .int .i64 x2]] w fun e w' => e = .returned (.bool true) ∧ Below w.heap.size w w' := by
  go_enter Try.func3, Try.ntmps3
  go_wp2_with fail
  have hL := Low.alloc w (.cells #[.int .i64 x0, .int .i64 x1, .int .i64 x2] 23)
  have hrow := heap_alloc_new w (.cells #[.int .i64 x0, .int .i64 x1, .int .i64 x2] 23 (0, 0))
  have c0 := cell_of_row _ _ 0 _ _ _ hrow
  have c1 := cell_of_row _ _ 1 _ _ _ hrow
  have c2 := cell_of_row _ _ 2 _ _ _ hrow
  replace c0 : _ = some (Value.int .i64 x0) := c0
  replace c1 : _ = some (Value.int .i64 x1) := c1
  replace c2 : _ = some (Value.int .i64 x2) := c2
  have hgs : w.heap.size < (w.alloc (.cells #[.int .i64 x0, .int .i64 x1, .int .i64 x2] 23)).heap.size := by simp
  replace hb := hb.below' hL hL.size
  clear hrow
  generalize w.alloc (.cells #[.int .i64 x0, .int .i64 x1, .int .i64 x2] 23) = w0 at *
  generalize hG : w.heap.size = G at c0 c1 c2 hgs ⊢
  refine wp_region_plan (.rd 0 (.rd 2 (.act 1 (.act 3 (.rd 4 (.rd 5 (.rd 6 (.rd 7 (.rd 8 (.rd 9 (.rd 11 (.rd 12 (.rd 13 (.rd 14 (.act 10 (.act 15 (.rd 16 (.rd 17 (.rd 18 (.rd 19 (.rd 20 (.rd 22 (.rd 23 (.act 21 (.act 24 (.rd 25 (.rd 26 (.rd 27 (.rd 28 (.rd 29 (.rd 30 (.rd 31 (.rd 32 (.rd 33 (.rd 35 (.rd 36 (.rd 37 (.rd 38 (.rd 39 (.rd 40 (.act 34 (.act 41 (.rd 42 (.rd 43 (.rd 44 (.act 45 (.rd 46 (.rd 47 .done))))))))))))))))))))))))))))))))))))))))))))))))
    (by kernel_rfl) (by kernel_rfl) (fun _ _ d _ _ h => by cases d <;> exact h) (by kernel_rfl) ?_
  have hDR : Low w0 w0.drew := Below.drew (Below.refl _ _)
  replace hL := hL.trans hDR
  replace hb : Bs w0.drew w0.drew.heap.size A n xs := hb.drew
  replace c0 : w0.drew.cell? ⟨G, 0, none⟩ = some (.int .i64 x0) := c0
  replace c1 : w0.drew.cell? ⟨G, 1, none⟩ = some (.int .i64 x1) := c1
  replace c2 : w0.drew.cell? ⟨G, 2, none⟩ = some (.int .i64 x2) := c2
  replace hgs : G < w0.drew.heap.size := hgs
  clear hDR hG
  generalize w0.drew = w1 at *
  iterate 2 (refine walkP_read (v := _) rfl (by rfl) (by intro y hy; go_simp; try rfl) ?_; simp only [Act.put, List.setIfInBounds_toArray, List.set_cons_zero, List.set_cons_succ])
  refine walkP_act rfl (by rfl) (fun K hK => ?_)
  go_simp
  refine (cksum_any A n c xs w1 (by omega) hb).mono ?_
  rintro e w2 ⟨rfl, hl⟩
  go_simp
  refine hK _ _ hl ?_
  clear hK K
  replace hl : Low w1 w2 := hl
  rw [← hl.cell (p := ⟨G, 0, none⟩) hgs] at c0
  rw [← hl.cell (p := ⟨G, 1, none⟩) hgs] at c1
  rw [← hl.cell (p := ⟨G, 2, none⟩) hgs] at c2
  replace hgs := Nat.lt_of_lt_of_le hgs hl.size
  replace hb := hb.below' hl hl.size
  replace hL := hL.trans hl
  clear hl
  refine walkP_act rfl (by rfl) (fun K hK => ?_)
  go_simp
  refine (rsum_any A n c xs w2 hn hb).mono ?_
  rintro e w3 ⟨rfl, hl⟩
  go_simp
  refine hK _ _ hl ?_
  clear hK K
  replace hl : Low w2 w3 := hl
  rw [← hl.cell (p := ⟨G, 0, none⟩) hgs] at c0
  rw [← hl.cell (p := ⟨G, 1, none⟩) hgs] at c1
  rw [← hl.cell (p := ⟨G, 2, none⟩) hgs] at c2
  replace hgs := Nat.lt_of_lt_of_le hgs hl.size
  replace hb := hb.below' hl hl.size
  replace hL := hL.trans hl
  clear hl
  generalize sumL xs = z0 at *
  iterate 10 (refine walkP_read (v := _) rfl (by rfl) (by intro y hy; have e0 := (hy.cell (p := ⟨G, 0, none⟩) hgs).trans c0; have e1 := (hy.cell (p := ⟨G, 1, none⟩) hgs).trans c1; have e2 := (hy.cell (p := ⟨G, 2, none⟩) hgs).trans c2; go_simp; try rfl) ?_; simp only [Act.put, List.setIfInBounds_toArray, List.set_cons_zero, List.set_cons_succ])
  refine walkP_act rfl (by rfl) (fun K hK => ?_)
  go_simp
  refine (ckjoin_any x0 x1 w3).mono ?_
  rintro e w4 ⟨rfl, rfl⟩
  go_simp
  refine hK _ _ (Low.refl _) ?_
  clear hK K
  refine walkP_act rfl (by rfl) (fun K hK => ?_)
  go_simp
  refine (rjoin_any x0 x1 w3).mono ?_
  rintro e w4 ⟨rfl, rfl⟩
  go_simp
  refine hK _ _ (Low.refl _) ?_
  clear hK K
  generalize jn x0 x1 = z1 at *
  iterate 7 (refine walkP_read (v := _) rfl (by rfl) (by intro y hy; have e0 := (hy.cell (p := ⟨G, 0, none⟩) hgs).trans c0; have e1 := (hy.cell (p := ⟨G, 1, none⟩) hgs).trans c1; have e2 := (hy.cell (p := ⟨G, 2, none⟩) hgs).trans c2; go_simp; try rfl) ?_; simp only [Act.put, List.setIfInBounds_toArray, List.set_cons_zero, List.set_cons_succ])
  refine walkP_act rfl (by rfl) (fun K hK => ?_)
  go_simp
  refine (cknot_any x0 w3).mono ?_
  rintro e w4 ⟨rfl, rfl⟩
  go_simp
  refine hK _ _ (Low.refl _) ?_
  clear hK K
  refine walkP_act rfl (by rfl) (fun K hK => ?_)
  go_simp
  refine (rnot_any x0 w3).mono ?_
  rintro e w4 ⟨rfl, rfl⟩
  go_simp
  refine hK _ _ (Low.refl _) ?_
  clear hK K
  generalize nt x0 = z2 at *
  iterate 15 (refine walkP_read (v := _) rfl (by rfl) (by intro y hy; have e0 := (hy.cell (p := ⟨G, 0, none⟩) hgs).trans c0; have e1 := (hy.cell (p := ⟨G, 1, none⟩) hgs).trans c1; have e2 := (hy.cell (p := ⟨G, 2, none⟩) hgs).trans c2; go_simp; try rfl) ?_; simp only [Act.put, List.setIfInBounds_toArray, List.set_cons_zero, List.set_cons_succ])
  refine walkP_act rfl (by rfl) (fun K hK => ?_)
  go_simp
  refine (upd_any x0 x1 x2 w3).mono ?_
  rintro e w4 ⟨rfl, rfl⟩
  go_simp
  refine hK _ _ (Low.refl _) ?_
  clear hK K
  refine walkP_act rfl (by rfl) (fun K hK => ?_)
  go_simp
  refine (rupd_any x0 x1 x2 w3).mono ?_
  rintro e w4 ⟨rfl, rfl⟩
  go_simp
  refine hK _ _ (Low.refl _) ?_
  clear hK K
  generalize upd x0 x1 x2 = z3 at *
  iterate 3 (refine walkP_read (v := _) rfl (by rfl) (by intro y hy; have e0 := (hy.cell (p := ⟨G, 0, none⟩) hgs).trans c0; have e1 := (hy.cell (p := ⟨G, 1, none⟩) hgs).trans c1; have e2 := (hy.cell (p := ⟨G, 2, none⟩) hgs).trans c2; go_simp; try rfl) ?_; simp only [Act.put, List.setIfInBounds_toArray, List.set_cons_zero, List.set_cons_succ])
  refine walkP_act rfl (by rfl) (fun K hK => ?_)
  go_simp
  refine (cklives_any w3).mono ?_
  rintro e w4 ⟨rfl, hl⟩
  go_simp
  refine hK _ _ hl ?_
  clear hK K
  replace hl : Low w3 w4 := hl
  rw [← hl.cell (p := ⟨G, 0, none⟩) hgs] at c0
  rw [← hl.cell (p := ⟨G, 1, none⟩) hgs] at c1
  rw [← hl.cell (p := ⟨G, 2, none⟩) hgs] at c2
  replace hgs := Nat.lt_of_lt_of_le hgs hl.size
  replace hb := hb.below' hl hl.size
  replace hL := hL.trans hl
  clear hl
  iterate 2 (refine walkP_read (v := _) rfl (by rfl) (by intro y hy; go_simp; try rfl) ?_; simp only [Act.put, List.setIfInBounds_toArray, List.set_cons_zero, List.set_cons_succ])
  unfold walkP
  go_wp2
  go_ret
  exact ⟨rfl, hL⟩
end Go.Proofs.Yteojbdchekgooaa
