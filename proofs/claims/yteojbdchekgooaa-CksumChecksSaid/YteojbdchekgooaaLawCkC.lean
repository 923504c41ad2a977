/- The law CksumChecks answers true for every input. Condition: the slice is at most 2^47 - 4096 bytes long. -/
import Derived.Test.YteojbdchekgooaaCkG
import Derived.Test.YteojbdchekgooaaCkF
import Derived.Test.YteojbdchekgooaaReg2
namespace Go.Proofs.Yteojbdchekgooaa
open Go.RowKit
set_option linter.unusedVariables false

theorem exec_half1 {f : Operand → Value} {dd : Option Tmp} {x : Operand} {ty : TypeId} {pos : String} {gd : Option (Nat × Bool)} {w : World} {t : TypeId} {g : Nat} {s d : List Int} (hx : f x = .pointer (some ⟨g, 0, none⟩)) (h : Blk w t g (s ++ d)) (hs : s.length = 16) :
    (execOp f ⟨dd, .load 31 x, ty, pos, #[], gd⟩).run Try.prog w = .ok (.value (.agg (cellsB s).toArray)) w := by
  unfold execOp
  simp only [hx, Instr.loadAt, Instr.sureAddr, Sem.run_bind, Sem.run_pure, Result.andThen_ok, run_loadVar_mid w g 0 31 (cellsB s) _ h.half1 Try.underlying31 rfl (by rw [addr_size]; simp [cellsB_length, hs])]
theorem exec_half2 {f : Operand → Value} {dd : Option Tmp} {x : Operand} {ty : TypeId} {pos : String} {gd : Option (Nat × Bool)} {w : World} {t : TypeId} {g : Nat} {s d : List Int} (hx : f x = .pointer (some ⟨g, 16, none⟩)) (h : Blk w t g (s ++ d)) (hs : s.length = 16) (hd : d.length = 16) :
    (execOp f ⟨dd, .load 31 x, ty, pos, #[], gd⟩).run Try.prog w = .ok (.value (.agg (cellsB d).toArray)) w := by
  unfold execOp
  simp only [hx, Instr.loadAt, Instr.sureAddr, Sem.run_bind, Sem.run_pure, Result.andThen_ok, run_loadVar_mid w g 16 31 (cellsB d) _ (h.half2 hs) Try.underlying31 rfl (by rw [addr_size]; simp [cellsB_length, hd])]

set_option maxHeartbeats 2000000 in
set_option maxRecDepth 100000 in
theorem ckc_walk (s d : List Int) (x0 x1 : Int) (A : Option Addr) (n c : Nat) (xs : List Int) (w : World) (hs : s.length = 16) (hd : d.length = 16) (vs : AllB s) (vd : AllB d) (h0 : i64ok x0) (h1 : i64ok x1) (hn : n ≤ 140737488351232) (hb : Bs w w.heap.size A n xs) :
    Calls Try.prog 4 #[endsV s d, .agg #[.int .i64 x0, .int .i64 x1], .slice A n c] w fun e w' => e = .returned (.bool true) ∧ Below w.heap.size w w' := by
  unfold endsV
  have HS := Lib.hid hs
  have HD := Lib.hid hd
  clear hs hd
  go_enter Try.func4, Try.ntmps4
  go_wp2_with fail
  have hL : Low w ((w.alloc (.cells (cellsB (s ++ d)).toArray 33)).alloc (.cells #[.int .i64 x0, .int .i64 x1] 34)) := (Low.alloc w _).trans (Low.alloc _ _)
  have HB := Lib.hid ((Blk.new w 33 (s ++ d)).alloc (.cells #[.int .i64 x0, .int .i64 x1] 34))
  have hrow := heap_alloc_new (w.alloc (.cells (cellsB (s ++ d)).toArray 33)) (.cells #[.int .i64 x0, .int .i64 x1] 34 (0, 0))
  rw [show (w.alloc (.cells (cellsB (s ++ d)).toArray 33)).heap.size = w.heap.size + 1 by simp] at hrow
  have c0 := cell_of_row _ _ 0 _ _ _ hrow
  have c1 := cell_of_row _ _ 1 _ _ _ hrow
  replace c0 : _ = some (Value.int .i64 x0) := c0
  replace c1 : _ = some (Value.int .i64 x1) := c1
  have hgs : w.heap.size + 1 < ((w.alloc (.cells (cellsB (s ++ d)).toArray 33)).alloc (.cells #[.int .i64 x0, .int .i64 x1] 34)).heap.size := by simp
  replace hb := hb.below' hL hL.size
  clear hrow
  generalize (w.alloc (.cells (cellsB (s ++ d)).toArray 33)).alloc (.cells #[.int .i64 x0, .int .i64 x1] 34) = w0 at *
  generalize hG : w.heap.size = G at HB c0 c1 hgs ⊢
  refine wp_region_plan (.rd 0 (.rd 1 (.rd 2 (.rd 3 (.rd 4 (.rd 5 (.rd 6 (.rd 7 (.rd 9 (.rd 10 (.rd 11 (.rd 12 (.rd 13 (.rd 14 (.rd 15 (.rd 16 (.act 8 (.act 17 (.rd 18 (.rd 19 (.rd 20 (.rd 21 (.rd 22 (.rd 23 (.rd 24 (.rd 25 (.rd 26 (.rd 28 (.rd 29 (.rd 30 (.rd 31 (.rd 32 (.rd 33 (.rd 34 (.act 27 (.act 35 (.rd 36 (.rd 37 (.rd 38 (.rd 39 (.rd 40 (.rd 41 (.rd 42 (.rd 43 (.rd 44 (.rd 45 (.rd 47 (.rd 48 (.rd 49 (.rd 50 (.rd 51 (.rd 52 (.rd 53 (.act 46 (.act 54 (.rd 55 (.rd 56 (.rd 57 (.act 58 (.rd 59 (.rd 60 (.done))))))))))))))))))))))))))))))))))))))))))))))))))))))))))))))
    (by kernel_rfl) (by kernel_rfl) (fun _ _ d _ _ h => by cases d <;> exact h) (by kernel_rfl) ?_
  have hDR : Low w0 w0.drew := Below.drew (Below.refl _ _)
  replace hL := hL.trans hDR
  replace hb : Bs w0.drew w0.drew.heap.size A n xs := hb.drew
  replace HB : Hid (Blk w0.drew 33 G (s ++ d)) := HB
  replace c0 : w0.drew.cell? ⟨G + 1, 0, none⟩ = some (.int .i64 x0) := c0
  replace c1 : w0.drew.cell? ⟨G + 1, 1, none⟩ = some (.int .i64 x1) := c1
  replace hgs : G + 1 < w0.drew.heap.size := hgs
  clear hDR hG
  generalize w0.drew = w1 at *
  iterate 16 (refine walkP_read (v := _) rfl (by rfl) (by intro y hy; have e0 := (hy.cell (p := ⟨G + 1, 0, none⟩) hgs).trans c0; have e1 := (hy.cell (p := ⟨G + 1, 1, none⟩) hgs).trans c1; first | exact exec_half1 rfl (HB.out.below hy HB.out.lt) HS.out | exact exec_half2 rfl (HB.out.below hy HB.out.lt) HS.out HD.out | (go_simp; try rfl)) ?_; simp only [Act.put, List.setIfInBounds_toArray, List.set_cons_zero, List.set_cons_succ])
  refine walkP_act rfl (by rfl) (fun K hK => ?_)
  go_simp
  refine (pseudo_any s d x0 x1 w1 HS.out HD.out vs vd h0 h1).mono ?_
  rintro e w2 ⟨rfl, hl⟩
  go_simp
  refine hK _ _ hl ?_
  clear hK K
  replace hl : Low w1 w2 := hl
  rw [← hl.cell (p := ⟨G + 1, 0, none⟩) hgs] at c0
  rw [← hl.cell (p := ⟨G + 1, 1, none⟩) hgs] at c1
  replace HB := Lib.hid (HB.out.below hl HB.out.lt)
  replace hgs := Nat.lt_of_lt_of_le hgs hl.size
  replace hb := hb.below' hl hl.size
  replace hL := hL.trans hl
  clear hl
  refine walkP_act rfl (by rfl) (fun K hK => ?_)
  go_simp
  refine (rpseudo_any s d x0 x1 w2 HS.out HD.out vs vd h0 h1).mono ?_
  rintro e w3 ⟨rfl, hl⟩
  go_simp
  refine hK _ _ hl ?_
  clear hK K
  replace hl : Low w2 w3 := hl
  rw [← hl.cell (p := ⟨G + 1, 0, none⟩) hgs] at c0
  rw [← hl.cell (p := ⟨G + 1, 1, none⟩) hgs] at c1
  replace HB := Lib.hid (HB.out.below hl HB.out.lt)
  replace hgs := Nat.lt_of_lt_of_le hgs hl.size
  replace hb := hb.below' hl hl.size
  replace hL := hL.trans hl
  clear hl
  generalize sumL (pseudoL s d x0 x1) = z0 at *
  iterate 16 (refine walkP_read (v := _) rfl (by rfl) (by intro y hy; have e0 := (hy.cell (p := ⟨G + 1, 0, none⟩) hgs).trans c0; have e1 := (hy.cell (p := ⟨G + 1, 1, none⟩) hgs).trans c1; first | exact exec_half1 rfl (HB.out.below hy HB.out.lt) HS.out | exact exec_half2 rfl (HB.out.below hy HB.out.lt) HS.out HD.out | (go_simp; try rfl)) ?_; simp only [Act.put, List.setIfInBounds_toArray, List.set_cons_zero, List.set_cons_succ])
  refine walkP_act rfl (by rfl) (fun K hK => ?_)
  go_simp
  refine (check_any s d x1 A n c xs w3 HS.out HD.out vs vd h1 (by omega) hb).mono ?_
  rintro e w4 ⟨rfl, hl⟩
  go_simp
  refine hK _ _ hl ?_
  clear hK K
  replace hl : Low w3 w4 := hl
  rw [← hl.cell (p := ⟨G + 1, 0, none⟩) hgs] at c0
  rw [← hl.cell (p := ⟨G + 1, 1, none⟩) hgs] at c1
  replace HB := Lib.hid (HB.out.below hl HB.out.lt)
  replace hgs := Nat.lt_of_lt_of_le hgs hl.size
  replace hb := hb.below' hl hl.size
  replace hL := hL.trans hl
  clear hl
  refine walkP_act rfl (by rfl) (fun K hK => ?_)
  go_simp
  refine (rcheck_any s d x1 A n c xs w4 HS.out HD.out vs vd h1 hn hb).mono ?_
  rintro e w5 ⟨rfl, hl⟩
  go_simp
  refine hK _ _ hl ?_
  clear hK K
  replace hl : Low w4 w5 := hl
  rw [← hl.cell (p := ⟨G + 1, 0, none⟩) hgs] at c0
  rw [← hl.cell (p := ⟨G + 1, 1, none⟩) hgs] at c1
  replace HB := Lib.hid (HB.out.below hl HB.out.lt)
  replace hgs := Nat.lt_of_lt_of_le hgs hl.size
  replace hb := hb.below' hl hl.size
  replace hL := hL.trans hl
  clear hl
  generalize nt (chk s d x1 xs) = z1 at *
  iterate 17 (refine walkP_read (v := _) rfl (by rfl) (by intro y hy; have e0 := (hy.cell (p := ⟨G + 1, 0, none⟩) hgs).trans c0; have e1 := (hy.cell (p := ⟨G + 1, 1, none⟩) hgs).trans c1; first | exact exec_half1 rfl (HB.out.below hy HB.out.lt) HS.out | exact exec_half2 rfl (HB.out.below hy HB.out.lt) HS.out HD.out | (go_simp; try rfl)) ?_; simp only [Act.put, List.setIfInBounds_toArray, List.set_cons_zero, List.set_cons_succ])
  refine walkP_act rfl (by rfl) (fun K hK => ?_)
  go_simp
  refine (fine_any s d x1 A n c xs w5 HS.out HD.out vs vd h1 (by omega) hb).mono ?_
  rintro e w6 ⟨rfl, hl⟩
  go_simp
  refine hK _ _ hl ?_
  clear hK K
  replace hl : Low w5 w6 := hl
  rw [← hl.cell (p := ⟨G + 1, 0, none⟩) hgs] at c0
  rw [← hl.cell (p := ⟨G + 1, 1, none⟩) hgs] at c1
  replace HB := Lib.hid (HB.out.below hl HB.out.lt)
  replace hgs := Nat.lt_of_lt_of_le hgs hl.size
  replace hb := hb.below' hl hl.size
  replace hL := hL.trans hl
  clear hl
  refine walkP_act rfl (by rfl) (fun K hK => ?_)
  go_simp
  refine (rfine_any s d x1 A n c xs w6 HS.out HD.out vs vd h1 hn hb).mono ?_
  rintro e w7 ⟨rfl, hl⟩
  go_simp
  refine hK _ _ hl ?_
  clear hK K
  replace hl : Low w6 w7 := hl
  rw [← hl.cell (p := ⟨G + 1, 0, none⟩) hgs] at c0
  rw [← hl.cell (p := ⟨G + 1, 1, none⟩) hgs] at c1
  replace HB := Lib.hid (HB.out.below hl HB.out.lt)
  replace hgs := Nat.lt_of_lt_of_le hgs hl.size
  replace hb := hb.below' hl hl.size
  replace hL := hL.trans hl
  clear hl
  generalize fineB s d x1 xs = z2 at *
  iterate 3 (refine walkP_read (v := _) rfl (by rfl) (by intro y hy; go_simp; try rfl) ?_; simp only [Act.put, List.setIfInBounds_toArray, List.set_cons_zero, List.set_cons_succ])
  refine walkP_act rfl (by rfl) (fun K hK => ?_)
  go_simp
  refine (cklives_any w7).mono ?_
  rintro e w8 ⟨rfl, hl⟩
  go_simp
  refine hK _ _ hl ?_
  clear hK K
  replace hl : Low w7 w8 := hl
  rw [← hl.cell (p := ⟨G + 1, 0, none⟩) hgs] at c0
  rw [← hl.cell (p := ⟨G + 1, 1, none⟩) hgs] at c1
  replace HB := Lib.hid (HB.out.below hl HB.out.lt)
  replace hgs := Nat.lt_of_lt_of_le hgs hl.size
  replace hb := hb.below' hl hl.size
  replace hL := hL.trans hl
  clear hl
  iterate 2 (refine walkP_read (v := _) rfl (by rfl) (by intro y hy; go_simp; try rfl) ?_; simp only [Act.put, List.setIfInBounds_toArray, List.set_cons_zero, List.set_cons_succ])
  unfold walkP
  go_wp2
  go_ret
  exact ⟨rfl, hL⟩
end Go.Proofs.Yteojbdchekgooaa
