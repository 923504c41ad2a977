/- The walk of harrierlaw14.FlowTells: it answers true. Conditions: addresses are 16 bytes, ports are ints; the library's tables hold what their texts lay. -/
import Derived.Test.YtjafjapnmffohaaDoorJFl
set_option maxRecDepth 100000
namespace Go.Proofs.YtjafjapnmffohaaDoor
open Go.RowKit
set_option linter.unusedVariables false

theorem right_five (f : Fw) : (f.sp < 0 ∧ rightF f = false) ∨ (0 ≤ f.sp ∧ 65535 < f.sp ∧ rightF f = false) ∨ (0 ≤ f.sp ∧ f.sp ≤ 65535 ∧ f.dp < 0 ∧ rightF f = false) ∨ (0 ≤ f.sp ∧ f.sp ≤ 65535 ∧ 0 ≤ f.dp ∧ 65535 < f.dp ∧ rightF f = false) ∨ (0 ≤ f.sp ∧ f.sp ≤ 65535 ∧ 0 ≤ f.dp ∧ f.dp ≤ 65535 ∧ rightF f = true) := by
  unfold rightF
  simp only [decide_eq_true_eq, decide_eq_false_iff_not]
  omega

theorem run_eqGuard_fw (op : BinOp) (x y : Operand) (a b : Array Value) (w : World) : (eqGuard op 25 x y (.agg a) (.agg b)).run Tryd.prog w = .ok () w := by
  have hg : Tryd.prog.eqGuardType Tryd.prog.depth 25 = false := by kernel_rfl
  unfold eqGuard
  cases op <;> simp [Sem.run_bind, run_program, hg]
theorem exec_eq_fw {f : Operand → Value} {dd : Option Tmp} {x y : Operand} {tr ty : TypeId} {pos : String} {gd : Option (Nat × Bool)} {w : World} {a b : Fw} (hx : f x = .agg (fwC a).toArray) (hy : f y = .agg (fwC b).toArray) (ha : a.s.length = 16) (ha2 : a.d.length = 16) (hb : b.s.length = 16) (hb2 : b.d.length = 16) :
    (execOp f ⟨dd, .binOp .eql 25 x y tr, ty, pos, #[], gd⟩).run Tryd.prog w = .ok (.value (.bool (eqFw a b))) w := by
  have he := eq_flow a b ha ha2 hb hb2 w
  unfold execOp
  simp only [hx, hy, Sem.run_bind, run_eqGuard_fw, Result.andThen_ok, binOp, Op.equal, Op.maxDepth, he, Sem.run_pure]
theorem exec_ne_fw {f : Operand → Value} {dd : Option Tmp} {x y : Operand} {tr ty : TypeId} {pos : String} {gd : Option (Nat × Bool)} {w : World} {a b : Fw} (hx : f x = .agg (fwC a).toArray) (hy : f y = .agg (fwC b).toArray) (ha : a.s.length = 16) (ha2 : a.d.length = 16) (hb : b.s.length = 16) (hb2 : b.d.length = 16) :
    (execOp f ⟨dd, .binOp .neq 25 x y tr, ty, pos, #[], gd⟩).run Tryd.prog w = .ok (.value (.bool (!eqFw a b))) w := by
  have he := eq_flow a b ha ha2 hb hb2 w
  unfold execOp
  simp only [hx, hy, Sem.run_bind, run_eqGuard_fw, Result.andThen_ok, binOp, Op.equal, Op.maxDepth, he, Sem.run_pure]
theorem exec_eq_self {f : Operand → Value} {dd : Option Tmp} {x y : Operand} {tr ty : TypeId} {pos : String} {gd : Option (Nat × Bool)} {w : World} {a : Fw} (hx : f x = .agg (fwC a).toArray) (hy : f y = .agg (fwC a).toArray) (ha : a.s.length = 16) (ha2 : a.d.length = 16) :
    (execOp f ⟨dd, .binOp .eql 25 x y tr, ty, pos, #[], gd⟩).run Tryd.prog w = .ok (.value (.bool true)) w := by
  rw [exec_eq_fw hx hy ha ha2 ha ha2, eqFw_refl]

set_option maxRecDepth 100000 in
set_option maxHeartbeats 25600000 in
theorem flt_walk (f : Fw) (w : World) (hf : f.ok) (hp : Pow10 w) (ht : LibT w) :
    Calls Tryd.prog 3 #[fwV f] w fun e w' => e = .returned (.bool true) ∧ Below w.heap.size w w' := by
  have HO := Lib.hid hf
  have HP := Lib.hid hp
  have HT := Lib.hid ht
  have HC1 := Lib.hid (fun w => fbytes_any f w hf)
  have HC2 := Lib.hid (fun w => rfbytes_any f w hf)
  have HC3 := Lib.hid (fun w hp ht => ftext_any f w hf hp ht)
  have HC4 := Lib.hid (fun w => rftext_any f w hf)
  have HC5 := Lib.hid (fun w => fback_any f w hf)
  have HC6 := Lib.hid (fun w => rfback_any f w hf)
  have HC7 := Lib.hid (fun w => fback_any (backF f) w (backF_ok hf))
  have HC8 := Lib.hid (fun w => right_any f w hf)
  have HBO := Lib.hid (backF_ok hf)
  have HBB : Hid (backF (backF f) = f) := Lib.hid rfl
  have HBL := Lib.hid (bytesF_len hf)
  have h5 := right_five f
  clear hf hp ht
  unfold fwV at *
  go_enter Tryd.func3, Tryd.ntmps3
  go_wp2_with ((with_reducible refine wpList_box_fw rfl (.tmp 0) rfl f rfl ?_); intro w1 HB hL hz1; refine Hid.out ?_)
  refine Lib.hid ?_
  replace HB := Lib.hid HB
  have c16 := BlkF.sp HB.out HO.out.s
  have c33 := BlkF.dp HB.out HO.out.s HO.out.d
  clear hz1
  generalize hG : w.heap.size = G at *
  obtain ⟨b, hb⟩ : ∃ b, b = backF f := ⟨_, rfl⟩
  rw [← hb] at HC5 HC6 HC7 HBO HBB
  rw [HBB.out] at HC7
  clear hb
  obtain ⟨xs, hxs⟩ : ∃ xs, xs = bytesF f := ⟨_, rfl⟩
  rw [← hxs] at HC1 HC2 HBL
  clear hxs
  rcases h5 with ⟨h1, HR⟩ | ⟨h1, h2, HR⟩ | ⟨h1, h2, h3, HR⟩ | ⟨h1, h2, h3, h4, HR⟩ | ⟨h1, h2, h3, h4, HR⟩
  all_goals
    rw [HR] at HC8
    clear HR
    go_wp2_with fail
    try rw [show decide (f.dp ≤ 65535) = true from decide_eq_true (by omega)]
    try rw [show decide (f.dp ≤ 65535) = false from decide_eq_false (by omega)]
    refine wp_region_plan (.rd 0 (.rd 3 (.act 1 (.rd 2 (.act 4 (.rd 5 (.rd 6 (.rd 7 (.rd 8 (.rd 10 (.act 9 (.act 11 (.rd 12 (.rd 13 (.rd 14 (.rd 15 (.rd 17 (.act 16 (.act 18 (.rd 19 (.rd 20 (.rd 21 (.rd 22 (.rd 25 (.act 23 (.act 24 (.rd 26 (.rd 27 (.rd 28 (.rd 29 (.rd 31 (.act 30 (.rd 32 (.rd 33 (.rd 34 (.act 35 (.rd 36 (.rd 37 (.done)))))))))))))))))))))))))))))))))))))))
      (by kernel_rfl) (by kernel_rfl) (fun _ _ d _ _ h => by cases d <;> exact h) (by kernel_rfl) ?_
    clear c16 c33
    replace hL : Low w w1.drew := hL.trans (Below.drew (Below.refl _ _))
    replace HB : Hid (BlkF w1.drew G f) := HB
    generalize w1.drew = w5 at *
    iterate 2 (refine walkP_read (v := _) rfl (by rfl) (by intro y hy; exact exec_load_fw rfl (HB.out.below hy HB.out.lt) HO.out.s HO.out.d) ?_; simp only [Act.put, List.setIfInBounds_toArray, List.set_cons_zero, List.set_cons_succ])
    refine walkP_act rfl (by rfl) (fun K hK => ?_)
    go_simp
    refine (HC1.out w5).mono ?_
    rintro e w6 ⟨v, rfl, g3, rfl, hg3, hk3, hl3, ha3, hl⟩
    replace hl : Low _ _ := hl
    have hb3 := hk3.bs (n := 36) ha3 hk3.lt hl3
    clear hk3 ha3 hl3 hg3
    go_simp
    refine hK _ _ hl ?_
    clear hK K
    replace hL := hL.trans hl
    replace HB := Lib.hid (HB.out.below hl HB.out.lt)
    clear hl
    iterate 1 (refine walkP_read (v := _) rfl (by rfl) (by
        intro y hy
        have e0 := conv_bs (c := 36) (hb3.below hy)
        first
        | exact exec_load_fw rfl (HB.out.below hy HB.out.lt) HO.out.s HO.out.d
        | (go_simp; try rfl)) ?_; simp only [Act.put, List.setIfInBounds_toArray, List.set_cons_zero, List.set_cons_succ])
    clear hb3
    refine walkP_act rfl (by rfl) (fun K hK => ?_)
    go_simp
    refine (HC2.out w6).mono ?_
    rintro e w7 ⟨A, c, rfl, ho, hl⟩
    replace hl : Low _ _ := hl
    have hb4 := Lib.hid (ho.bs (Nat.le_refl _))
    clear ho
    rw [HBL.out] at hb4 ⊢
    go_simp
    refine hK _ _ hl ?_
    clear hK K
    replace hL := hL.trans hl
    replace HB := Lib.hid (HB.out.below hl HB.out.lt)
    clear hl
    have hbe := hb4.out
    iterate 5 (refine walkP_read (v := _) rfl (by rfl) (by
        intro y hy
        have e0 := conv_bs (c := c) (hbe.below hy)
        first
        | exact exec_load_fw rfl (HB.out.below hy HB.out.lt) HO.out.s HO.out.d
        | (go_simp; try rfl)) ?_; simp only [Act.put, List.setIfInBounds_toArray, List.set_cons_zero, List.set_cons_succ])
    clear hbe hb4
    refine walkP_act rfl (by rfl) (fun K hK => ?_)
    go_simp
    refine (HC3.out w7 (HP.out.low (by subst hG; exact hL)) (HT.out.low (by subst hG; exact hL))).mono ?_
    rintro e w8 ⟨rfl, hl⟩
    replace hl : Low _ _ := hl
    generalize strD (textF f) = tx at *
    go_simp
    refine hK _ _ hl ?_
    clear hK K
    replace hL := hL.trans hl
    replace HB := Lib.hid (HB.out.below hl HB.out.lt)
    clear hl HC3
    refine walkP_act rfl (by rfl) (fun K hK => ?_)
    go_simp
    refine (HC4.out w8).mono ?_
    rintro e w9 ⟨rfl, hl⟩
    replace hl : Low _ _ := hl
    go_simp
    refine hK _ _ hl ?_
    clear hK K
    replace hL := hL.trans hl
    replace HB := Lib.hid (HB.out.below hl HB.out.lt)
    clear hl HC4
    iterate 5 (refine walkP_read (v := _) rfl (by rfl) (by
        intro y hy
        first
        | exact exec_load_fw rfl (HB.out.below hy HB.out.lt) HO.out.s HO.out.d
        | (go_simp; try rfl)) ?_; simp only [Act.put, List.setIfInBounds_toArray, List.set_cons_zero, List.set_cons_succ])
    refine walkP_act rfl (by rfl) (fun K hK => ?_)
    go_simp
    refine (HC5.out w9).mono ?_
    rintro e w10 ⟨rfl, hl⟩
    replace hl : Low _ _ := hl
    go_simp
    refine hK _ _ hl ?_
    clear hK K
    replace hL := hL.trans hl
    replace HB := Lib.hid (HB.out.below hl HB.out.lt)
    clear hl
    refine walkP_act rfl (by rfl) (fun K hK => ?_)
    go_simp
    refine (HC6.out w10).mono ?_
    rintro e w11 ⟨rfl, hl⟩
    replace hl : Low _ _ := hl
    go_simp
    refine hK _ _ hl ?_
    clear hK K
    replace hL := hL.trans hl
    replace HB := Lib.hid (HB.out.below hl HB.out.lt)
    clear hl HC6
    iterate 5 (refine walkP_read (v := _) rfl (by rfl) (by
        intro y hy
        first
        | exact exec_eq_self (a := b) rfl rfl HBO.out.s HBO.out.d
        | exact exec_load_fw rfl (HB.out.below hy HB.out.lt) HO.out.s HO.out.d
        | (go_simp; try rfl)) ?_; simp only [Act.put, List.setIfInBounds_toArray, List.set_cons_zero, List.set_cons_succ])
    refine walkP_act rfl (by rfl) (fun K hK => ?_)
    go_simp
    refine (HC5.out w11).mono ?_
    rintro e w12 ⟨rfl, hl⟩
    replace hl : Low _ _ := hl
    go_simp
    refine hK _ _ hl ?_
    clear hK K
    replace hL := hL.trans hl
    replace HB := Lib.hid (HB.out.below hl HB.out.lt)
    clear hl HC5
    refine walkP_act rfl (by rfl) (fun K hK => ?_)
    go_simp
    refine (HC7.out w12).mono ?_
    rintro e w13 ⟨rfl, hl⟩
    replace hl : Low _ _ := hl
    go_simp
    refine hK _ _ hl ?_
    clear hK K
    replace hL := hL.trans hl
    replace HB := Lib.hid (HB.out.below hl HB.out.lt)
    clear hl HC7
    iterate 5 (refine walkP_read (v := _) rfl (by rfl) (by
        intro y hy
        first
        | exact exec_eq_self (a := f) rfl rfl HO.out.s HO.out.d
        | exact exec_load_fw rfl (HB.out.below hy HB.out.lt) HO.out.s HO.out.d
        | (go_simp; try rfl)) ?_; simp only [Act.put, List.setIfInBounds_toArray, List.set_cons_zero, List.set_cons_succ])
    refine walkP_act rfl (by rfl) (fun K hK => ?_)
    go_simp
    refine (HC8.out w13).mono ?_
    rintro e w14 ⟨rfl, hl⟩
    replace hl : Low _ _ := hl
    go_simp
    refine hK _ _ hl ?_
    clear hK K
    replace hL := hL.trans hl
    replace HB := Lib.hid (HB.out.below hl HB.out.lt)
    clear hl HC8
    iterate 3 (refine walkP_read (v := _) rfl (by rfl) (by
        intro y hy
        first
        | exact exec_load_fw rfl (HB.out.below hy HB.out.lt) HO.out.s HO.out.d
        | (go_simp; try rfl)) ?_; simp only [Act.put, List.setIfInBounds_toArray, List.set_cons_zero, List.set_cons_succ])
    refine walkP_act rfl (by rfl) (fun K hK => ?_)
    go_simp
    refine (fllives_any w14 (HP.out.low (by subst hG; exact hL)) (HT.out.low (by subst hG; exact hL))).mono ?_
    rintro e w15 ⟨rfl, hl⟩
    replace hl : Low _ _ := hl
    go_simp
    refine hK _ _ hl ?_
    clear hK K
    replace hL := hL.trans hl
    replace HB := Lib.hid (HB.out.below hl HB.out.lt)
    clear hl
    iterate 2 (refine walkP_read (v := _) rfl (by rfl) (by
        intro y hy
        first
        | exact exec_load_fw rfl (HB.out.below hy HB.out.lt) HO.out.s HO.out.d
        | (go_simp; try rfl)) ?_; simp only [Act.put, List.setIfInBounds_toArray, List.set_cons_zero, List.set_cons_succ])
    unfold walkP
    clear HB
    go_wp2_with fail
    go_ret
    subst hG
    exact ⟨rfl, hL⟩
end Go.Proofs.YtjafjapnmffohaaDoor
