/- What flow.Text, and the document's own Text of flows, tell. Conditions: addresses are 16 bytes, ports are ints; the library's tables hold what their texts lay. -/
import Derived.Test.YtjafjapnmffohaaDoorFlF
import Derived.Test.YtjafjapnmffohaaDoorJAe
import Derived.Test.YtjafjapnmffohaaDoorJAf
import Derived.Test.YtjafjapnmffohaaDoorJSd
import Derived.Deep.MidRow
set_option maxRecDepth 100000
namespace Go.Proofs.YtjafjapnmffohaaDoor
open Go.RowKit
set_option linter.unusedVariables false

theorem exec_load_atF {f : Operand → Value} {dd : Option Tmp} {x : Operand} {ty : TypeId} {pos : String} {gd : Option (Nat × Bool)} {w : World} {b p : Nat} {s : List Int} (hx : f x = .pointer (some ⟨b, p, none⟩)) (hs : s.length = 16) (hc : w.rangeAt b p (cellsB s)) :
    (execOp f ⟨dd, .load 23 x, ty, pos, #[], gd⟩).run Tryd.prog w = .ok (.value (.agg (cellsB s).toArray)) w := by
  unfold execOp
  simp only [hx, Instr.loadAt, Instr.sureAddr, Sem.run_bind, Sem.run_pure, Result.andThen_ok, run_loadVar_mid w b p 23 (cellsB s) _ hc Tryd.underlying23 rfl (by rw [addr_size]; simp [cellsB_length, hs])]
theorem textL_size {s : List Int} : (strD (textL s)).size ≤ 56 := by
  rw [strD_size, text_same]
  unfold rtextL
  exact rtx_length _ _ _ 8
theorem itoa_size {n : Int} (h : i64ok n) : (strD (Lib.itoa n)).size ≤ 21 := by
  unfold i64ok at h
  rw [strD_size]
  exact Lib.itoa_length_le n h.1 h.2
/-- one end of a flow as text -/
def endT (s : List Int) (p : Int) : List UInt8 := [91] ++ textL s ++ [93, 58] ++ Lib.itoa p
/-- a flow as text -/
def textF (f : Fw) : List UInt8 := endT f.s f.sp ++ [32, 62, 32] ++ endT f.d f.dp
theorem endT_size {s : List Int} {p : Int} (h : i64ok p) : (strD (endT s p)).size ≤ 80 := by
  have h1 := textL_size (s := s)
  have h2 := itoa_size h
  rw [strD_size] at h1 h2 ⊢
  unfold endT
  simp only [List.length_append, List.length_cons, List.length_nil]
  omega
theorem endT_eq (s : List Int) (p : Int) : strD [91] ++ strD (textL s) ++ strD [93, 58] ++ strD (Lib.itoa p) = strD (endT s p) := by
  rw [strD_append, strD_append, strD_append]
  rfl
theorem textF_eq (f : Fw) : strD (endT f.s f.sp) ++ strD [32, 62, 32] ++ strD (endT f.d f.dp) = strD (textF f) := by
  rw [strD_append, strD_append]
  rfl
theorem textF_eq2 (f : Fw) : strD [91] ++ strD (textL f.s) ++ strD [93, 58] ++ strD (Lib.itoa f.sp) ++ strD [32, 62, 32, 91] ++ strD (textL f.d) ++ strD [93, 58] ++ strD (Lib.itoa f.dp) = strD (textF f) := by
  rw [strD_append, strD_append, strD_append, strD_append, strD_append, strD_append, strD_append]
  congr 1
  unfold textF endT
  simp only [List.append_assoc, List.cons_append, List.nil_append]

set_option maxRecDepth 100000 in
set_option maxHeartbeats 1600000 in
theorem end_any (s : List Int) (p : Int) (w : World) (hs : s.length = 16) (vs : AllB s) (hq : i64ok p) (hp : Pow10 w) (ht : LibT w) :
    Calls Tryd.prog 21 #[addrV s, .int .i64 p] w fun e w' => e = .returned (.string (strD (endT s p))) ∧ Below w.heap.size w w' := by
  unfold addrV
  have HS := Lib.hid hs
  have HP := Lib.hid hp
  have HT := Lib.hid ht
  have HQ := Lib.hid hq
  clear hs hp ht hq
  have HB0 := Lib.hid (Blk.new w 23 s)
  have hL := low1 w s 23
  go_enter Tryd.func21, Tryd.ntmps21
  go_wp2_with (with_reducible refine wpList_load_addr rfl (.tmp 2) rfl w.heap.size rfl _ s HB0.out HS.out ?_)
  clear HB0
  generalize w.alloc (.cells (cellsB s).toArray 23) = w0 at *
  refine (text_any s w0 HS.out vs (HT.out.low hL)).mono ?_
  rintro e w1 ⟨rfl, hl⟩
  replace hL := Low.trans hL hl
  clear hl
  have z1 := textL_size (s := s)
  have z2 := itoa_size HQ.out
  have HX := Lib.hid (endT_eq s p)
  obtain ⟨s1, hs1⟩ : ∃ x, x = strD (textL s) := ⟨_, rfl⟩
  rw [show strL (textL s) = s1 from hs1.symm]
  rw [← hs1] at z1 HX
  clear hs1
  have z3 := sum_size (strD [91]) s1 1 56 57 (by decide) z1 rfl
  have z4 := sum_size (strD [91] ++ s1) (strD [93, 58]) 57 2 59 z3 (by decide) rfl
  have q1 : ¬ 9223372036854775807 < (strD [91]).size + s1.size := by have : (strD [91]).size = 1 := rfl; omega
  have q2 : ¬ 9223372036854775807 < (strD [91] ++ s1).size + (strD [93, 58]).size := by have : (strD [93, 58]).size = 2 := rfl; omega
  have q3 : ¬ 9223372036854775807 < (strD [91] ++ s1 ++ strD [93, 58]).size + (strD (Lib.itoa p)).size := by omega
  unfold strD at *
  go_wp2_with fail
  refine (itoa_any p w1 HQ.out (HP.out.low hL)).mono ?_
  rintro e w2 ⟨rfl, hl⟩
  replace hL := Low.trans hL hl
  clear hl
  go_wp2_with fail
  go_ret
  exact ⟨congrArg (fun x => Ending.returned (.string x)) HX.out, hL⟩
theorem rangeAt_belowF {w w' : World} {B b p : Nat} {cs : List Value} (h : w.rangeAt b p cs) (hb : Below B w w') (hlt : b < B) : w'.rangeAt b p cs := fun j v hv => (hb.cell (p := ⟨b, p + j, none⟩) hlt).trans (h j v hv)

set_option maxRecDepth 100000 in
set_option maxHeartbeats 3200000 in
theorem ftext_any (f : Fw) (w : World) (hf : f.ok) (hp : Pow10 w) (ht : LibT w) :
    Calls Tryd.prog 8 #[fwV f] w fun e w' => e = .returned (.string (strD (textF f))) ∧ Below w.heap.size w w' := by
  unfold fwV
  have HO := Lib.hid hf
  have HP := Lib.hid hp
  have HT := Lib.hid ht
  have HX := Lib.hid (textF_eq f)
  clear hf hp ht
  go_enter Tryd.func8, Tryd.ntmps8
  go_wp2_with ((with_reducible refine wpList_box_fw rfl (.tmp 0) rfl f rfl ?_); intro w1 HB hL hz1; refine Hid.out ?_)
  refine Lib.hid ?_
  replace HB := Lib.hid HB
  clear hz1
  go_wp2_with fail
  refine wp_region_plan (.rd 0 (.rd 1 (.rd 2 (.rd 3 (.rd 6 (.rd 7 (.rd 8 (.rd 9 (.act 4 (.rd 5 (.act 10 (.rd 11 (.rd 12 (.done))))))))))))))
    (by kernel_rfl) (by kernel_rfl) (fun _ _ d _ _ h => by cases d <;> exact h) (by kernel_rfl) ?_
  replace hL : Low w w1.drew := hL.trans (Below.drew (Below.refl _ _))
  replace HB : Hid (BlkF w1.drew w.heap.size f) := HB
  generalize w1.drew = w5 at *
  have c16 := BlkF.sp HB.out HO.out.s
  have c33 := BlkF.dp HB.out HO.out.s HO.out.d
  have hgs := HB.out.lt
  have HRS := Lib.hid (BlkF.src HB.out)
  have HRD := Lib.hid (BlkF.dst HB.out HO.out.s)
  clear HB
  generalize w.heap.size = gs at c16 c33 HRS HRD hgs ⊢
  iterate 8 (refine walkP_read (v := _) rfl (by rfl) (by
      intro y hy
      first
      | exact exec_load_atF (b := gs) (p := 0) rfl HO.out.s (rangeAt_belowF HRS.out hy hgs)
      | exact exec_load_atF (b := gs) (p := 17) rfl HO.out.d (rangeAt_belowF HRD.out hy hgs)
      | (have e3 := (hy.cell (p := ⟨gs, 16, none⟩) hgs).trans c16; have e4 := (hy.cell (p := ⟨gs, 33, none⟩) hgs).trans c33; go_simp; try rfl)) ?_; simp only [Act.put, List.setIfInBounds_toArray, List.set_cons_zero, List.set_cons_succ])
  clear c16 c33 hgs HRS HRD
  refine walkP_act rfl (by rfl) (fun K hK => ?_)
  go_simp
  refine (end_any f.s f.sp w5 HO.out.s HO.out.vs HO.out.sp (HP.out.low hL) (HT.out.low hL)).mono ?_
  rintro e w6 ⟨rfl, hl⟩
  have z1 := endT_size (s := f.s) HO.out.sp
  obtain ⟨s1, hs1⟩ : ∃ s, s = strD (endT f.s f.sp) := ⟨_, rfl⟩
  rw [← hs1] at z1 HX ⊢
  clear hs1
  go_simp
  refine hK _ _ hl ?_
  clear hK K
  replace hL := hL.trans hl
  clear hl
  iterate 1 (refine walkP_read (v := _) rfl (by rfl) (by intro y hy; exact exec_cat s1 (strD [32, 62, 32]) 80 3 83 z1 (by decide) rfl (by omega) rfl rfl y) ?_; simp only [Act.put, List.setIfInBounds_toArray, List.set_cons_zero, List.set_cons_succ])
  have z3 := sum_size s1 (strD [32, 62, 32]) 80 3 83 z1 (by decide) rfl
  obtain ⟨s3, hs3⟩ : ∃ s, s = s1 ++ strD [32, 62, 32] := ⟨_, rfl⟩
  rw [← hs3] at z3 HX ⊢
  clear hs3
  refine walkP_act rfl (by rfl) (fun K hK => ?_)
  go_simp
  refine (end_any f.d f.dp w6 HO.out.d HO.out.vd HO.out.dp (HP.out.low hL) (HT.out.low hL)).mono ?_
  rintro e w7 ⟨rfl, hl⟩
  have z2 := endT_size (s := f.d) HO.out.dp
  obtain ⟨s2, hs2⟩ : ∃ s, s = strD (endT f.d f.dp) := ⟨_, rfl⟩
  rw [← hs2] at z2 HX ⊢
  clear hs2
  go_simp
  refine hK _ _ hl ?_
  clear hK K
  replace hL := hL.trans hl
  clear hl
  iterate 1 (refine walkP_read (v := _) rfl (by rfl) (by intro y hy; exact exec_cat s3 s2 83 80 163 z3 z2 rfl (by omega) rfl rfl y) ?_; simp only [Act.put, List.setIfInBounds_toArray, List.set_cons_zero, List.set_cons_succ])
  iterate 1 (refine walkP_read (v := _) rfl (by rfl) (by intro y hy; go_simp; try rfl) ?_; simp only [Act.put, List.setIfInBounds_toArray, List.set_cons_zero, List.set_cons_succ])
  unfold walkP
  clear z1 z2 z3
  generalize s3 ++ s2 = s7 at *
  go_wp2_with fail
  go_ret
  exact ⟨congrArg (fun x => Ending.returned (.string x)) HX.out, hL⟩

set_option maxRecDepth 100000 in
set_option maxHeartbeats 6400000 in
theorem rftext_any (f : Fw) (w : World) (hf : f.ok) :
    Calls Tryd.prog 9 #[fwV f] w fun e w' => e = .returned (.string (strD (textF f))) ∧ Below w.heap.size w w' := by
  unfold fwV
  have HO := Lib.hid hf
  have HX := Lib.hid (textF_eq2 f)
  clear hf
  go_enter Tryd.func9, Tryd.ntmps9
  go_wp2_with ((with_reducible refine wpList_box_fw rfl (.tmp 0) rfl f rfl ?_); intro w1 HB hL hz1; refine Hid.out ?_)
  refine Lib.hid ?_
  replace HB := Lib.hid HB
  clear hz1
  go_wp2_with fail
  refine wp_region_plan (.rd 0 (.rd 1 (.rd 5 (.rd 6 (.rd 10 (.rd 11 (.rd 15 (.rd 16 (.act 2 (.rd 3 (.rd 4 (.act 7 (.rd 8 (.rd 9 (.act 12 (.rd 13 (.rd 14 (.act 17 (.rd 18 (.rd 19 (.done)))))))))))))))))))))
    (by kernel_rfl) (by kernel_rfl) (fun _ _ d _ _ h => by cases d <;> exact h) (by kernel_rfl) ?_
  replace hL : Low w w1.drew := hL.trans (Below.drew (Below.refl _ _))
  replace HB : Hid (BlkF w1.drew w.heap.size f) := HB
  generalize w1.drew = w5 at *
  have c16 := BlkF.sp HB.out HO.out.s
  have c33 := BlkF.dp HB.out HO.out.s HO.out.d
  have hgs := HB.out.lt
  have HRS := Lib.hid (BlkF.src HB.out)
  have HRD := Lib.hid (BlkF.dst HB.out HO.out.s)
  clear HB
  generalize w.heap.size = gs at c16 c33 HRS HRD hgs ⊢
  iterate 8 (refine walkP_read (v := _) rfl (by rfl) (by
      intro y hy
      first
      | exact exec_load_atF (b := gs) (p := 0) rfl HO.out.s (rangeAt_belowF HRS.out hy hgs)
      | exact exec_load_atF (b := gs) (p := 17) rfl HO.out.d (rangeAt_belowF HRD.out hy hgs)
      | (have e3 := (hy.cell (p := ⟨gs, 16, none⟩) hgs).trans c16; have e4 := (hy.cell (p := ⟨gs, 33, none⟩) hgs).trans c33; go_simp; try rfl)) ?_; simp only [Act.put, List.setIfInBounds_toArray, List.set_cons_zero, List.set_cons_succ])
  clear c16 c33 hgs HRS HRD
  refine walkP_act rfl (by rfl) (fun K hK => ?_)
  go_simp
  refine (rtext_any f.s w5 HO.out.s HO.out.vs).mono ?_
  rintro e w6 ⟨rfl, hl⟩
  rw [← text_same]
  have z1 := textL_size (s := f.s)
  obtain ⟨s1, hs1⟩ : ∃ s, s = strD (textL f.s) := ⟨_, rfl⟩
  rw [show strL (textL f.s) = s1 from hs1.symm]
  rw [← hs1] at z1 HX
  clear hs1
  go_simp
  refine hK _ _ hl ?_
  clear hK K
  replace hL := hL.trans hl
  clear hl
  iterate 1 (refine walkP_read (v := _) rfl (by rfl) (by intro y hy; exact exec_cat (strD [91]) s1 1 56 57 (by decide) z1 rfl (by omega) rfl rfl y) ?_; simp only [Act.put, List.setIfInBounds_toArray, List.set_cons_zero, List.set_cons_succ])
  have z3 := sum_size (strD [91]) s1 1 56 57 (by decide) z1 rfl
  iterate 1 (refine walkP_read (v := _) rfl (by rfl) (by intro y hy; exact exec_cat (strD [91] ++ s1) (strD [93, 58]) 57 2 59 z3 (by decide) rfl (by omega) rfl rfl y) ?_; simp only [Act.put, List.setIfInBounds_toArray, List.set_cons_zero, List.set_cons_succ])
  have z4 := sum_size (strD [91] ++ s1) (strD [93, 58]) 57 2 59 z3 (by decide) rfl
  obtain ⟨s4, hs4⟩ : ∃ s, s = strD [91] ++ s1 ++ strD [93, 58] := ⟨_, rfl⟩
  rw [← hs4] at z4 HX ⊢
  clear hs4 z3
  refine walkP_act rfl (by rfl) (fun K hK => ?_)
  go_simp
  refine (rDigits_any f.sp w6 HO.out.sp).mono ?_
  rintro e w7 ⟨rfl, hl⟩
  have z2 := itoa_size HO.out.sp
  obtain ⟨s2, hs2⟩ : ∃ s, s = strD (Lib.itoa f.sp) := ⟨_, rfl⟩
  rw [← hs2] at z2 HX ⊢
  clear hs2
  go_simp
  refine hK _ _ hl ?_
  clear hK K
  replace hL := hL.trans hl
  clear hl
  iterate 1 (refine walkP_read (v := _) rfl (by rfl) (by intro y hy; exact exec_cat s4 s2 59 21 80 z4 z2 rfl (by omega) rfl rfl y) ?_; simp only [Act.put, List.setIfInBounds_toArray, List.set_cons_zero, List.set_cons_succ])
  have z5 := sum_size s4 s2 59 21 80 z4 z2 rfl
  iterate 1 (refine walkP_read (v := _) rfl (by rfl) (by intro y hy; exact exec_cat (s4 ++ s2) (strD [32, 62, 32, 91]) 80 4 84 z5 (by decide) rfl (by omega) rfl rfl y) ?_; simp only [Act.put, List.setIfInBounds_toArray, List.set_cons_zero, List.set_cons_succ])
  have z6 := sum_size (s4 ++ s2) (strD [32, 62, 32, 91]) 80 4 84 z5 (by decide) rfl
  obtain ⟨s6, hs6⟩ : ∃ s, s = s4 ++ s2 ++ strD [32, 62, 32, 91] := ⟨_, rfl⟩
  rw [← hs6] at z6 HX ⊢
  clear hs6 z5 z4 z2 z1
  refine walkP_act rfl (by rfl) (fun K hK => ?_)
  go_simp
  refine (rtext_any f.d w7 HO.out.d HO.out.vd).mono ?_
  rintro e w8 ⟨rfl, hl⟩
  rw [← text_same]
  have z1 := textL_size (s := f.d)
  obtain ⟨s7, hs7⟩ : ∃ s, s = strD (textL f.d) := ⟨_, rfl⟩
  rw [show strL (textL f.d) = s7 from hs7.symm]
  rw [← hs7] at z1 HX
  clear hs7
  go_simp
  refine hK _ _ hl ?_
  clear hK K
  replace hL := hL.trans hl
  clear hl
  iterate 1 (refine walkP_read (v := _) rfl (by rfl) (by intro y hy; exact exec_cat s6 s7 84 56 140 z6 z1 rfl (by omega) rfl rfl y) ?_; simp only [Act.put, List.setIfInBounds_toArray, List.set_cons_zero, List.set_cons_succ])
  have z3 := sum_size s6 s7 84 56 140 z6 z1 rfl
  iterate 1 (refine walkP_read (v := _) rfl (by rfl) (by intro y hy; exact exec_cat (s6 ++ s7) (strD [93, 58]) 140 2 142 z3 (by decide) rfl (by omega) rfl rfl y) ?_; simp only [Act.put, List.setIfInBounds_toArray, List.set_cons_zero, List.set_cons_succ])
  have z4 := sum_size (s6 ++ s7) (strD [93, 58]) 140 2 142 z3 (by decide) rfl
  obtain ⟨s8, hs8⟩ : ∃ s, s = s6 ++ s7 ++ strD [93, 58] := ⟨_, rfl⟩
  rw [← hs8] at z4 HX ⊢
  clear hs8 z3
  refine walkP_act rfl (by rfl) (fun K hK => ?_)
  go_simp
  refine (rDigits_any f.dp w8 HO.out.dp).mono ?_
  rintro e w9 ⟨rfl, hl⟩
  have z2 := itoa_size HO.out.dp
  obtain ⟨s9, hs9⟩ : ∃ s, s = strD (Lib.itoa f.dp) := ⟨_, rfl⟩
  rw [← hs9] at z2 HX ⊢
  clear hs9
  go_simp
  refine hK _ _ hl ?_
  clear hK K
  replace hL := hL.trans hl
  clear hl
  iterate 1 (refine walkP_read (v := _) rfl (by rfl) (by intro y hy; exact exec_cat s8 s9 142 21 163 z4 z2 rfl (by omega) rfl rfl y) ?_; simp only [Act.put, List.setIfInBounds_toArray, List.set_cons_zero, List.set_cons_succ])
  iterate 1 (refine walkP_read (v := _) rfl (by rfl) (by intro y hy; go_simp; try rfl) ?_; simp only [Act.put, List.setIfInBounds_toArray, List.set_cons_zero, List.set_cons_succ])
  unfold walkP
  clear z1 z2 z4 z6
  generalize s8 ++ s9 = s10 at *
  go_wp2_with fail
  go_ret
  exact ⟨congrArg (fun x => Ending.returned (.string x)) HX.out, hL⟩
end Go.Proofs.YtjafjapnmffohaaDoor
