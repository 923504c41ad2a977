/- The law AddrBack answers true for any two addresses. Condition: the library's variables hold what its text lays. -/
import Derived.Test.YtcdeabiellefcaaDoorLawAdR
namespace Go.Proofs.YtcdeabiellefcaaDoor
open Go.RowKit
set_option linter.unusedVariables false

theorem textL_length (s : List Int) : (textL s).length ≤ 56 := by
  rw [text_same]
  exact rtx_length _ _ _ 8
theorem text_eqb {s d : List Int} (hs : s.length = 16) (hd : d.length = 16) (vs : AllB s) (vd : AllB d) : ((strL (textL s)).toList == (strL (textL d)).toList) = (s == d) := by
  rw [Bool.eq_iff_iff, beq_iff_eq, beq_iff_eq]
  exact text_inj hs hd vs vd

set_option maxHeartbeats 3200000 in
set_option maxRecDepth 100000 in
theorem adb_walk (s d : List Int) (w : World) (hs : s.length = 16) (hd : d.length = 16) (vs : AllB s) (vd : AllB d) (h : Libs w) :
    Calls Tryd.prog 5 #[addrV s, addrV d] w fun e w' => e = .returned (.bool true) ∧ Below w.heap.size w w' := by
  have HTI := Lib.hid (text_eqb hs hd vs vd)
  unfold addrV
  have HS := Lib.hid hs
  have HD := Lib.hid hd
  have HB0 := Lib.hid (box_first w s d 23 23)
  have HB1 := Lib.hid (box_second w s d 23 23)
  have hL := low2 w s d 23 23
  have HL := Lib.hid (h.low hL)
  clear hs hd h
  go_enter Tryd.func5, Tryd.ntmps5
  go_wp2_with (with_reducible refine wpList_load_addr rfl (.tmp 2) rfl w.heap.size rfl _ s HB0.out HS.out ?_)
  generalize (w.alloc (.cells (cellsB s).toArray 23)).alloc (.cells (cellsB d).toArray 23) = w0 at *
  refine (text_any s w0 HS.out vs HL.out).mono ?_
  rintro e w1 ⟨rfl, hl⟩
  replace hL := hL.trans hl
  replace HL := Lib.hid (HL.out.low hl)
  replace HB0 := Lib.hid (HB0.out.below hl HB0.out.lt)
  replace HB1 := Lib.hid (HB1.out.below hl HB1.out.lt)
  clear hl
  have hz : (strL (textL s)).size < 4294967281 := by rw [strL_size]; have := textL_length s; omega
  go_wp2_with fail
  refine (read_any (strL (textL s)) w1 hz HL.out).mono ?_
  rintro e w2 ⟨he, hl⟩
  rw [show readL (strL (textL s)).data.toList = some s from read_text HS.out vs] at he
  subst he
  unfold addrV
  simp only [Option.getD_some, Option.isSome_some, if_true]
  replace hl : Low w1 w2 := hl
  replace hL := hL.trans hl
  replace HL := Lib.hid (HL.out.low hl)
  replace HB0 := Lib.hid (HB0.out.below hl HB0.out.lt)
  replace HB1 := Lib.hid (HB1.out.below hl HB1.out.lt)
  clear hl hz
  have HZ : Hid (Blk (w2.alloc (.cells #[.int .u8 0, .int .u8 0, .int .u8 0, .int .u8 0, .int .u8 0, .int .u8 0, .int .u8 0, .int .u8 0, .int .u8 0, .int .u8 0, .int .u8 0, .int .u8 0, .int .u8 0, .int .u8 0, .int .u8 0, .int .u8 0] 23)) 23 w2.heap.size zero16) := Blk.new w2 _ zero16
  have hl : Low w2 (w2.alloc (.cells #[.int .u8 0, .int .u8 0, .int .u8 0, .int .u8 0, .int .u8 0, .int .u8 0, .int .u8 0, .int .u8 0, .int .u8 0, .int .u8 0, .int .u8 0, .int .u8 0, .int .u8 0, .int .u8 0, .int .u8 0, .int .u8 0] 23)) := Low.alloc w2 _
  go_wp2_with ((refine wpList_store_addr rfl (.tmp 5) (.tmp 11) rfl w2.heap.size rfl s rfl _ zero16 HZ.out rfl HS.out ?_); intro w3 HG3 hb3 hz3)
  have HBX := Lib.hid HG3
  have hl3 : Low w2 w3 := Below.trans hl hb3
  replace hL := hL.trans hl3
  replace HL := Lib.hid (HL.out.low hl3)
  replace HB0 := Lib.hid (HB0.out.below hl3 HB0.out.lt)
  replace HB1 := Lib.hid (HB1.out.below hl3 HB1.out.lt)
  clear HG3 hb3 hz3 hl HZ hl3
  generalize w2.heap.size = gx at *
  generalize hG : w.heap.size = G at HB0 HB1 ⊢
  refine wp_region_plan (.rd 0 (.rd 1 (.rd 2 (.rd 3 (.rd 4 (.rd 5 (.rd 6 (.rd 7 (.rd 8 (.rd 10 (.rd 13 (.rd 14 (.rd 15 (.act 9 (.act 11 (.rd 12 (.rd 16 (.rd 17 (.rd 18 (.act 19 (.rd 20 (.rd 21 .done))))))))))))))))))))))
    (by kernel_rfl) (by kernel_rfl) (fun _ _ d _ _ h => by cases d <;> exact h) (by kernel_rfl) ?_
  have hDR : Low w3 w3.drew := Below.drew (Below.refl _ _)
  replace hL := hL.trans hDR
  replace HL := Lib.hid (HL.out.low hDR)
  replace HB0 := Lib.hid (HB0.out.below hDR HB0.out.lt)
  replace HB1 := Lib.hid (HB1.out.below hDR HB1.out.lt)
  replace HBX := Lib.hid (HBX.out.below hDR HBX.out.lt)
  clear hDR
  generalize w3.drew = wq0 at *
  iterate 2 (refine walkP_read (v := _) rfl (by rfl) (by intro y hy; first | exact exec_load_addr rfl (HB0.out.below hy HB0.out.lt) HS.out | exact exec_load_addr rfl (HB1.out.below hy HB1.out.lt) HD.out | exact exec_load_addr rfl (HBX.out.below hy HBX.out.lt) HS.out | (go_simp; try rfl)) ?_; simp only [Act.put, List.setIfInBounds_toArray, List.set_cons_zero, List.set_cons_succ])
  have he1 := eq_addr s s HS.out HS.out
  iterate 10 (refine walkP_read (v := _) rfl (by rfl) (by intro y hy; first | exact exec_load_addr rfl (HB0.out.below hy HB0.out.lt) HS.out | exact exec_load_addr rfl (HB1.out.below hy HB1.out.lt) HD.out | exact exec_load_addr rfl (HBX.out.below hy HBX.out.lt) HS.out | (go_simp; try rfl)) ?_; simp only [Act.put, List.setIfInBounds_toArray, List.set_cons_zero, List.set_cons_succ])
  have he2 := eq_addr s d HS.out HD.out
  iterate 1 (refine walkP_read (v := _) rfl (by rfl) (by intro y hy; first | exact exec_load_addr rfl (HB0.out.below hy HB0.out.lt) HS.out | exact exec_load_addr rfl (HB1.out.below hy HB1.out.lt) HD.out | exact exec_load_addr rfl (HBX.out.below hy HBX.out.lt) HS.out | (go_simp; try rfl)) ?_; simp only [Act.put, List.setIfInBounds_toArray, List.set_cons_zero, List.set_cons_succ])
  refine walkP_act rfl (by rfl) (fun K hK => ?_)
  go_simp
  refine (text_any s wq0 HS.out vs HL.out).mono ?_
  rintro e wq1 ⟨rfl, hl⟩
  go_simp
  refine hK _ _ hl ?_
  clear hK K
  replace hL := hL.trans hl
  replace HL := Lib.hid (HL.out.low hl)
  replace HB0 := Lib.hid (HB0.out.below hl HB0.out.lt)
  replace HB1 := Lib.hid (HB1.out.below hl HB1.out.lt)
  replace HBX := Lib.hid (HBX.out.below hl HBX.out.lt)
  clear hl
  refine walkP_act rfl (by rfl) (fun K hK => ?_)
  go_simp
  refine (text_any d wq1 HD.out vd HL.out).mono ?_
  rintro e wq2 ⟨rfl, hl⟩
  go_simp
  refine hK _ _ hl ?_
  clear hK K
  replace hL := hL.trans hl
  replace HL := Lib.hid (HL.out.low hl)
  replace HB0 := Lib.hid (HB0.out.below hl HB0.out.lt)
  replace HB1 := Lib.hid (HB1.out.below hl HB1.out.lt)
  replace HBX := Lib.hid (HBX.out.below hl HBX.out.lt)
  clear hl
  have htx := HTI.out
  iterate 4 (refine walkP_read (v := _) rfl (by rfl) (by intro y hy; first | exact exec_load_addr rfl (HB0.out.below hy HB0.out.lt) HS.out | exact exec_load_addr rfl (HB1.out.below hy HB1.out.lt) HD.out | exact exec_load_addr rfl (HBX.out.below hy HBX.out.lt) HS.out | (go_simp; try rfl)) ?_; simp only [Act.put, List.setIfInBounds_toArray, List.set_cons_zero, List.set_cons_succ])
  refine walkP_act rfl (by rfl) (fun K hK => ?_)
  go_simp
  refine (adlives_any wq2 HL.out).mono ?_
  rintro e wq3 ⟨rfl, hl⟩
  go_simp
  refine hK _ _ hl ?_
  clear hK K
  replace hL := hL.trans hl
  replace HL := Lib.hid (HL.out.low hl)
  replace HB0 := Lib.hid (HB0.out.below hl HB0.out.lt)
  replace HB1 := Lib.hid (HB1.out.below hl HB1.out.lt)
  replace HBX := Lib.hid (HBX.out.below hl HBX.out.lt)
  clear hl
  iterate 2 (refine walkP_read (v := _) rfl (by rfl) (by intro y hy; first | exact exec_load_addr rfl (HB0.out.below hy HB0.out.lt) HS.out | exact exec_load_addr rfl (HB1.out.below hy HB1.out.lt) HD.out | exact exec_load_addr rfl (HBX.out.below hy HBX.out.lt) HS.out | (go_simp; try rfl)) ?_; simp only [Act.put, List.setIfInBounds_toArray, List.set_cons_zero, List.set_cons_succ])
  unfold walkP
  go_wp2
  go_ret
  exact ⟨rfl, hL⟩
end Go.Proofs.YtcdeabiellefcaaDoor
