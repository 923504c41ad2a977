/- The law AddrNets answers true for any two addresses and any number. Condition: the library's variables hold what its text lays. -/
import Derived.Test.YtcdeabiellefcaaDoorLawAdR
namespace Go.Proofs.YtcdeabiellefcaaDoor
open Go.RowKit
set_option linter.unusedVariables false

set_option maxHeartbeats 6400000 in
set_option maxRecDepth 100000 in
theorem adn_walk (s d : List Int) (n : Int) (w : World) (hs : s.length = 16) (hd : d.length = 16) (vs : AllB s) (vd : AllB d) (hn : i64ok n) (h : Libs w) :
    Calls Tryd.prog 6 #[addrV s, addrV d, .int .i64 n] w fun e w' => e = .returned (.bool true) ∧ Below w.heap.size w w' := by
  unfold addrV
  have HS := Lib.hid hs
  have HD := Lib.hid hd
  have HB0 := Lib.hid (box_first w s d 23 23)
  have HB1 := Lib.hid (box_second w s d 23 23)
  have hL := low2 w s d 23 23
  have HL := Lib.hid (h.low hL)
  clear hs hd h
  go_enter Tryd.func6, Tryd.ntmps6
  go_wp2_with (with_reducible refine wpList_load_addr rfl (.tmp 3) rfl w.heap.size rfl _ s HB0.out HS.out ?_)
  generalize (w.alloc (.cells (cellsB s).toArray 23)).alloc (.cells (cellsB d).toArray 23) = w0 at *
  refine (prefix_any s n w0 HS.out vs hn).mono ?_
  rintro e w2 ⟨rfl, hl⟩
  unfold addrV
  replace hL := hL.trans hl
  replace HL := Lib.hid (HL.out.low hl)
  replace HB0 := Lib.hid (HB0.out.below hl HB0.out.lt)
  replace HB1 := Lib.hid (HB1.out.below hl HB1.out.lt)
  clear hl
  have HP := Lib.hid (prefL_length s n)
  have vp := pref_all vs n
  have H1 := Lib.hid (pref_self vs n)
  have H2 := Lib.hid (in_zero vs n)
  have H3 := Lib.hid (pref_again vs n)
  generalize prefL s n = p at *
  have HZ : Hid (Blk (w2.alloc (.cells #[.int .u8 0, .int .u8 0, .int .u8 0, .int .u8 0, .int .u8 0, .int .u8 0, .int .u8 0, .int .u8 0, .int .u8 0, .int .u8 0, .int .u8 0, .int .u8 0, .int .u8 0, .int .u8 0, .int .u8 0, .int .u8 0] 23)) 23 w2.heap.size zero16) := Blk.new w2 _ zero16
  have hl : Low w2 (w2.alloc (.cells #[.int .u8 0, .int .u8 0, .int .u8 0, .int .u8 0, .int .u8 0, .int .u8 0, .int .u8 0, .int .u8 0, .int .u8 0, .int .u8 0, .int .u8 0, .int .u8 0, .int .u8 0, .int .u8 0, .int .u8 0, .int .u8 0] 23)) := Low.alloc w2 _
  go_wp2_with ((refine wpList_store_addr rfl (.tmp 7) (.tmp 10) rfl w2.heap.size rfl p rfl _ zero16 HZ.out rfl HP.out ?_); intro w3 HG3 hb3 hz3)
  have HBX := Lib.hid HG3
  have hl3 : Low w2 w3 := Below.trans hl hb3
  replace hL := hL.trans hl3
  replace HL := Lib.hid (HL.out.low hl3)
  replace HB0 := Lib.hid (HB0.out.below hl3 HB0.out.lt)
  replace HB1 := Lib.hid (HB1.out.below hl3 HB1.out.lt)
  clear HG3 hb3 hz3 hl HZ hl3
  generalize w2.heap.size = gx at *
  generalize hG : w.heap.size = G at HB0 HB1 ⊢
  refine wp_region_plan (.rd 0 (.rd 1 (.rd 2 (.rd 4 (.rd 5 (.rd 6 (.act 3 (.act 7 (.rd 8 (.rd 9 (.rd 10 (.rd 11 (.rd 12 (.act 13 (.rd 14 (.rd 15 (.rd 16 (.rd 17 (.rd 19 (.rd 20 (.rd 21 (.act 18 (.act 22 (.rd 23 (.rd 24 (.rd 25 (.rd 26 (.rd 27 (.rd 29 (.act 28 (.rd 30 (.rd 31 (.rd 32 (.rd 33 (.rd 34 (.rd 36 (.rd 37 (.act 35 (.act 38 (.rd 39 (.rd 40 (.rd 41 (.act 42 (.rd 43 (.rd 44 .done)))))))))))))))))))))))))))))))))))))))))))))
    (by kernel_rfl) (by kernel_rfl) (fun _ _ d _ _ h => by cases d <;> exact h) (by kernel_rfl) ?_
  have hDR : Low w3 w3.drew := Below.drew (Below.refl _ _)
  replace hL := hL.trans hDR
  replace HL := Lib.hid (HL.out.low hDR)
  replace HB0 := Lib.hid (HB0.out.below hDR HB0.out.lt)
  replace HB1 := Lib.hid (HB1.out.below hDR HB1.out.lt)
  replace HBX := Lib.hid (HBX.out.below hDR HBX.out.lt)
  clear hDR
  generalize w3.drew = wq0 at *
  iterate 6 (refine walkP_read (v := _) rfl (by rfl) (by intro y hy; first | exact exec_load_addr rfl (HB0.out.below hy HB0.out.lt) HS.out | exact exec_load_addr rfl (HB1.out.below hy HB1.out.lt) HD.out | exact exec_load_addr rfl (HBX.out.below hy HBX.out.lt) HP.out | (go_simp; try rfl)) ?_; simp only [Act.put, List.setIfInBounds_toArray, List.set_cons_zero, List.set_cons_succ])
  refine walkP_act rfl (by rfl) (fun K hK => ?_)
  go_simp
  refine (in_any s d n wq0 HS.out HD.out vs vd hn).mono ?_
  rintro e wq1 ⟨rfl, hl⟩
  go_simp
  refine hK _ _ hl ?_
  clear hK K
  replace hL := hL.trans hl
  replace HL := Lib.hid (HL.out.low hl)
  replace HB0 := Lib.hid (HB0.out.below hl HB0.out.lt)
  replace HB1 := Lib.hid (HB1.out.below hl HB1.out.lt)
  replace HBX := Lib.hid (HBX.out.below hl HBX.out.lt)
  clear hl
  refine walkP_act rfl (by rfl) (fun K hK => ?_)
  go_simp
  refine (rin_any s d n wq1 HS.out HD.out vs vd hn).mono ?_
  rintro e wq2 ⟨rfl, hl⟩
  rw [← in_same vs vd n]
  go_simp
  refine hK _ _ hl ?_
  clear hK K
  replace hL := hL.trans hl
  replace HL := Lib.hid (HL.out.low hl)
  replace HB0 := Lib.hid (HB0.out.below hl HB0.out.lt)
  replace HB1 := Lib.hid (HB1.out.below hl HB1.out.lt)
  replace HBX := Lib.hid (HBX.out.below hl HBX.out.lt)
  clear hl
  iterate 5 (refine walkP_read (v := _) rfl (by rfl) (by intro y hy; first | exact exec_load_addr rfl (HB0.out.below hy HB0.out.lt) HS.out | exact exec_load_addr rfl (HB1.out.below hy HB1.out.lt) HD.out | exact exec_load_addr rfl (HBX.out.below hy HBX.out.lt) HP.out | (go_simp; try rfl)) ?_; simp only [Act.put, List.setIfInBounds_toArray, List.set_cons_zero, List.set_cons_succ])
  refine walkP_act rfl (by rfl) (fun K hK => ?_)
  go_simp
  refine (rin_any p s n wq2 HP.out HS.out vp vs hn).mono ?_
  rintro e wq3 ⟨rfl, hl⟩
  rw [H1.out]
  go_simp
  refine hK _ _ hl ?_
  clear hK K
  replace hL := hL.trans hl
  replace HL := Lib.hid (HL.out.low hl)
  replace HB0 := Lib.hid (HB0.out.below hl HB0.out.lt)
  replace HB1 := Lib.hid (HB1.out.below hl HB1.out.lt)
  replace HBX := Lib.hid (HBX.out.below hl HBX.out.lt)
  clear hl
  iterate 7 (refine walkP_read (v := _) rfl (by rfl) (by intro y hy; first | exact exec_load_addr rfl (HB0.out.below hy HB0.out.lt) HS.out | exact exec_load_addr rfl (HB1.out.below hy HB1.out.lt) HD.out | exact exec_load_addr rfl (HBX.out.below hy HBX.out.lt) HP.out | (go_simp; try rfl)) ?_; simp only [Act.put, List.setIfInBounds_toArray, List.set_cons_zero, List.set_cons_succ])
  refine walkP_act rfl (by rfl) (fun K hK => ?_)
  go_simp
  refine (in_any p zero16 128 wq3 HP.out rfl vp zero_all (by unfold i64ok; omega)).mono ?_
  rintro e wq4 ⟨rfl, hl⟩
  rw [H2.out]
  go_simp
  refine hK _ _ hl ?_
  clear hK K
  replace hL := hL.trans hl
  replace HL := Lib.hid (HL.out.low hl)
  replace HB0 := Lib.hid (HB0.out.below hl HB0.out.lt)
  replace HB1 := Lib.hid (HB1.out.below hl HB1.out.lt)
  replace HBX := Lib.hid (HBX.out.below hl HBX.out.lt)
  clear hl
  refine walkP_act rfl (by rfl) (fun K hK => ?_)
  go_simp
  refine (rin_any s zero16 n wq4 HS.out rfl vs zero_all hn).mono ?_
  rintro e wq5 ⟨rfl, hl⟩
  go_simp
  refine hK _ _ hl ?_
  clear hK K
  replace hL := hL.trans hl
  replace HL := Lib.hid (HL.out.low hl)
  replace HB0 := Lib.hid (HB0.out.below hl HB0.out.lt)
  replace HB1 := Lib.hid (HB1.out.below hl HB1.out.lt)
  replace HBX := Lib.hid (HBX.out.below hl HBX.out.lt)
  clear hl
  iterate 6 (refine walkP_read (v := _) rfl (by rfl) (by intro y hy; first | exact exec_load_addr rfl (HB0.out.below hy HB0.out.lt) HS.out | exact exec_load_addr rfl (HB1.out.below hy HB1.out.lt) HD.out | exact exec_load_addr rfl (HBX.out.below hy HBX.out.lt) HP.out | (go_simp; try rfl)) ?_; simp only [Act.put, List.setIfInBounds_toArray, List.set_cons_zero, List.set_cons_succ])
  refine walkP_act rfl (by rfl) (fun K hK => ?_)
  go_simp
  refine (prefix_any p n wq5 HP.out vp hn).mono ?_
  rintro e wq6 ⟨rfl, hl⟩
  rw [H3.out]
  unfold addrV
  go_simp
  refine hK _ _ hl ?_
  clear hK K
  replace hL := hL.trans hl
  replace HL := Lib.hid (HL.out.low hl)
  replace HB0 := Lib.hid (HB0.out.below hl HB0.out.lt)
  replace HB1 := Lib.hid (HB1.out.below hl HB1.out.lt)
  replace HBX := Lib.hid (HBX.out.below hl HBX.out.lt)
  clear hl
  have he3 := eq_addr p p HP.out HP.out
  iterate 7 (refine walkP_read (v := _) rfl (by rfl) (by intro y hy; first | exact exec_load_addr rfl (HB0.out.below hy HB0.out.lt) HS.out | exact exec_load_addr rfl (HB1.out.below hy HB1.out.lt) HD.out | exact exec_load_addr rfl (HBX.out.below hy HBX.out.lt) HP.out | (go_simp; try rfl)) ?_; simp only [Act.put, List.setIfInBounds_toArray, List.set_cons_zero, List.set_cons_succ])
  refine walkP_act rfl (by rfl) (fun K hK => ?_)
  go_simp
  refine (less_any s d wq6 HS.out HD.out).mono ?_
  rintro e wq7 ⟨rfl, hl⟩
  go_simp
  refine hK _ _ hl ?_
  clear hK K
  replace hL := hL.trans hl
  replace HL := Lib.hid (HL.out.low hl)
  replace HB0 := Lib.hid (HB0.out.below hl HB0.out.lt)
  replace HB1 := Lib.hid (HB1.out.below hl HB1.out.lt)
  replace HBX := Lib.hid (HBX.out.below hl HBX.out.lt)
  clear hl
  refine walkP_act rfl (by rfl) (fun K hK => ?_)
  go_simp
  refine (rless_any s d wq7 HS.out HD.out).mono ?_
  rintro e wq8 ⟨rfl, hl⟩
  go_simp
  refine hK _ _ hl ?_
  clear hK K
  replace hL := hL.trans hl
  replace HL := Lib.hid (HL.out.low hl)
  replace HB0 := Lib.hid (HB0.out.below hl HB0.out.lt)
  replace HB1 := Lib.hid (HB1.out.below hl HB1.out.lt)
  replace HBX := Lib.hid (HBX.out.below hl HBX.out.lt)
  clear hl
  iterate 3 (refine walkP_read (v := _) rfl (by rfl) (by intro y hy; first | exact exec_load_addr rfl (HB0.out.below hy HB0.out.lt) HS.out | exact exec_load_addr rfl (HB1.out.below hy HB1.out.lt) HD.out | exact exec_load_addr rfl (HBX.out.below hy HBX.out.lt) HP.out | (go_simp; try rfl)) ?_; simp only [Act.put, List.setIfInBounds_toArray, List.set_cons_zero, List.set_cons_succ])
  refine walkP_act rfl (by rfl) (fun K hK => ?_)
  go_simp
  refine (adlives_any wq8 HL.out).mono ?_
  rintro e wq9 ⟨rfl, hl⟩
  go_simp
  refine hK _ _ hl ?_
  clear hK K
  replace hL := hL.trans hl
  replace HL := Lib.hid (HL.out.low hl)
  replace HB0 := Lib.hid (HB0.out.below hl HB0.out.lt)
  replace HB1 := Lib.hid (HB1.out.below hl HB1.out.lt)
  replace HBX := Lib.hid (HBX.out.below hl HBX.out.lt)
  clear hl
  iterate 2 (refine walkP_read (v := _) rfl (by rfl) (by intro y hy; first | exact exec_load_addr rfl (HB0.out.below hy HB0.out.lt) HS.out | exact exec_load_addr rfl (HB1.out.below hy HB1.out.lt) HD.out | exact exec_load_addr rfl (HBX.out.below hy HBX.out.lt) HP.out | (go_simp; try rfl)) ?_; simp only [Act.put, List.setIfInBounds_toArray, List.set_cons_zero, List.set_cons_succ])
  unfold walkP
  go_wp2
  go_ret
  exact ⟨rfl, hL⟩
end Go.Proofs.YtcdeabiellefcaaDoor
