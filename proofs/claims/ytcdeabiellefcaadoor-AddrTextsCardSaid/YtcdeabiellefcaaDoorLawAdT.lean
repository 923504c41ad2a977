/- The law AddrTexts answers true for any address and any numbers. Condition: the library's variables hold what its text lays. -/
import Derived.Test.YtcdeabiellefcaaDoorLawAdR
namespace Go.Proofs.YtcdeabiellefcaaDoor
open Go.RowKit
set_option linter.unusedVariables false

theorem eq_words (s d : List Int) (hs : s.length = 8) (hd : d.length = 8) (w : World) :
    (Op.equalIn 10000 27 (.agg (cellsN s).toArray) (.agg (cellsN d).toArray)).run Tryd.prog w = .ok (s == d) w := by
  obtain ⟨i, hi, hz⟩ := info_sized size_int
  exact run_equalIn_ints w .i64 9998 27 3 8 i Tryd.underlying27 Tryd.underlying3 hi hz s d hs hd

set_option maxHeartbeats 6400000 in
set_option maxRecDepth 100000 in
theorem adt_walk (s : List Int) (A : Option Addr) (m c : Nat) (xs : List Int) (w : World) (hs : s.length = 16) (vs : AllB s) (hc : m ≤ c) (hc2 : c ≤ 9223372036854775807) (hb : Ns w w.heap.size A m xs) (h : Libs w) :
    Calls Tryd.prog 3 #[addrV s, .slice A m c] w fun e w' => e = .returned (.bool true) ∧ Below w.heap.size w w' := by
  unfold addrV
  have HS := Lib.hid hs
  have HB0 := Lib.hid (Blk.new w 23 s)
  have hL := low1 w s 23
  have HL := Lib.hid (h.low hL)
  replace hb := hb.below' hL hL.size
  clear hs h
  by_cases h20 : 20 < m
  · go_enter Tryd.func3, Tryd.ntmps3
    go_wp2_with fail
    refine (adlives_any _ HL.out).mono ?_
    rintro e w1 ⟨rfl, hl⟩
    go_wp2_with fail
    go_ret
    exact ⟨rfl, hL.trans hl⟩
  · go_enter Tryd.func3, Tryd.ntmps3
    go_wp2_with fail
    generalize w.alloc (.cells (cellsB s).toArray 23) = w0 at *
    generalize hG : w.heap.size = G at HB0 ⊢
    refine wp_region_plan (.rd 0 (.rd 2 (.act 1 (.act 3 (.rd 4 (.rd 5 (.rd 6 (.rd 8 (.act 7 (.act 9 (.rd 10 (.rd 11 (.rd 12 (.rd 13 (.rd 15 (.act 14 (.act 16 (.rd 17 (.rd 18 (.rd 19 (.act 20 (.rd 21 (.rd 22 .done)))))))))))))))))))))))
      (by kernel_rfl) (by kernel_rfl) (fun _ _ d _ _ h => by cases d <;> exact h) (by kernel_rfl) ?_
    have hDR : Low w0 w0.drew := Below.drew (Below.refl _ _)
    replace hL := hL.trans hDR
    replace HL := Lib.hid (HL.out.low hDR)
    replace HB0 := Lib.hid (HB0.out.below hDR HB0.out.lt)
    replace hb := hb.below' hDR hDR.size
    clear hDR
    generalize w0.drew = wq0 at *
    iterate 2 (refine walkP_read (v := _) rfl (by rfl) (by intro y hy; first | exact exec_load_addr rfl (HB0.out.below hy HB0.out.lt) HS.out | (go_simp; try rfl)) ?_; simp only [Act.put, List.setIfInBounds_toArray, List.set_cons_zero, List.set_cons_succ])
    refine walkP_act rfl (by rfl) (fun K hK => ?_)
    go_simp
    refine (text_any s wq0 HS.out vs HL.out).mono ?_
    rintro e wq1 ⟨rfl, hl⟩
    go_simp
    refine hK _ _ hl ?_
    clear hK K
    replace hL := hL.trans hl
    replace hb := hb.below' hl hl.size
    replace HL := Lib.hid (HL.out.low hl)
    replace HB0 := Lib.hid (HB0.out.below hl HB0.out.lt)
    clear hl
    refine walkP_act rfl (by rfl) (fun K hK => ?_)
    go_simp
    refine (rtext_any s wq1 HS.out vs).mono ?_
    rintro e wq2 ⟨rfl, hl⟩
    rw [← text_same s]
    go_simp
    refine hK _ _ hl ?_
    clear hK K
    replace hL := hL.trans hl
    replace hb := hb.below' hl hl.size
    replace HL := Lib.hid (HL.out.low hl)
    replace HB0 := Lib.hid (HB0.out.below hl HB0.out.lt)
    clear hl
    iterate 4 (refine walkP_read (v := _) rfl (by rfl) (by intro y hy; first | exact exec_load_addr rfl (HB0.out.below hy HB0.out.lt) HS.out | (go_simp; try rfl)) ?_; simp only [Act.put, List.setIfInBounds_toArray, List.set_cons_zero, List.set_cons_succ])
    refine walkP_act rfl (by rfl) (fun K hK => ?_)
    go_simp
    refine (words_any s wq2 HS.out vs).mono ?_
    rintro e wq3 ⟨rfl, hl⟩
    unfold wordsV
    go_simp
    refine hK _ _ hl ?_
    clear hK K
    replace hL := hL.trans hl
    replace hb := hb.below' hl hl.size
    replace HL := Lib.hid (HL.out.low hl)
    replace HB0 := Lib.hid (HB0.out.below hl HB0.out.lt)
    clear hl
    refine walkP_act rfl (by rfl) (fun K hK => ?_)
    go_simp
    refine (rwords_any s wq3 HS.out vs).mono ?_
    rintro e wq4 ⟨rfl, hl⟩
    unfold wordsV
    go_simp
    refine hK _ _ hl ?_
    clear hK K
    replace hL := hL.trans hl
    replace hb := hb.below' hl hl.size
    replace HL := Lib.hid (HL.out.low hl)
    replace HB0 := Lib.hid (HB0.out.below hl HB0.out.lt)
    clear hl
    have he1 := eq_words (wordsL s) (wordsL s) (wordsL_length s) (wordsL_length s)
    iterate 5 (refine walkP_read (v := _) rfl (by rfl) (by intro y hy; first | exact exec_load_addr rfl (HB0.out.below hy HB0.out.lt) HS.out | (go_simp; try rfl)) ?_; simp only [Act.put, List.setIfInBounds_toArray, List.set_cons_zero, List.set_cons_succ])
    refine walkP_act rfl (by rfl) (fun K hK => ?_)
    go_simp
    refine (of_any A m c xs wq4 hc hc2 hb).mono ?_
    rintro e wq5 ⟨rfl, hl⟩
    unfold addrV
    go_simp
    refine hK _ _ hl ?_
    clear hK K
    replace hL := hL.trans hl
    replace hb := hb.below' hl hl.size
    replace HL := Lib.hid (HL.out.low hl)
    replace HB0 := Lib.hid (HB0.out.below hl HB0.out.lt)
    clear hl
    refine walkP_act rfl (by rfl) (fun K hK => ?_)
    go_simp
    refine (rof_any A m c xs wq5 (by omega) hb).mono ?_
    rintro e wq6 ⟨rfl, hl⟩
    unfold addrV
    go_simp
    refine hK _ _ hl ?_
    clear hK K
    replace hL := hL.trans hl
    replace hb := hb.below' hl hl.size
    replace HL := Lib.hid (HL.out.low hl)
    replace HB0 := Lib.hid (HB0.out.below hl HB0.out.lt)
    clear hl
    have he2 := eq_addr (ofL xs) (ofL xs) (ofL_length xs) (ofL_length xs)
    iterate 3 (refine walkP_read (v := _) rfl (by rfl) (by intro y hy; first | exact exec_load_addr rfl (HB0.out.below hy HB0.out.lt) HS.out | (go_simp; try rfl)) ?_; simp only [Act.put, List.setIfInBounds_toArray, List.set_cons_zero, List.set_cons_succ])
    refine walkP_act rfl (by rfl) (fun K hK => ?_)
    go_simp
    refine (adlives_any wq6 HL.out).mono ?_
    rintro e wq7 ⟨rfl, hl⟩
    go_simp
    refine hK _ _ hl ?_
    clear hK K
    replace hL := hL.trans hl
    replace hb := hb.below' hl hl.size
    replace HL := Lib.hid (HL.out.low hl)
    replace HB0 := Lib.hid (HB0.out.below hl HB0.out.lt)
    clear hl
    iterate 2 (refine walkP_read (v := _) rfl (by rfl) (by intro y hy; first | exact exec_load_addr rfl (HB0.out.below hy HB0.out.lt) HS.out | (go_simp; try rfl)) ?_; simp only [Act.put, List.setIfInBounds_toArray, List.set_cons_zero, List.set_cons_succ])
    unfold walkP
    go_wp2
    go_ret
    exact ⟨rfl, hL⟩
end Go.Proofs.YtcdeabiellefcaaDoor
