/- The walk of harrierlaw07.TcpParses: it answers true. Condition: at most 2^47 bytes. -/
import Derived.Test.YtkbgfddicpnbmaaTcN
import Derived.Test.YtkbgfddicpnbmaaTcO
import Derived.Test.YtkbgfddicpnbmaaTcP
import Derived.Test.YtkbgfddicpnbmaaTcQ
import Derived.Test.YtkbgfddicpnbmaaCkF
import Derived.Test.YtkbgfddicpnbmaaCkG
namespace Go.Proofs.Ytkbgfddicpnbmaa
open Go.RowKit
set_option linter.unusedVariables false

set_option maxRecDepth 100000 in
set_option maxHeartbeats 3200000 in
theorem tcp_parses_walk (s d : List Int) (A : Option Addr) (n c : Nat) (xs : List Int) (w : World) (hs : s.length = 16) (hd : d.length = 16) (vs : AllB s) (vd : AllB d) (hn : n ≤ 140737488351232) (hc : n ≤ c) (hc2 : c ≤ 9223372036854775807) (hb : Bs w w.heap.size A n xs) :
    Calls Try.prog 4 #[.agg (cellsB (s ++ d)).toArray, .slice A n c] w fun e w' => e = .returned (.bool true) ∧ Below w.heap.size w w' := by
  have HS := Lib.hid hs
  have HD := Lib.hid hd
  have VS := Lib.hid vs
  have VD := Lib.hid vd
  have HE := Lib.hid (Blk.new w 36 (s ++ d))
  have hL := Low.alloc w (.cells (cellsB (s ++ d)).toArray 36)
  have HB := Lib.hid (hb.below' hL hL.size)
  clear hs hd vs vd hb
  by_cases h70 : 70000 < n
  · clear HB HE
    go_enter Try.func4, Try.ntmps4
    go_wp2_with fail
    generalize w.alloc (.cells (cellsB (s ++ d)).toArray 36) = w1 at *
    refine (tclives_any w1).mono ?_
    rintro e w3 ⟨rfl, hB3⟩
    replace hL := hL.trans hB3
    clear hB3
    go_wp2_with fail
    go_ret
    exact ⟨rfl, hL⟩
  · go_enter Try.func4, Try.ntmps4
    go_wp2_with fail
    generalize w.alloc (.cells (cellsB (s ++ d)).toArray 36) = w1 at *
    refine (tcparse_any A n c xs w1 hn hc hc2 HB.out).mono ?_
    rintro e w2 ⟨t2, rfl, hv2, hk2, hB2⟩
    replace HE := Lib.hid (HE.out.below hB2 HE.out.lt)
    replace HB := Lib.hid (HB.out.below' hB2 hB2.size)
    replace hL := hL.trans hB2
    have HV2 := Lib.hid hv2
    have HK2 := Lib.hid hk2
    clear hB2 hv2 hk2
    unfold segV
    obtain ⟨r, hr⟩ : ∃ r, r = parseS xs := ⟨_, rfl⟩
    rw [← hr] at HV2 ⊢
    have HR := Lib.hid hr
    clear hr
    go_wp2_with ((with_reducible refine wpList_alloc_seg rfl rfl ?_); intro w3 HZ3 hl3 hz3; refine Hid.out ?_)
    refine Lib.hid ?_
    replace HZ3 := Lib.hid HZ3
    have hltE := HE.out.lt
    replace HE := Lib.hid (HE.out.below hl3 HE.out.lt)
    replace HB := Lib.hid (HB.out.below' hl3 (Nat.le_refl _))
    replace HK2 := Lib.hid (HK2.out.below' hl3 (Nat.le_refl _))
    go_wp2_with ((refine wpList_store_seg rfl (.tmp 5) (.tmp 16) rfl w2.heap.size rfl t2 rfl zeroS HZ3.out ?_); intro w4 HG hb4 hz4; refine Hid.out ?_)
    refine Lib.hid ?_
    replace HE := Lib.hid (HE.out.below hb4 hltE)
    replace HB := Lib.hid (HB.out.below' hb4 (show w2.heap.size ≤ w4.heap.size by omega))
    replace HK2 := Lib.hid (HK2.out.below' hb4 (show w2.heap.size ≤ w4.heap.size by omega))
    replace HG := Lib.hid HG
    replace hL : Low w w4 := Below.trans hL ((Below.trans hl3 hb4).mono hL.size)
    clear HZ3 hl3 hb4 hz3 hz4 hltE
    go_wp2_with fail
    refine (trcparse_any A n c xs w4 hn hc hc2 HB.out).mono ?_
    rintro e w5 ⟨t5, rfl, hv5, hk5, hB5⟩
    rw [← HR.out] at hv5 ⊢
    replace HE := Lib.hid (HE.out.below hB5 HE.out.lt)
    replace HB := Lib.hid (HB.out.below' hB5 hB5.size)
    replace HK2 := Lib.hid (HK2.out.low hB5)
    replace HG := Lib.hid (HG.out.below hB5 HG.out.lt)
    replace hL := hL.trans hB5
    have HK5 := Lib.hid hk5
    have HEQ := Lib.hid (HV2.out.trans hv5.symm)
    clear hB5 hv5 hk5 HV2 HR
    unfold segV
    go_wp2_with ((with_reducible refine wpList_alloc_seg rfl rfl ?_); intro w6 HZ6 hl6 hz6; refine Hid.out ?_)
    refine Lib.hid ?_
    replace HZ6 := Lib.hid HZ6
    have hltE := HE.out.lt
    have hltG := HG.out.lt
    replace HE := Lib.hid (HE.out.below hl6 HE.out.lt)
    replace HG := Lib.hid (HG.out.below hl6 HG.out.lt)
    replace HB := Lib.hid (HB.out.below' hl6 (Nat.le_refl _))
    replace HK2 := Lib.hid (HK2.out.below' hl6 (Nat.le_refl _))
    replace HK5 := Lib.hid (HK5.out.below' hl6 (Nat.le_refl _))
    go_wp2_with ((refine wpList_store_seg rfl (.tmp 7) (.tmp 21) rfl w5.heap.size rfl t5 rfl zeroS HZ6.out ?_); intro w7 HH hb7 hz7; refine Hid.out ?_)
    refine Lib.hid ?_
    replace HE := Lib.hid (HE.out.below hb7 hltE)
    replace HG := Lib.hid (HG.out.below hb7 hltG)
    replace HB := Lib.hid (HB.out.below' hb7 (show w5.heap.size ≤ w7.heap.size by omega))
    replace HK2 := Lib.hid (HK2.out.below' hb7 (show w5.heap.size ≤ w7.heap.size by omega))
    replace HK5 := Lib.hid (HK5.out.below' hb7 (show w5.heap.size ≤ w7.heap.size by omega))
    replace HH := Lib.hid HH
    replace hL : Low w w7 := Below.trans hL ((Below.trans hl6 hb7).mono hL.size)
    clear HZ6 hl6 hb7 hz6 hz7 hltE hltG
    generalize r.2 = er at *
    go_wp2_with fail
    refine wp_region_plan (.rd 0 (.rd 1 (.act 2 (.rd 3 (.rd 4 (.rd 5 (.rd 6 (.rd 7 (.rd 8 (.rd 9 (.rd 10 (.rd 11 (.rd 12 (.rd 13 (.rd 15 (.rd 16 (.rd 17 (.rd 18 (.rd 19 (.act 14 (.act 20 (.rd 21 (.rd 22 (.rd 23 (.act 24 (.rd 25 (.rd 26 (.done)))))))))))))))))))))))))))) (by kernel_rfl) (by kernel_rfl) (fun _ _ d _ _ h => by cases d <;> exact h) (by kernel_rfl) ?_
    replace hL := hL.trans (Below.drew (Below.refl w7.heap.size w7))
    replace HE : Hid (Blk w7.drew 36 w.heap.size (s ++ d)) := HE
    replace HG := Lib.hid HG.out.drew
    replace HH := Lib.hid HH.out.drew
    replace HB : Hid (Bs w7.drew w7.drew.heap.size A n xs) := Lib.hid HB.out.drew
    replace HK2 := Lib.hid (HK2.out.low (Below.drew (Below.refl w7.heap.size w7)))
    replace HK5 := Lib.hid (HK5.out.low (Below.drew (Below.refl w7.heap.size w7)))
    generalize w7.drew = w8 at *
    iterate 2 (refine walkP_read (v := _) rfl (by rfl) (by intro y hy; first | exact exec_load_seg rfl (HG.out.below hy HG.out.lt) | exact exec_load_seg rfl (HH.out.below hy HH.out.lt)) ?_; simp only [Act.put, List.setIfInBounds_toArray, List.set_cons_zero, List.set_cons_succ])
    refine walkP_act rfl (by rfl) (fun K hK => ?_)
    go_simp
    refine (tcsame_eq t2 t5 w8 HK2.out HK5.out HEQ.out).mono ?_
    rintro e w9 ⟨rfl, hl⟩
    go_simp
    refine hK _ _ hl ?_
    clear hK K
    replace hl : Low w8 w9 := hl
    replace HE := Lib.hid (HE.out.below hl HE.out.lt)
    replace HB := Lib.hid (HB.out.below' hl hl.size)
    replace hL := hL.trans hl
    clear hl HG HH HK2 HK5 HEQ
    iterate 16 (refine walkP_read (v := _) rfl (by rfl) (by intro y hy; first | exact exec_half1 rfl (HE.out.below hy HE.out.lt) HS.out | exact exec_half2 rfl (HE.out.below hy HE.out.lt) HS.out HD.out | (go_simp; try rfl)) ?_; simp only [Act.put, List.setIfInBounds_toArray, List.set_cons_zero, List.set_cons_succ])
    refine walkP_act rfl (by rfl) (fun K hK => ?_)
    go_simp
    refine (tcfine_any s d A n c xs w9 HS.out HD.out VS.out VD.out (by omega) HB.out).mono ?_
    rintro e w10 ⟨rfl, hl⟩
    go_simp
    refine hK _ _ hl ?_
    clear hK K
    replace hl : Low w9 w10 := hl
    replace HB := Lib.hid (HB.out.below' hl hl.size)
    replace hL := hL.trans hl
    clear hl
    refine walkP_act rfl (by rfl) (fun K hK => ?_)
    go_simp
    refine (rfine_any s d 6 A n c xs w10 HS.out HD.out VS.out VD.out (by unfold i64ok; omega) (by omega) HB.out).mono ?_
    rintro e w11 ⟨rfl, hl⟩
    go_simp
    refine hK _ _ hl ?_
    clear hK K
    replace hL := hL.trans hl
    clear hl HE HB
    generalize fineB s d 6 xs = z at *
    iterate 3 (refine walkP_read (v := _) rfl (by rfl) (by intro y hy; go_simp; try rfl) ?_; simp only [Act.put, List.setIfInBounds_toArray, List.set_cons_zero, List.set_cons_succ])
    refine walkP_act rfl (by rfl) (fun K hK => ?_)
    go_simp
    refine (tclives_any w11).mono ?_
    rintro e w12 ⟨rfl, hl⟩
    go_simp
    refine hK _ _ hl ?_
    clear hK K
    replace hL := hL.trans hl
    clear hl
    iterate 2 (refine walkP_read (v := _) rfl (by rfl) (by intro y hy; go_simp; try rfl) ?_; simp only [Act.put, List.setIfInBounds_toArray, List.set_cons_zero, List.set_cons_succ])
    unfold walkP
    go_wp2
    go_ret
    exact ⟨rfl, hL⟩
end Go.Proofs.Ytkbgfddicpnbmaa
