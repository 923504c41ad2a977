/- The walk of PermTells, given what the program's own four functions tell. Conditions: node and size are ints. -/
import Derived.Test.YtnkjijibmblaoaaPmC
import Derived.BigQuiet
set_option maxRecDepth 100000
namespace Go.Proofs.Ytnkjijibmblaoaa
open Go.RowKit
set_option linter.unusedVariables false

theorem offQ_first {a b node m : Int} (h : tableB m = true) : offQ a b node m = (ordP a b node m).getD 0 0 := by
  have h2 := of_decide_eq_true h
  rw [ordP_get h (by omega), atP_zero _ _ _ _ (by omega)]
  unfold offQ
  rw [h]
  rfl
theorem skipQ_next {a b node m : Int} (h : tableB m = true) : ((ordP a b node m).getD 0 0 + skipQ a b node m) % m = (ordP a b node m).getD 1 0 := by
  have h2 := of_decide_eq_true h
  rw [ordP_get h (by omega), ordP_get h (by omega), atP_succ]
  unfold skipQ
  rw [h]
  show ((atP a b node m.toNat 0 : Int) + (skipP a b node m.toNat : Int)) % m = _
  rw [Int.natCast_emod, Int.natCast_add, Int.toNat_of_nonneg (by omega)]
theorem skipQ_range {a b node m : Int} (h : tableB m = true) : 1 ≤ skipQ a b node m ∧ skipQ a b node m < m := by
  have h2 := of_decide_eq_true h
  have h3 := skipP_range a b node m.toNat (by omega)
  unfold skipQ
  rw [h]
  show 1 ≤ (skipP a b node m.toNat : Int) ∧ (skipP a b node m.toNat : Int) < m
  omega
theorem ordP_range {a b node m : Int} (h : tableB m = true) {i : Nat} (hi : i < m.toNat) : 0 ≤ (ordP a b node m).getD i 0 ∧ (ordP a b node m).getD i 0 < m := by
  have h2 := of_decide_eq_true h
  have h3 := atP_range a b node m.toNat i (by omega)
  rw [ordP_get h hi]
  omega

set_option maxHeartbeats 3200000 in
set_option maxRecDepth 100000 in
theorem pmt_walk (HP : PmPrimes) (HF : PmOffsets) (HS : PmSkips) (HO : PmOrders) (a b node m : Int) (w : World) (hn : i64ok node) (hm : i64ok m) :
    Calls Try.prog 3 #[keyV a b, .int .i64 node, .int .i64 m] w fun e w' => e = .returned (.bool true) ∧ Low w w' := by
  unfold keyV
  have HML := Lib.hid fun u => pmlives_any HP HS HO u
  have HFF := Lib.hid fun u => HF a b node m u hn hm
  have HSS := Lib.hid fun u => HS a b node m u hn hm
  have HOO := Lib.hid fun u => HO a b node m u hn hm
  have HRO := Lib.hid fun u => rorder_any a b node m u hm
  have HLS := Lib.hid (ordP_small a b node m)
  clear HP HF HS HO
  go_enter Try.func3, Try.ntmps3
  go_wp2_with ((with_reducible refine wpList_box_v rfl _ (.tmp 0) rfl (keyC a b) rfl ?_); intro w1 HK hL hz1; refine Hid.out ?_)
  refine Lib.hid ?_
  have c0 := key_a HK
  have c1 := key_b HK
  replace HK := Lib.hid HK
  replace hL := Lib.hid hL
  go_wp2_with fail
  refine (HRO.out w1).mono ?_
  rintro e w2 ⟨A7, c7, rfl, hc7, hN7, _, hl⟩
  replace HK := Lib.hid (HK.out.below hl HK.out.lt)
  replace hL := Lib.hid (hL.out.trans hl)
  have HN7 := Lib.hid hN7
  clear hl hN7 c0 c1 hz1 HRO
  go_wp2_with ((refine wpList_load_v rfl 24 (.tmp 3) rfl w.heap.size rfl _ (keyC a b) HK.out _ Try.underlying24 rfl key_size ?_); refine Hid.out ?_)
  refine Lib.hid ?_
  go_wp2_with fail
  refine (HOO.out w2).mono ?_
  rintro e w3 ⟨A8, c8, rfl, hc8, hN8, _, hl⟩
  replace HK := Lib.hid (HK.out.below hl HK.out.lt)
  replace hL := Lib.hid (hL.out.trans hl)
  replace HN7 := Lib.hid (HN7.out.below' hl hl.size)
  have HN8 := Lib.hid hN8
  clear hl hN8 HOO
  obtain ⟨n, hnn⟩ : ∃ n, n = (ordP a b node m).length := ⟨_, rfl⟩
  rw [← hnn] at HN7 HN8 HLS ⊢
  have hn1000 := HLS.out
  replace hnn := Lib.hid hnn
  clear HLS hc7 hc8
  go_wp2_with fail
  go_loopw [9] (fun v wr => ∃ k : Nat, k ≤ n ∧ v = .int .i64 k ∧ Hid (Ns wr w3.heap.size A7 n (ordP a b node m)) ∧ Hid (Ns wr w3.heap.size A8 n (ordP a b node m)) ∧ Hid (BlkV wr 24 w.heap.size (keyC a b)) ∧ Hid (w3.heap.size ≤ wr.heap.size) ∧ Hid (Low w wr)) (fun v _ => n - (intOf v).toNat)
  case atStart => exact ⟨0, by omega, rfl, HN7, HN8, HK, Lib.hid (Nat.le_refl _), hL⟩
  case round =>
    clear HN7 HN8 HK hL
    obtain ⟨k, hk, rfl, HN7, HN8, HK, HSZ, hL⟩ := hrel
    by_cases hlt : k < n
    · obtain ⟨b7, o7, rfl, _, h7⟩ := HN7.out.at_ hlt
      obtain ⟨b8, o8, rfl, _, h8⟩ := HN8.out.at_ hlt
      have d7 := h7 k hlt
      have d8 := h8 k hlt
      clear h7 h8
      generalize (ordP a b node m).getD k 0 = x at d7 d8
      have hxx : (x != x) = false := by simp
      go_wp2_with fail
      go_quiet (fail)
      go_wp2_with fail
      go_roundw
      case rel => exact ⟨k + 1, by omega, by go_num, Lib.hid (HN7.out.drewN _), Lib.hid (HN8.out.drewN _), Lib.hid HK.out, Lib.hid HSZ.out, Lib.hid (below_drewN hL.out _)⟩
      case measure => simp [intOf]; omega
    · obtain rfl : k = n := by omega
      by_cases hT : tableB m = true
      · have h2 := of_decide_eq_true hT
        have hkm : (k : Int) = m := by rw [hnn.out, ordP_len hT]; omega
        obtain ⟨b8, o8, rfl, hb8, h8⟩ := HN8.out.mem (by omega)
        have HE0 := Lib.hid (offQ_first (a := a) (b := b) (node := node) hT)
        have HE1 := Lib.hid (skipQ_next (a := a) (b := b) (node := node) hT)
        have HRS := Lib.hid (skipQ_range (a := a) (b := b) (node := node) hT)
        have HR0 := Lib.hid (ordP_range (a := a) (b := b) (node := node) hT (i := 0) (by omega))
        have C0 := Lib.hid (show wr.cell? ⟨b8, o8, none⟩ = _ from h8 0 (by omega))
        have C1 := Lib.hid (h8 1 (by omega))
        have hsz := HSZ.out
        generalize skipQ a b node m = s at *
        generalize offQ a b node m = x at *
        generalize (ordP a b node m).getD 0 0 = y at *
        generalize (ordP a b node m).getD 1 0 = z at *
        clear h8 HN8 HN7 hnn
        obtain rfl := HE0.out
        have hk2 : 2 ≤ k := by omega
        have hkz : ¬ (k : Int) = 0 := by omega
        have hw1 : IntKind.i64.wrap (x + s) = x + s := by rw [IntKind.wrap_i64]; have h5 := HRS.out; have h6 := HR0.out; omega
        have hw2 : (x + s).tmod m = z := by rw [Int.tmod_eq_emod_of_nonneg (by have h5 := HRS.out; have h6 := HR0.out; omega)]; exact HE1.out
        have hw3 : ¬ m = 0 := by omega
        have hm0 : 0 < m := by omega
        have hm1 : 1 < m := by omega
        have hw4 : 1 ≤ s := HRS.out.1
        have hw5 : s < m := HRS.out.2
        have H2 := Lib.hid h2
        clear h2 HE1 HRS HR0 HE0
        go_wp2_with fail
        refine wp_region_planS (fun u => BlkV u 24 w.heap.size (keyC a b) ∧ u.cell? ⟨b8, o8, none⟩ = some (.int .i64 x) ∧ u.cell? ⟨b8, o8 + 1, none⟩ = some (.int .i64 z))
          (.rd 0 (.rd 1 (.rd 2 (.rd 4 (.rd 5 (.rd 6 (.act 3 (.rd 7 (.rd 8 (.rd 9 (.rd 10 (.rd 11 (.rd 12 (.rd 13 (.rd 14 (.rd 17 (.rd 19 (.rd 20 (.rd 21 (.act 15 (.rd 16 (.rd 18 (.rd 22 (.rd 23 (.rd 24 (.rd 25 (.rd 26 (.rd 27 (.act 28 (.rd 29 (.rd 30 (.rd 31 (.rd 32 (.rd 33 (.rd 34 (.rd 36 (.act 35 (.rd 37 (.rd 38 (.rd 39 (.act 40 (.rd 41 (.rd 42 (.done))))))))))))))))))))))))))))))))))))))))))))
          (by kernel_rfl) (by kernel_rfl) (fun _ _ d _ _ h => by cases d <;> exact h) (by kernel_rfl) ⟨HK.out, C0.out, C1.out⟩ ?_
        have HSS2 := Lib.hid (show BlkV wr.drew 24 w.heap.size (keyC a b) ∧ wr.drew.cell? ⟨b8, o8, none⟩ = some (.int .i64 x) ∧ wr.drew.cell? ⟨b8, o8 + 1, none⟩ = some (.int .i64 z) ∧ b8 < wr.drew.heap.size from ⟨HK.out, C0.out, C1.out, Nat.lt_of_lt_of_le hb8 hsz⟩)
        have HLW := Lib.hid (show ∀ (u u' : World), (BlkV u 24 w.heap.size (keyC a b) ∧ u.cell? ⟨b8, o8, none⟩ = some (.int .i64 x) ∧ u.cell? ⟨b8, o8 + 1, none⟩ = some (.int .i64 z) ∧ b8 < u.heap.size) → Low u u' →
            (BlkV u' 24 w.heap.size (keyC a b) ∧ u'.cell? ⟨b8, o8, none⟩ = some (.int .i64 x) ∧ u'.cell? ⟨b8, o8 + 1, none⟩ = some (.int .i64 z) ∧ b8 < u'.heap.size) from fun u u' h l =>
          ⟨h.1.below l h.1.lt, (l.cell (p := ⟨b8, o8, none⟩) h.2.2.2).trans h.2.1, (l.cell (p := ⟨b8, o8 + 1, none⟩) h.2.2.2).trans h.2.2.1, Nat.lt_of_lt_of_le h.2.2.2 l.size⟩)
        have hL2 : Hid (Low w wr.drew) := Lib.hid (Below.drew hL.out)
        clear HK hL C0 C1 hb8 hsz HSZ
        generalize wr.drew = w4 at *
        iterate 6 (refine walkS_read (v := _) rfl (by rfl) (by intro u hu; first | exact exec_load_v rfl hu.1 _ Try.underlying24 rfl key_size | (have e0 := hu.2.1; have e1 := hu.2.2; clear hu; go_simp; try rfl)) ?_; simp only [Act.put, List.setIfInBounds_toArray, List.set_cons_zero, List.set_cons_succ])
        refine walkS_act rfl (by rfl) (fun K hK => ?_)
        go_simp
        refine (HFF.out w4).mono ?_
        rintro e w5 ⟨rfl, hl⟩
        replace HSS2 := Lib.hid (HLW.out _ _ HSS2.out hl)
        go_simp
        refine hK _ _ ⟨HSS2.out.1, HSS2.out.2.1, HSS2.out.2.2.1⟩ ?_
        clear hK K
        replace hL2 := Lib.hid (hL2.out.trans hl)
        clear hl
        iterate 12 (refine walkS_read (v := _) rfl (by rfl) (by intro u hu; first | exact exec_load_v rfl hu.1 _ Try.underlying24 rfl key_size | (have e0 := hu.2.1; have e1 := hu.2.2; clear hu; go_simp; try rfl)) ?_; simp only [Act.put, List.setIfInBounds_toArray, List.set_cons_zero, List.set_cons_succ])
        refine walkS_act rfl (by rfl) (fun K hK => ?_)
        go_simp
        refine (HSS.out w5).mono ?_
        rintro e w6 ⟨rfl, hl⟩
        replace HSS2 := Lib.hid (HLW.out _ _ HSS2.out hl)
        go_simp
        refine hK _ _ ⟨HSS2.out.1, HSS2.out.2.1, HSS2.out.2.2.1⟩ ?_
        clear hK K
        replace hL2 := Lib.hid (hL2.out.trans hl)
        clear hl
        refine walkS_read (v := .int .i64 (x + s)) rfl (by rfl) (by intro u hu; go_simp; try rfl) ?_; simp only [Act.put, List.setIfInBounds_toArray, List.set_cons_zero, List.set_cons_succ]
        refine walkS_read (v := .int .i64 z) rfl (by rfl) (by intro u hu; go_simp; try rfl) ?_; simp only [Act.put, List.setIfInBounds_toArray, List.set_cons_zero, List.set_cons_succ]
        iterate 6 (refine walkS_read (v := _) rfl (by rfl) (by intro u hu; first | exact exec_load_v rfl hu.1 _ Try.underlying24 rfl key_size | (clear hu; go_simp; try rfl)) ?_; simp only [Act.put, List.setIfInBounds_toArray, List.set_cons_zero, List.set_cons_succ])
        refine walkS_act rfl (by rfl) (fun K hK => ?_)
        go_simp
        refine (HSS.out w6).mono ?_
        rintro e w7 ⟨rfl, hl⟩
        replace HSS2 := Lib.hid (HLW.out _ _ HSS2.out hl)
        go_simp
        refine hK _ _ ⟨HSS2.out.1, HSS2.out.2.1, HSS2.out.2.2.1⟩ ?_
        clear hK K
        replace hL2 := Lib.hid (hL2.out.trans hl)
        clear hl
        iterate 7 (refine walkS_read (v := _) rfl (by rfl) (by intro u hu; first | exact exec_load_v rfl hu.1 _ Try.underlying24 rfl key_size | (clear hu; go_simp; try rfl)) ?_; simp only [Act.put, List.setIfInBounds_toArray, List.set_cons_zero, List.set_cons_succ])
        refine walkS_act rfl (by rfl) (fun K hK => ?_)
        go_simp
        refine (HSS.out w7).mono ?_
        rintro e w8 ⟨rfl, hl⟩
        replace HSS2 := Lib.hid (HLW.out _ _ HSS2.out hl)
        go_simp
        refine hK _ _ ⟨HSS2.out.1, HSS2.out.2.1, HSS2.out.2.2.1⟩ ?_
        clear hK K
        replace hL2 := Lib.hid (hL2.out.trans hl)
        clear hl
        iterate 3 (refine walkS_read (v := _) rfl (by rfl) (by intro u hu; clear hu; go_simp; try rfl) ?_; simp only [Act.put, List.setIfInBounds_toArray, List.set_cons_zero, List.set_cons_succ])
        refine walkS_act rfl (by rfl) (fun K hK => ?_)
        go_simp
        refine (HML.out w8).mono ?_
        rintro e w9 ⟨rfl, hl⟩
        replace HSS2 := Lib.hid (HLW.out _ _ HSS2.out hl)
        go_simp
        refine hK _ _ ⟨HSS2.out.1, HSS2.out.2.1, HSS2.out.2.2.1⟩ ?_
        clear hK K
        replace hL2 := Lib.hid (hL2.out.trans hl)
        clear hl
        iterate 2 (refine walkS_read (v := _) rfl (by rfl) (by intro u hu; clear hu; go_simp; try rfl) ?_; simp only [Act.put, List.setIfInBounds_toArray, List.set_cons_zero, List.set_cons_succ])
        unfold walkS
        go_wp2_with fail
        go_ret
        exact ⟨rfl, hL2.out⟩
      · have hT2 : tableB m = false := by simpa using hT
        have hk0 : k = 0 := by rw [hnn.out, ordP_none hT2]; rfl
        have HE0 := Lib.hid (show offQ a b node m = 0 by unfold offQ; rw [hT2]; rfl)
        have HE1 := Lib.hid (show skipQ a b node m = 0 by unfold skipQ; rw [hT2]; rfl)
        rw [HE0.out] at HFF
        rw [HE1.out] at HSS
        subst hk0
        go_wp2_with ((refine wpList_load_v rfl 24 (.tmp 3) rfl w.heap.size rfl _ (keyC a b) HK.out _ Try.underlying24 rfl key_size ?_); refine Hid.out ?_)
        refine Lib.hid ?_
        go_wp2_with fail
        refine (HFF.out wr).mono ?_
        rintro e w4 ⟨rfl, hl⟩
        replace HK := Lib.hid (HK.out.below hl HK.out.lt)
        replace hL := Lib.hid (hL.out.trans hl)
        clear hl
        go_wp2_with ((refine wpList_load_v_g (by rfl) 24 (.tmp 3) rfl w.heap.size rfl _ (keyC a b) HK.out _ Try.underlying24 rfl key_size ?_); refine Hid.out ?_)
        refine Lib.hid ?_
        go_wp2_with fail
        refine (HSS.out w4).mono ?_
        rintro e w5 ⟨rfl, hl⟩
        replace hL := Lib.hid (hL.out.trans hl)
        clear hl
        go_wp2_with fail
        refine (HML.out w5).mono ?_
        rintro e w6 ⟨rfl, hl⟩
        replace hL := Lib.hid (hL.out.trans hl)
        clear hl
        go_wp2_with fail
        go_ret
        exact ⟨rfl, hL.out⟩
end Go.Proofs.Ytnkjijibmblaoaa
