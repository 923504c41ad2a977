/- The walk of harrierlaw11.DetourGoes: it answers true. Condition: at most 2^47 - 4096 bytes and others. -/
import Derived.Test.YtpaomhgdpncdoaaDtL
import Derived.Test.YtpaomhgdpncdoaaDtN
namespace Go.Proofs.Ytpaomhgdpncdoaa
open Go.RowKit
set_option linter.unusedVariables false

theorem neq_sameD (s : List Int) (hs : s.length = 16) (w : World) : (Op.equalIn 10000 39 (.agg (cellsB s).toArray) (.agg (cellsB s).toArray)).run Try.prog w = .ok true w := by
  have h := eq_addr s s hs hs w
  simpa using h
set_option maxRecDepth 100000 in
set_option maxHeartbeats 6400000 in
theorem dtg_walk (A : Option Addr) (n c : Nat) (xs : List Int) (vA : Option Addr) (m vc : Nat) (l : List (List Int)) (w : World) (hn : n ≤ 140737488351232) (hc : n ≤ c) (hc2 : c ≤ 9223372036854775807) (hb : Bs w w.heap.size A n xs) (hm : m ≤ 140737488351232) (hv : As w w.heap.size vA m l) :
    Calls Try.prog 6 #[.slice A n c, .slice vA m vc] w fun e w' => e = .returned (.bool true) ∧ Low w w' := by
  have HB := Lib.hid hb
  have HV := Lib.hid hv
  have HO := Lib.hid (getH_ok hb.all)
  have HHE := Lib.hid (show getE xs = 0 → getH xs = getL xs from fun h => by unfold getH; rw [if_pos h])
  clear hb hv
  go_enter Try.func6, Try.ntmps6
  go_wp2_with fail
  refine (rget_any A n c xs w (by omega) HB.out).mono ?_
  rintro e w1 ⟨rfl, hL⟩
  replace hL : Low w w1 := hL
  obtain ⟨h, hh⟩ : ∃ h, h = getH xs := ⟨_, rfl⟩
  rw [← hh] at HO HHE ⊢
  have HS := Lib.hid HO.out.s
  have HD := Lib.hid HO.out.d
  unfold headV
  clear hh
  go_wp2_with ((with_reducible refine wpList_alloc_v rfl 41 rfl (headC zeroH) (by kernel_rfl) ?_); intro w2 HZ hl2 hz2; refine Hid.out ?_)
  refine Lib.hid ?_
  replace HZ := Lib.hid HZ
  have HLa := Lib.hid hL
  clear hz2
  go_wp2_with ((with_reducible refine wpList_store_head rfl (.tmp 5) (.tmp 21) rfl w1.heap.size rfl h rfl zeroH HZ.out rfl rfl HS.out HD.out ?_); intro w3 HG3 hb3 hz3; refine Hid.out ?_)
  refine Lib.hid ?_
  have hl3 : Low w1 w3 := Below.trans hl2 hb3
  replace hL : Low w w3 := HLa.out.trans hl3
  replace HG3 := Lib.hid HG3
  have hge1 := HLa.out.size
  have hg5 : w1.heap.size < w3.heap.size := HG3.out.lt
  clear hb3 hz3 hl2 HZ hl3 HLa
  generalize w1.heap.size = g5 at *
  go_wp2_with fail
  refine (insert_any A n c xs vA m vc l none 0 0 [] w3 (by omega) hc hc2 (HB.out.below' hL hL.size) hm (HV.out.below' hL hL.size) (by omega) (Os.nil _ _ _)).mono ?_
  rintro e w4 ⟨A4, c4, rfl, hn4, hc4, hb4, hl4⟩
  rw [List.map_nil] at hb4 hn4 ⊢
  replace HG3 := Lib.hid (HG3.out.below hl4 HG3.out.lt)
  replace hL := hL.trans hl4
  replace hg5 := Nat.lt_of_lt_of_le hg5 hl4.size
  have HB4 := Lib.hid hb4
  clear hl4 hb4
  obtain ⟨er, her⟩ : ∃ er, er = insE xs l [] := ⟨_, rfl⟩
  rw [← her]
  have HE := Lib.hid her.symm
  have c44 := HG3.out.cell 4
  replace c44 : _ = some (Value.int .i64 h.hp) := c44
  clear her
  by_cases he : er = 0
  · subst he
    obtain ⟨z1, z2, z3, z4, z5⟩ := insE_zero HE.out
    have HGL := Lib.hid (HHE.out (wholeE_zero z1).1)
    have HVL := Lib.hid HV.out.len
    rw [HV.out.len] at z3
    clear z1 z2 z4 z5
    have m9 : decide ((9 : Int) < m) = false := decide_eq_false (by omega)
    by_cases hop : h.hp ≤ (m : Int)
    · go_wp2_with fail
      refine (dlives_any w4).mono ?_
      rintro e w5 ⟨rfl, hl5⟩
      replace hL := hL.trans hl5
      go_wp2_with fail
      go_ret
      exact ⟨rfl, hL⟩
    · have hop2 : decide (h.hp ≤ (m : Int)) = false := decide_eq_false hop
      have hopm : (l.length : Int) < (getL xs).hp := by rw [HVL.out, ← HGL.out]; omega
      have HOP := Lib.hid hopm
      obtain ⟨bv, ov, rfl, hbv, hcv⟩ := HV.out.mem (by omega)
      have HZ0 := Lib.hid (st_zero (xs := xs) (l := l) HE.out)
      have HX0 := Lib.hid (stW_zero (xs := xs) (l := l) HB.out.all HE.out)
      rw [HZ0.out] at HB4 hn4 ⊢
      have HGD := Lib.hid (show h.d = (getL xs).d by rw [HGL.out])
      clear hcv hopm hop
      go_wp2_with fail
      clear c44 m9 hop2
      have h00 := HVL.out
      have HA0 : Hid (Bs w4 w4.heap.size A n (stW xs 0)) := Lib.hid (by rw [HX0.out]; exact HB.out.below' hL hL.size)
      have hre := Lib.hid (Low.refl w4)
      go_loopw [7, 9, 10] (fun x y i wr => ∃ j : Nat, j ≤ m + 1 ∧ i = .int .i64 j ∧ ∃ (q : Nat) (Ax : Option Addr) (nx cx : Nat) (Ay : Option Addr) (cy : Nat), x = .slice Ax nx cx ∧ y = .slice Ay n cy ∧ Hid (q = min j m) ∧ Hid (nx ≤ cx ∧ cx ≤ 9223372036854775807 ∧ n ≤ cy ∧ cy ≤ 9223372036854775807) ∧ Hid (Bs wr wr.heap.size Ax nx (stL xs l q)) ∧ Hid (Bs wr wr.heap.size Ay n (stW xs q)) ∧ Hid (Low w4 wr)) (fun _ _ i _ => m + 1 - (intOf i).toNat)
      case atStart => exact ⟨0, Nat.zero_le _, rfl, 0, _, _, _, _, _, rfl, rfl, Lib.hid (by omega), Lib.hid ⟨hn4, hc4, hc, hc2⟩, HB4, HA0, hre⟩
      case round =>
        clear HB4 HA0 hre hn4 hc4
        obtain ⟨j, hj, rfl, q, Ax, nx, cx, Ay, cy, rfl, rfl, HQ, HCP, HBX, HBY, HLR⟩ := hrel
        obtain ⟨cp1, cp2, cp3, cp4⟩ := HCP.out
        by_cases hjm : j ≤ m
        · obtain rfl : j = q := by have := HQ.out; omega
          have hjl : j ≤ l.length := by rw [HVL.out]; exact hjm
          have HGT := Lib.hid (st_get HB.out.all HV.out.all HE.out HOP.out hjl)
          have HRM := Lib.hid (st_rem HB.out.all HV.out.all HE.out HOP.out hjl)
          have HPK := Lib.hid (st_pk HB.out.all HV.out.all HE.out HOP.out hjl)
          have hsl := st_len HB.out.all HV.out.all HE.out HOP.out hjl
          rw [HBX.out.len] at hsl
          have HWL := Lib.hid (stW_len HB.out.all HE.out HOP.out hjl)
          have hcond : (j : Int) ≤ m := by omega
          clear hjl
          obtain ⟨X, hX⟩ : ∃ X, X = stL xs l j := ⟨_, rfl⟩
          obtain ⟨H, hH⟩ : ∃ H, H = stH xs l j := ⟨_, rfl⟩
          obtain ⟨Y, hY⟩ : ∃ Y, Y = stW xs j := ⟨_, rfl⟩
          rw [← hX] at HBX HGT HRM
          rw [← hH] at HGT HPK
          rw [← hY] at HBY HRM HWL
          have HX := Lib.hid hX
          have HH := Lib.hid hH
          have HY := Lib.hid hY
          have HHS := Lib.hid HPK.out.ok.s
          have HHD := Lib.hid HPK.out.ok.d
          clear hX hH hY
          go_wp2_with fail
          refine (rget_any Ax nx cx X wr (by omega) HBX.out).mono ?_
          rintro e w5 ⟨rfl, hl5⟩
          rw [HGT.out.1, HGT.out.2]
          unfold headV
          replace HLR := Lib.hid (HLR.out.trans hl5)
          replace HBX := Lib.hid (HBX.out.below' hl5 hl5.size)
          replace HBY := Lib.hid (HBY.out.below' hl5 hl5.size)
          clear hl5
          go_wp2_with ((with_reducible refine wpList_alloc_v rfl 41 rfl (headC zeroH) (by kernel_rfl) ?_); intro w6 HZ6 hl6 hz6; refine Hid.out ?_)
          refine Lib.hid ?_
          replace HZ6 := Lib.hid HZ6
          clear hz6
          go_wp2_with ((with_reducible refine wpList_store_head rfl (.tmp 11) (.tmp 54) rfl w5.heap.size rfl H rfl zeroH HZ6.out rfl rfl HHS.out HHD.out ?_); intro w7 HG7 hb7 hz7; refine Hid.out ?_)
          refine Lib.hid ?_
          have hl7 : Low w5 w7 := Below.trans hl6 hb7
          replace HLR := Lib.hid (HLR.out.trans hl7)
          replace HBX := Lib.hid (HBX.out.below' hl7 hl7.size)
          replace HBY := Lib.hid (HBY.out.below' hl7 hl7.size)
          replace HG7 := Lib.hid HG7
          clear hl6 hb7 hz7 HZ6 hl7
          generalize w5.heap.size = g11 at *
          have HG5 := Lib.hid (HG3.out.below HLR.out HG3.out.lt)
          go_wp2_with (first
            | (with_reducible refine wpList_load_at rfl (.tmp 56) rfl g5 21 rfl h.d HD.out (BlkV.atDst HG5.out HS.out) ?_)
            | ((with_reducible refine wpList_alloc_v rfl 39 rfl (cellsB zero16) addr_zeroR ?_); intro w8 HZ8 hl8 hz8; refine Hid.out ?_))
          refine Lib.hid ?_
          replace HZ8 : Hid (Blk w8 39 w7.heap.size zero16) := Lib.hid HZ8
          clear hz8
          go_wp2_with (refine wpList_store_addr rfl (.tmp 13) (.tmp 57) rfl w7.heap.size rfl h.d rfl _ zero16 HZ8.out rfl HD.out ?_; intro w9 HG9 hb9 hz9; refine Hid.out ?_)
          refine Lib.hid ?_
          have HL9 := Lib.hid (show Below w7.heap.size w7 w9 from Below.trans hl8 hb9)
          have hg11 : g11 < w7.heap.size := HG7.out.lt
          have hg13 : w4.heap.size ≤ w7.heap.size := HLR.out.size
          have hz97 : w7.heap.size ≤ w9.heap.size := HL9.out.size
          replace HG9 := Lib.hid HG9
          clear hl8 hb9 hz9 HZ8 HG5
          generalize w7.heap.size = g13 at *
          by_cases hjlt : j < m
          · have hji : (j : Int) < m := by omega
            have HDD := Lib.hid (show H.d = l.getD j zero16 by rw [HH.out]; unfold stH; rw [if_pos (by rw [HVL.out]; exact hjlt)]; rfl)
            obtain ⟨d, hd⟩ : ∃ d, d = l.getD j zero16 := ⟨_, rfl⟩
            rw [← hd] at HDD
            have HD16 := Lib.hid (show d.length = 16 by rw [hd]; exact (HV.out.all.getD j).1)
            have hrg := (HV.out.at_ hjlt).2
            rw [← hd] at hrg
            have hLw : Low w w9 := hL.trans (show Low w4 w9 from Below.trans HLR.out (HL9.out.mono hg13))
            have HRG := Lib.hid (rangeAt_below hrg hLw hbv)
            clear hd hrg hLw
            go_wp2_with (first
              | (with_reducible refine wpList_load_at rfl (.tmp 64) rfl bv (ov + j * 16) rfl d HD16.out HRG.out ?_)
              | (refine wpList_store_addr rfl (.tmp 13) (.tmp 65) rfl g13 rfl d rfl _ h.d HG9.out HD.out HD16.out ?_; intro w9b HG9b hb9b hz9b; refine Hid.out ?_))
            refine Lib.hid ?_
            replace HL9 := Lib.hid (HL9.out.trans hb9b)
            replace HG9 := Lib.hid HG9b
            clear HG9b hb9b hz9b HRG hz97
            go_wp2_with fail
            replace HLR := Lib.hid (show Low w4 w9b from Below.trans HLR.out (HL9.out.mono hg13))
            have hzW := HG9.out.lt
            replace HBX := Lib.hid (HBX.out.below' HL9.out (Nat.le_of_lt hzW))
            replace HBY := Lib.hid (HBY.out.below' HL9.out (Nat.le_of_lt hzW))
            have HG7' := Lib.hid (HG7.out.below HL9.out hg11)
            clear HL9 HG7 hzW
            refine (remove_any Ax nx cx X w9b (by omega) cp1 cp2 HBX.out).mono ?_
            rintro e w10 ⟨A10, c10, rfl, hn10, hc10, hb10, hB10⟩
            rw [HRM.out.1, HRM.out.2]
            rw [HRM.out.2] at hb10
            have hB10' : Low w9b w10 := hB10
            replace HLR := Lib.hid (HLR.out.trans hB10')
            replace HBX := Lib.hid (HBX.out.below' hB10 hB10'.size)
            replace HBY := Lib.hid (HBY.out.below' hB10 hB10'.size)
            have HG10 := Lib.hid (HG7'.out.below hB10 HG7'.out.lt)
            have HT10 := Lib.hid (HG9.out.below hB10 HG9.out.lt)
            have cv1 := conv_bs (c := c10) hb10
            have cv2 := conv_bs (c := cy) HBY.out
            obtain ⟨st, hst⟩ : ∃ st, st = strOfNums Y := ⟨_, rfl⟩
            rw [← hst] at cv1 cv2
            have hne := neq_sameD d HD16.out w10
            generalize Y.length = qy at *
            clear hst hb10 hB10 hB10' hn10 hc10 HG7' HG9
            go_wp2_with (first
              | (with_reducible refine wpList_load_at rfl (.tmp 71) rfl g11 21 rfl d HD16.out (by have := BlkV.atDst HG10.out HHS.out; rwa [HDD.out] at this) ?_)
              | (with_reducible refine wpList_load_addr rfl (.tmp 13) rfl g13 rfl _ d HT10.out HD16.out ?_))
            have HSN := Lib.hid (st_next HB.out.all HV.out.all HE.out HOP.out (show j < l.length by rw [HVL.out]; exact hjlt))
            have HWN := Lib.hid (stW_next HB.out.all HE.out HOP.out (show j < l.length by rw [HVL.out]; exact hjlt))
            have HSL := Lib.hid (st_len HB.out.all HV.out.all HE.out HOP.out (show j + 1 ≤ l.length by rw [HVL.out]; exact hjlt))
            have HWL2 := Lib.hid (stW_len HB.out.all HE.out HOP.out (show j + 1 ≤ l.length by rw [HVL.out]; exact hjlt))
            rw [← HX.out] at HSN
            rw [← HY.out] at HWN
            refine (advance_any Ax nx cx X w10 (by omega) cp1 cp2 HBX.out).mono ?_
            rintro e w11 ⟨A11, c11, rfl, hn11, hc11, hb11, hB11⟩
            rw [HSN.out.1, HSN.out.2]
            rw [HSN.out.2] at hb11 hn11
            obtain ⟨nz, hnz⟩ : ∃ nz, nz = (stL xs l (j + 1)).length := ⟨_, rfl⟩
            rw [← hnz] at hb11 hn11 ⊢
            have hB11' : Low w10 w11 := hB11
            replace HLR := Lib.hid (HLR.out.trans hB11')
            replace HBY := Lib.hid (HBY.out.below' hB11 hB11'.size)
            have HB11 := Lib.hid hb11
            clear hnz hb11 hB11 hB11' HBX
            go_wp2_with fail
            refine (rnearer_any Ay n cy Y w11 (by omega) cp3 cp4 HBY.out).mono ?_
            rintro e w12 ⟨A12, c12, rfl, hn12, hc12, hb12, hB12⟩
            rw [HWN.out.1, HWN.out.2, HWL2.out, HB.out.len]
            rw [HWN.out.2, HWL2.out, HB.out.len] at hb12 hn12
            have hB12' : Low w11 w12 := hB12
            replace HLR := Lib.hid (HLR.out.trans hB12')
            replace HB11 := Lib.hid (HB11.out.below' hB12 hB12'.size)
            have HB12 := Lib.hid hb12
            clear hb12 hB12 hB12' HBY
            go_wp2_with fail
            exact ⟨⟨j + 1, by omega, by go_num, j + 1, _, _, _, _, _, rfl, rfl, Lib.hid (by omega), Lib.hid ⟨hn11, hc11, hn12, hc12⟩, HB11, HB12, HLR⟩, by simp [intOf]; omega⟩
          · have hji : ¬ (j : Int) < m := by omega
            have HDD := Lib.hid (show H.d = h.d by rw [HH.out, HGD.out]; unfold stH; rw [if_neg (by rw [HVL.out]; exact hjlt)]; rfl)
            obtain ⟨d, hd⟩ : ∃ d, d = h.d := ⟨_, rfl⟩
            rw [← hd] at HDD HG9
            have HD16 := Lib.hid (show d.length = 16 by rw [hd]; exact HD.out)
            clear hd hz97
            go_wp2_with fail
            replace HLR := Lib.hid (show Low w4 w9 from Below.trans HLR.out (HL9.out.mono hg13))
            have hzW := HG9.out.lt
            replace HBX := Lib.hid (HBX.out.below' HL9.out (Nat.le_of_lt hzW))
            replace HBY := Lib.hid (HBY.out.below' HL9.out (Nat.le_of_lt hzW))
            have HG7' := Lib.hid (HG7.out.below HL9.out hg11)
            clear HL9 HG7 hzW
            refine (remove_any Ax nx cx X w9 (by omega) cp1 cp2 HBX.out).mono ?_
            rintro e w10 ⟨A10, c10, rfl, hn10, hc10, hb10, hB10⟩
            rw [HRM.out.1, HRM.out.2]
            rw [HRM.out.2] at hb10
            have hB10' : Low w9 w10 := hB10
            replace HLR := Lib.hid (HLR.out.trans hB10')
            replace HBX := Lib.hid (HBX.out.below' hB10 hB10'.size)
            replace HBY := Lib.hid (HBY.out.below' hB10 hB10'.size)
            have HG10 := Lib.hid (HG7'.out.below hB10 HG7'.out.lt)
            have HT10 := Lib.hid (HG9.out.below hB10 HG9.out.lt)
            have cv1 := conv_bs (c := c10) hb10
            have cv2 := conv_bs (c := cy) HBY.out
            obtain ⟨st, hst⟩ : ∃ st, st = strOfNums Y := ⟨_, rfl⟩
            rw [← hst] at cv1 cv2
            have hne := neq_sameD d HD16.out w10
            generalize Y.length = qy at *
            clear hst hb10 hB10 hB10' hn10 hc10 HG7' HG9
            go_wp2_with (first
              | (with_reducible refine wpList_load_at rfl (.tmp 71) rfl g11 21 rfl d HD16.out (by have := BlkV.atDst HG10.out HHS.out; rwa [HDD.out] at this) ?_)
              | (with_reducible refine wpList_load_addr rfl (.tmp 13) rfl g13 rfl _ d HT10.out HD16.out ?_))
            rw [HX.out] at HBX
            rw [HY.out] at HBY
            exact ⟨⟨j + 1, by omega, by go_num, j, _, _, _, _, _, rfl, rfl, Lib.hid (by omega), Lib.hid ⟨cp1, cp2, cp3, cp4⟩, HBX, HBY, HLR⟩, by simp [intOf]; omega⟩
        · have hjm2 : ¬ (j : Int) ≤ m := by omega
          have hqm : q = l.length := by have := HQ.out; rw [HVL.out]; omega
          have HEN := Lib.hid (st_end HB.out.all HV.out.all HE.out HOP.out)
          have hsl := st_len HB.out.all HV.out.all HE.out HOP.out (Nat.le_refl _)
          rw [hqm] at HBX
          rw [HBX.out.len] at hsl
          clear hqm HBY
          go_wp2_with fail
          refine (advance_any Ax nx cx (stL xs l l.length) wr (by omega) cp1 cp2 HBX.out).mono ?_
          rintro e w5 ⟨A5, c5, rfl, hn5, hc5, hb5, hB5⟩
          rw [HEN.out]
          have hL5 := (hL.trans HLR.out).trans hB5
          clear hb5 hB5 hn5 hc5
          go_wp2_with fail
          refine (dlives_any w5).mono ?_
          rintro e w6 ⟨rfl, hl6⟩
          have hL6 := hL5.trans hl6
          go_wp2_with fail
          go_ret
          exact ⟨rfl, hL6⟩
  · have heb : (er != 0) = true := by simpa using he
    go_wp2_with fail
    refine (dlives_any w4).mono ?_
    rintro e w5 ⟨rfl, hl5⟩
    replace hL := hL.trans hl5
    go_wp2_with fail
    go_ret
    exact ⟨rfl, hL⟩
end Go.Proofs.Ytpaomhgdpncdoaa
