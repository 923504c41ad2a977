/- The walk of MaglevShares, given what the program's own functions tell. Condition: the size is an int. -/
import Derived.Test.YtogmfhofdjiihaaLawMgB
set_option maxRecDepth 100000
namespace Go.Proofs.Ytogmfhofdjiihaa
open Go.RowKit
set_option linter.unusedVariables false

theorem sum_takeM (f : Mbr → Nat) (l : List Mbr) (i : Nat) (h : i < l.length) : ((l.take (i + 1)).map f).sum = ((l.take i).map f).sum + f (l.getD i zeroMbr) := by
  rw [List.take_succ_eq_append_getElem h, List.map_append, List.sum_append, ← getD_memM l i h]
  simp
theorem count_leM (t : List Int) (n : Int) : t.count n ≤ t.length := List.count_le_length
/-- what stands while the shares are told -/
structure ShrI (l : List Mbr) (t : List Int) (n M : Nat) (A A1 : Option Addr) (B1 : Nat) (w wr : World) : Prop where
  s : Es mbrE wr w.heap.size A n l
  t : Ns wr B1 A1 M t
  z : B1 ≤ wr.heap.size
  l : Low w wr
section
variable {l : List Mbr} {t : List Int} {n M : Nat} {A A1 : Option Addr} {B1 : Nat} {w wr wr' : World}
theorem ShrI.low (h : ShrI l t n M A A1 B1 w wr) (hl : Low wr wr') : ShrI l t n M A A1 B1 w wr' := ⟨h.s.below (hl.mono h.l.size), h.t.below (hl.mono h.z), Nat.le_trans h.z hl.size, h.l.trans hl⟩
theorem ShrI.drewN (h : ShrI l t n M A A1 B1 w wr) (q : Nat) : ShrI l t n M A A1 B1 w (wr.drewN q) := ⟨h.s.keep fun _ _ => rfl, h.t.drewN q, h.z, below_drewN h.l q⟩
theorem ShrI.drew (h : ShrI l t n M A A1 B1 w wr) : ShrI l t n M A A1 B1 w wr.drew := ⟨h.s.keep fun _ _ => rfl, h.t.drew, h.z, h.l.drew⟩
end

set_option maxHeartbeats 6400000 in
set_option maxRecDepth 100000 in
theorem mgs_walk (HR : MgRights) (HT : MgTotals) (HC : MgCounts) (HBu : MgBuilds) (a b m : Int) (A : Option Addr) (n c : Nat) (l : List Mbr) (w : World) (hm : i64ok m) (hn : n ≤ 140737488355328) (hnc : n ≤ c) (hb : Es mbrE w w.heap.size A n l) :
    Calls Try.prog 5 #[keyV a b, .int .i64 m, .slice A n c] w fun e w' => e = .returned (.bool true) ∧ Low w w' := by
  have HB := Lib.hid hb
  have HLN := Lib.hid hb.len
  have HML := Lib.hid fun u => mglives_any HR HC HBu u
  have HBB := Lib.hid HBu
  have HTT := Lib.hid HT
  have HCC := Lib.hid HC
  clear hb HR HC HBu HT
  unfold keyV
  by_cases hlt : n ≤ 40
  · have hlt2 : ¬ (40 : Int) < n := by omega
    go_enter Try.func5, Try.ntmps5
    go_wp2_with ((with_reducible refine wpList_box_v rfl _ (.tmp 0) rfl (keyC a b) rfl ?_); intro w1 HK hL hz1; refine Hid.out ?_)
    refine Lib.hid ?_
    replace HK := Lib.hid HK
    replace HB := Lib.hid (HB.out.below hL)
    replace hL := Lib.hid hL
    clear hz1
    go_wp2_with ((refine wpList_load_v rfl 24 (.tmp 3) rfl w.heap.size rfl _ (keyC a b) HK.out _ Try.underlying24 rfl key_size ?_); refine Hid.out ?_)
    refine Lib.hid ?_
    go_wp2_with fail
    refine (HBB.out a b m A n c l w1 hm hlt hnc (HB.out.more hL.out.size)).mono ?_
    rintro e w2 ⟨A1, c1, rfl, hN1, hl⟩
    replace HB := Lib.hid (HB.out.below (hl.mono hL.out.size))
    replace hL := Lib.hid (hL.out.trans hl)
    have HN1 := Lib.hid hN1
    clear hl hN1 HK HBB
    by_cases he : errM m l = 0
    · obtain ⟨hm251, hp, hr⟩ := errM_zero he
      have HRT := Lib.hid (rightM_right hr)
      have HBY := Lib.hid (buildM_yes (a := a) (b := b) he)
      rw [he]
      go_wp2_with fail
      refine (HTT.out A n c l w2 hlt hnc (HB.out.more hL.out.size)).mono ?_
      rintro e w3 ⟨rfl, hl⟩
      replace HB := Lib.hid (HB.out.below (hl.mono hL.out.size))
      replace HN1 := Lib.hid (HN1.out.below' hl hl.size)
      replace hL := Lib.hid (hL.out.trans hl)
      clear hl HTT he hr
      by_cases ht : totalM l = 0
      · rw [ht]
        go_wp2_with fail
        refine (HML.out w3).mono ?_
        rintro e w5 ⟨rfl, hl⟩
        replace hL := Lib.hid (hL.out.trans hl)
        clear hl
        go_wp2_with fail
        go_ret
        exact ⟨rfl, hL.out⟩
      · have hp2 := primeB_two hp
        obtain ⟨M, rfl⟩ : ∃ M : Nat, m = M := ⟨m.toNat, by omega⟩
        have hM : M ≤ 251 := by omega
        rw [HBY.out] at HN1 ⊢
        have HTL := Lib.hid (show (tableM a b M l).length = M from tableM_len a b M l)
        have HSH := Lib.hid (show ∀ i j, i < n → j < n → ((tableM a b M l).count (l.getD i zeroMbr).n : Int) * (l.getD j zeroMbr).w - ((tableM a b M l).count (l.getD j zeroMbr).n : Int) * (l.getD i zeroMbr).w ≤ (l.getD i zeroMbr).w * (l.getD j zeroMbr).w from fun i j hi hj =>
          tableM_share hp (by omega) HRT.out ht (by rw [getD_memM l i (by rw [HLN.out]; exact hi)]; exact List.getElem_mem _) (by rw [getD_memM l j (by rw [HLN.out]; exact hj)]; exact List.getElem_mem _))
        have HID := Lib.hid (show ∀ i, i < n → (l.getD i zeroMbr).w = 0 → (tableM a b M l).count (l.getD i zeroMbr).n = 0 from fun i hi hw => tableM_idle hp (by omega) HRT.out ht (by rw [getD_memM l i (by rw [HLN.out]; exact hi)]; exact List.getElem_mem _) hw)
        have HSU := Lib.hid (show (l.map fun x => (tableM a b M l).count x.n).sum = M from tableM_sum hp (by omega) HRT.out ht)
        have HOK := Lib.hid (show ∀ i, i < n → 1 ≤ (l.getD i zeroMbr).n ∧ (l.getD i zeroMbr).n ≤ 65535 ∧ 0 ≤ (l.getD i zeroMbr).w ∧ (l.getD i zeroMbr).w ≤ 4 from fun i hi => HRT.out.ok _ (by rw [getD_memM l i (by rw [HLN.out]; exact hi)]; exact List.getElem_mem _))
        have HST := Lib.hid (show ∀ i, i < n → ((l.take (i + 1)).map fun x => (tableM a b M l).count x.n).sum = ((l.take i).map fun x => (tableM a b M l).count x.n).sum + (tableM a b M l).count (l.getD i zeroMbr).n from fun i hi => sum_takeM _ l i (by rw [HLN.out]; exact hi))
        have ht2 : (totalM l == 0) = false := by simpa using ht
        clear hp HRT HBY hp2
        generalize totalM l = tt at ht ht2 ⊢
        generalize tableM a b M l = t at *
        have HCL := Lib.hid (show ∀ x : Int, t.count x ≤ M from fun x => by rw [← HTL.out]; exact count_leM t x)
        rw [HTL.out] at HN1 ⊢
        have HSI := Lib.hid (show ShrI l t n M A A1 w3.heap.size w w3 from ⟨HB.out, HN1.out, Nat.le_refl _, hL.out⟩)
        clear HB HN1 hL
        go_wp2_with fail
        clear ht ht2
        go_loopw [9, 10] (fun v9 v10 wr => ∃ (i z : Nat), i ≤ n ∧ v10 = .int .i64 i ∧ v9 = .int .i64 z ∧ z ≤ 251 * i ∧ Hid (z = ((l.take i).map fun x => t.count x.n).sum) ∧ Hid (ShrI l t n M A A1 w3.heap.size w wr)) (fun _ v _ => n - (intOf v).toNat)
        case atStart => exact ⟨0, 0, by omega, rfl, rfl, by omega, Lib.hid (by simp), HSI⟩
        case round =>
          clear HSI
          obtain ⟨i, z, hi, rfl, rfl, hz, HZ, HSI⟩ := hrel
          by_cases hli : i < n
          · obtain ⟨b0, o0, rfl, hbb, hcc⟩ := HSI.out.s.mem (by omega)
            clear hbb hcc
            have hli2 : (i : Int) < n := by omega
            have HMC := Lib.hid (show ∀ (u : World) (j : Nat), j < n → ShrI l t n M (some ⟨b0, o0, none⟩) A1 w3.heap.size w u → u.cell? ⟨b0, o0 + j * 2, none⟩ = some (.int .i64 (l.getD j zeroMbr).n) ∧ u.cell? ⟨b0, o0 + j * 2 + 1, none⟩ = some (.int .i64 (l.getD j zeroMbr).w) from fun u j hj hu => mbr_cells hu.s hj)
            have HSH2 := Lib.hid (fun j hj => HSH.out i j hli hj)
            have HID2 := Lib.hid (HID.out i hli)
            have HOKi := HOK.out i hli
            have HST2 := Lib.hid (HST.out i hli)
            have HCI := Lib.hid (show ∀ (u : World), ShrI l t n M (some ⟨b0, o0, none⟩) A1 w3.heap.size w u → u.cell? ⟨b0, o0 + i * 2, none⟩ = some (.int .i64 (l.getD i zeroMbr).n) ∧ u.cell? ⟨b0, o0 + i * 2 + 1, none⟩ = some (.int .i64 (l.getD i zeroMbr).w) from fun u hu => HMC.out u i hli hu)
            generalize (l.getD i zeroMbr).n = ni at HSH2 HID2 HOKi HST2 HCI
            generalize (l.getD i zeroMbr).w = wi at HSH2 HID2 HOKi HCI
            obtain ⟨d0, _⟩ := HCI.out wr HSI.out
            go_wp2_with fail
            clear d0
            refine (HCC.out A1 M c1 t ni wr (by omega) (by unfold i64ok; omega) (HSI.out.t.more HSI.out.z)).mono ?_
            rintro e w4 ⟨rfl, hl⟩
            replace HSI := Lib.hid (HSI.out.low hl)
            clear hl
            have hci := HCL.out ni
            generalize t.count ni = ci at *
            go_wp2_with fail
            obtain ⟨wo, rfl⟩ : ∃ wo, wo = w4 := ⟨_, rfl⟩
            go_loopw [12] (fun v wr => ∃ j : Nat, j ≤ n ∧ v = .int .i64 j ∧ Hid (ShrI l t n M (some ⟨b0, o0, none⟩) A1 w3.heap.size w wr)) (fun v _ => n - (intOf v).toNat)
            case atStart => exact ⟨0, by omega, rfl, HSI⟩
            case round =>
              clear HSI
              obtain ⟨j, hj, rfl, HSI⟩ := hrel
              by_cases hlj : j < n
              · have hlj2 : (j : Int) < n := by omega
                have HCJ := Lib.hid (show ∀ (u : World), ShrI l t n M (some ⟨b0, o0, none⟩) A1 w3.heap.size w u → u.cell? ⟨b0, o0 + j * 2, none⟩ = some (.int .i64 (l.getD j zeroMbr).n) ∧ u.cell? ⟨b0, o0 + j * 2 + 1, none⟩ = some (.int .i64 (l.getD j zeroMbr).w) from fun u hu => HMC.out u j hlj hu)
                have HOKj := HOK.out j hlj
                have HSJ := Lib.hid (HSH2.out j hlj)
                generalize (l.getD j zeroMbr).n = nj at HCJ HOKj HSJ
                generalize (l.getD j zeroMbr).w = wj at HCJ HOKj HSJ
                have hcj := HCL.out nj
                have HCNT := Lib.hid (fun u hu => HCC.out A1 M c1 t nj u (by omega) (by unfold i64ok; omega) hu)
                generalize t.count nj = cj at *
                have q1 : 0 ≤ (ci : Int) * wj ∧ (ci : Int) * wj ≤ 251 * 4 := ⟨Int.mul_nonneg (by omega) (by omega), Int.mul_le_mul (by omega) (by omega) (by omega) (by omega)⟩
                have q2 : 0 ≤ (cj : Int) * wi ∧ (cj : Int) * wi ≤ 251 * 4 := ⟨Int.mul_nonneg (by omega) (by omega), Int.mul_le_mul (by omega) (by omega) (by omega) (by omega)⟩
                have q3 : 0 ≤ wi * wj ∧ wi * wj ≤ 4 * 4 := ⟨Int.mul_nonneg (by omega) (by omega), Int.mul_le_mul (by omega) (by omega) (by omega) (by omega)⟩
                have hsj := HSJ.out
                obtain ⟨p1, e1⟩ : ∃ p1, p1 = (ci : Int) * wj := ⟨_, rfl⟩
                obtain ⟨p2, e2⟩ : ∃ p2, p2 = (cj : Int) * wi := ⟨_, rfl⟩
                obtain ⟨p3, e3⟩ : ∃ p3, p3 = wi * wj := ⟨_, rfl⟩
                rw [← e1, ← e2, ← e3] at hsj
                rw [← e1] at q1
                rw [← e2] at q2
                rw [← e3] at q3
                have m1 : IntKind.i64.wrap ((ci : Int) * wj) = p1 := by rw [IntKind.wrap_i64, ← e1]; omega
                have m2 : IntKind.i64.wrap ((cj : Int) * wi) = p2 := by rw [IntKind.wrap_i64, ← e2]; omega
                have m3 : IntKind.i64.wrap (wi * wj) = p3 := by rw [IntKind.wrap_i64, ← e3]; omega
                have n3 : wrap64 (wi * wj) = p3 := by unfold wrap64; rw [← e3]; omega
                have m4 : IntKind.i64.wrap (p1 - p2) = p1 - p2 := by rw [IntKind.wrap_i64]; omega
                have hdd : ¬ p3 < p1 - p2 := by omega
                have H30 := Lib.hid (show wi = 0 → p3 = 0 from fun h => by rw [e3, h, Int.zero_mul])
                clear e1 e2 e3
                clear HSJ q1 q2 q3 hsj
                go_wp2_with fail
                refine wp_region_planS (fun y => ShrI l t n M (some ⟨b0, o0, none⟩) A1 w3.heap.size w y) (.rd 0 (.rd 1 (.rd 2 (.rd 3 (.rd 4 (.rd 5 (.rd 6 (.rd 7 (.rd 8 (.rd 9 (.rd 10 (.rd 11 (.rd 12 (.rd 14 (.rd 15 (.rd 16 (.rd 17 (.rd 18 (.act 13 (.rd 19 (.rd 20 (.rd 21 (.done)))))))))))))))))))))))
                  (by kernel_rfl) (by kernel_rfl) (fun _ _ d _ _ h => by cases d <;> exact h) (by kernel_rfl) HSI.out.drew ?_
                replace HSI := Lib.hid HSI.out.drew
                generalize wr.drew = w7 at *
                iterate 6 (refine walkS_read (v := _) rfl (by rfl) (by intro y hy; have e0 := (HCJ.out y hy).1; have e1 := (HCJ.out y hy).2; clear hy; go_simp; try rfl) ?_; simp only [Act.put, List.setIfInBounds_toArray, List.set_cons_zero, List.set_cons_succ])
                refine walkS_read (v := .int .i64 p1) rfl (by rfl) (by intro y hy; clear hy; go_simp; try rfl) ?_; simp only [Act.put, List.setIfInBounds_toArray, List.set_cons_zero, List.set_cons_succ]
                iterate 6 (refine walkS_read (v := _) rfl (by rfl) (by intro y hy; have e0 := (HCJ.out y hy).1; have e1 := (HCJ.out y hy).2; clear hy; go_simp; try rfl) ?_; simp only [Act.put, List.setIfInBounds_toArray, List.set_cons_zero, List.set_cons_succ])
                iterate 5 (refine walkS_read (v := _) rfl (by rfl) (by intro y hy; have e0 := (HCI.out y hy).1; have e1 := (HCI.out y hy).2; clear hy; go_simp; try rfl) ?_; simp only [Act.put, List.setIfInBounds_toArray, List.set_cons_zero, List.set_cons_succ])
                refine walkS_act rfl (by rfl) (fun K hK => ?_)
                go_simp
                refine (HCNT.out w7 (HSI.out.t.more HSI.out.z)).mono ?_
                rintro e w8 ⟨rfl, hl⟩
                replace HSI := Lib.hid (HSI.out.low hl)
                go_simp
                refine hK _ _ HSI.out ?_
                clear hK K hl
                refine walkS_read (v := .int .i64 p2) rfl (by rfl) (by intro y hy; clear hy; go_simp; try rfl) ?_; simp only [Act.put, List.setIfInBounds_toArray, List.set_cons_zero, List.set_cons_succ]
                refine walkS_read (v := .int .i64 (p1 - p2)) rfl (by rfl) (by intro y hy; clear hy; go_simp; try rfl) ?_; simp only [Act.put, List.setIfInBounds_toArray, List.set_cons_zero, List.set_cons_succ]
                iterate 1 (refine walkS_read (v := _) rfl (by rfl) (by intro y hy; clear hy; go_simp; try rfl) ?_; simp only [Act.put, List.setIfInBounds_toArray, List.set_cons_zero, List.set_cons_succ])
                unfold walkS
                generalize p1 - p2 = dd at *
                have c0 := (HCI.out w8 HSI.out).2
                have c1' := (HCJ.out w8 HSI.out).2
                have HSQ := Lib.hid (fun q => HSI.out.drewN q)
                have hdd2 : decide (p3 < dd) = false := decide_eq_false (by omega)
                by_cases hwi : wi = 0
                · have hc0 : ci = 0 := HID2.out hwi
                  have h30 : p3 = 0 := H30.out hwi
                  subst hc0
                  subst hwi
                  subst h30
                  go_wp2_with fail
                  go_quiet (fail)
                  go_wp2_with fail
                  go_roundw
                  case rel =>
                    first
                    | exact ⟨j + 1, by omega, by go_num, Lib.hid (HSQ.out _)⟩
                    | ((repeat apply Exists.intro); exact ⟨⟨j + 1, by omega, by go_num, Lib.hid (HSQ.out _)⟩, rfl⟩)
                  case measure => simp [intOf]; omega
                · have hwi2 : (wi == 0) = false := by simpa using hwi
                  go_wp2_with fail
                  go_quiet (fail)
                  go_wp2_with fail
                  go_roundw
                  case rel =>
                    first
                    | exact ⟨j + 1, by omega, by go_num, Lib.hid (HSQ.out _)⟩
                    | ((repeat apply Exists.intro); exact ⟨⟨j + 1, by omega, by go_num, Lib.hid (HSQ.out _)⟩, rfl⟩)
                  case measure => simp [intOf]; omega
              · obtain rfl : j = n := by omega
                have hlj2 : ¬ (j : Int) < j := by omega
                have HZ2 := Lib.hid (show z + ci = ((l.take (i + 1)).map fun x => t.count x.n).sum by rw [HST2.out, ← HZ.out])
                go_wp2_with fail
                go_roundw
                case rel =>
                  first
                  | exact ⟨i + 1, z + ci, by omega, by go_num, by go_num, by omega, HZ2, HSI⟩
                  | ((repeat apply Exists.intro); exact ⟨⟨i + 1, z + ci, by omega, by go_num, by go_num, by omega, HZ2, HSI⟩, rfl⟩)
                case measure => simp [intOf]; omega
          · obtain rfl : i = n := by omega
            have hzM : z = M := by
              rw [HZ.out, List.take_of_length_le (by rw [HLN.out]; exact Nat.le_refl _)]
              exact HSU.out
            subst hzM
            have hli2 : ¬ (i : Int) < i := by omega
            go_wp2_with fail
            refine (HML.out wr).mono ?_
            rintro e w5 ⟨rfl, hl⟩
            have hL := Lib.hid (HSI.out.l.trans hl)
            clear hl
            go_wp2_with fail
            go_ret
            exact ⟨rfl, hL.out⟩
    · have he2 : (errM m l != 0) = true := by simpa using he
      generalize errM m l = er at *
      generalize buildM a b m l = t at *
      go_wp2_with fail
      refine (HML.out w2).mono ?_
      rintro e w5 ⟨rfl, hl⟩
      replace hL := Lib.hid (hL.out.trans hl)
      clear hl
      go_wp2_with fail
      go_ret
      exact ⟨rfl, hL.out⟩
  · have hlt2 : (40 : Int) < n := by omega
    go_enter Try.func5, Try.ntmps5
    go_wp2_with ((with_reducible refine wpList_box_v rfl _ (.tmp 0) rfl (keyC a b) rfl ?_); intro w1 HK hL hz1; refine Hid.out ?_)
    refine Lib.hid ?_
    clear HK
    go_wp2_with fail
    refine (HML.out w1).mono ?_
    rintro e w5 ⟨rfl, hl⟩
    replace hL := Lib.hid (hL.trans hl)
    clear hl
    go_wp2_with fail
    go_ret
    exact ⟨rfl, hL.out⟩
end Go.Proofs.Ytogmfhofdjiihaa
