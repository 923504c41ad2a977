/- The walk of ShiftSums, given what the program's own functions tell. Condition: the hash is a number of 64 bits. -/
import Derived.Test.YtjmpcmgnbamniaaLawShR
set_option maxRecDepth 100000
namespace Go.Proofs.Ytjmpcmgnbamniaa
open Go.RowKit
set_option linter.unusedVariables false

theorem rowsS_get (was is_ : List Int) (i : Nat) (h : i < (nodesP (was ++ is_)).length) (d : Rws) : (rowsS was is_).getD i d = rwsS was is_ ((nodesP (was ++ is_)).getD i 0) := by
  unfold rowsS
  simp [List.getD, h]
theorem sum_takeS (f : Int → Nat) (l : List Int) (i : Nat) (h : i < l.length) : ((l.take (i + 1)).map f).sum = ((l.take i).map f).sum + f (l.getD i 0) := by
  rw [List.take_succ_eq_append_getElem h, List.map_append, List.sum_append]
  have e : l.getD i 0 = l[i] := by simp [List.getD, h]
  rw [e]
  simp
theorem riseI_next {l : List Int} (h : RiseI l) (i : Nat) (hi : i + 1 < l.length) : l.getD i 0 < l.getD (i + 1) 0 := by
  have h1 := List.pairwise_iff_getElem.1 h i (i + 1) (by omega) hi (by omega)
  have e1 : l.getD i 0 = l[i] := by simp [List.getD, show i < l.length by omega]
  have e2 : l.getD (i + 1) 0 = l[i + 1] := by simp [List.getD, hi]
  rw [e1, e2]
  exact h1
theorem pos_allS {t : List Int} (h : ∀ j, j < t.length → 0 < t.getD j 0) : ∀ x ∈ t, 0 < x := fun x hx => by
  obtain ⟨j, hj, e⟩ := List.mem_iff_getElem.1 hx
  have h1 := h j hj
  have e1 : t.getD j 0 = t[j] := by simp [List.getD, hj]
  rw [e1, e] at h1
  exact h1
theorem rws_cells {w : World} {B b o n : Nat} {l : List Rws} (h : Es rwsE w B (some ⟨b, o, none⟩) n l) {i : Nat} (hi : i < n) :
    w.cell? ⟨b, o + i * 4, none⟩ = some (.int .i64 (l.getD i ⟨0, 0, 0, 0⟩).n) ∧ w.cell? ⟨b, o + i * 4 + 1, none⟩ = some (.int .i64 (l.getD i ⟨0, 0, 0, 0⟩).had) ∧ w.cell? ⟨b, o + i * 4 + 2, none⟩ = some (.int .i64 (l.getD i ⟨0, 0, 0, 0⟩).has) ∧ w.cell? ⟨b, o + i * 4 + 3, none⟩ = some (.int .i64 (l.getD i ⟨0, 0, 0, 0⟩).kept) := by
  have h1 := (h.at_ hi).2
  exact ⟨h1 0 _ rfl, h1 1 _ rfl, h1 2 _ rfl, h1 3 _ rfl⟩

theorem wrap_smallS (y : Nat) (h : y ≤ 1000000) : IntKind.i64.wrap (y : Int) = y := by
  simp [IntKind.wrap, IntKind.bits, IntKind.signed]
  omega
theorem num_sumS (a b : Nat) (h : a + b ≤ 1000000000) : Value.int .i64 (IntKind.i64.wrap ((a : Int) + (b : Int))) = .int .i64 ((a + b : Nat) : Int) := by
  rw [show IntKind.i64.wrap ((a : Int) + (b : Int)) = ((a + b : Nat) : Int) by simp [IntKind.wrap, IntKind.bits, IntKind.signed]; omega]
set_option maxHeartbeats 6400000 in
set_option maxRecDepth 100000 in
theorem shs_walk (HR : ShRows) (HM : ShMoveds) (HT : ShTurneds) (A B : Option Addr) (n c k d : Nat) (was is_ : List Int) (H : Nat) (w : World)
    (hn : n ≤ 140737488355328) (hnc : n ≤ c) (hk : k ≤ 140737488355328) (hkd : k ≤ d) (hH : H < 18446744073709551616) (ha : Ns w w.heap.size A n was) (hb : Ns w w.heap.size B k is_) :
    Calls Try.prog 5 #[.slice A n c, .slice B k d, .int .u64 H] w fun e w' => e = .returned (.bool true) ∧ Low w w' := by
  have HML := Lib.hid fun u => shlives_any HR HM HT u
  have HA := Lib.hid ha
  have HB := Lib.hid hb
  have HLA := Lib.hid ha.len
  have HLB := Lib.hid hb.len
  have HRR := Lib.hid HR
  have HMM := Lib.hid HM
  have HTT := Lib.hid HT
  have HHH := Lib.hid hH
  clear HR HM HT ha hb hH
  have hcs : 200 < n ∨ (n ≤ 200 ∧ n ≠ k) ∨ (n ≤ 200 ∧ n = k) := by omega
  rcases hcs with h1 | ⟨h1, h2⟩ | ⟨h1, rfl⟩
  · have g1 : (200 : Int) < n := by omega
    go_enter Try.func5, Try.ntmps5
    go_wp2_with fail
    refine (HML.out w).mono ?_
    rintro e w4 ⟨rfl, hl⟩
    go_wp2_with fail
    go_ret
    exact ⟨rfl, hl⟩
  · have g1 : ¬ (200 : Int) < n := by omega
    have g2 : ¬ (n : Int) = k := by omega
    go_enter Try.func5, Try.ntmps5
    go_wp2_with fail
    refine (HML.out w).mono ?_
    rintro e w4 ⟨rfl, hl⟩
    go_wp2_with fail
    go_ret
    exact ⟨rfl, hl⟩
  · have g1 : ¬ (200 : Int) < n := by omega
    have gnn : ((n : Int) != (n : Int)) = false := by simp
    go_enter Try.func5, Try.ntmps5
    go_wp2_with fail
    clear gnn
    go_loop [7] (fun v => ∃ i : Nat, i ≤ n ∧ v = .int .i64 i ∧ Hid (∀ j, j < i → 0 < was.getD j 0) ∧ Hid (∀ j, j < i → 0 < is_.getD j 0)) (fun v => n - (intOf v).toNat)
    case atStart => exact ⟨0, by omega, rfl, Lib.hid fun j h => by omega, Lib.hid fun j h => by omega⟩
    case round =>
      obtain ⟨i, hi, rfl, HP1, HP2⟩ := hrel
      by_cases hlt : i < n
      · obtain ⟨b1, o1, rfl, _, q1⟩ := HA.out.at_ hlt
        obtain ⟨b2, o2, rfl, _, q2⟩ := HB.out.at_ hlt
        have c1 := q1 i hlt
        have c2 := q2 i hlt
        have hlt2 : (i : Int) < n := by omega
        have N1 := Lib.hid (show 0 < was.getD i 0 → ∀ j, j < i + 1 → 0 < was.getD j 0 from fun h j hj => by
          by_cases e : j = i
          · rw [e]; exact h
          · exact HP1.out j (by omega))
        have N2 := Lib.hid (show 0 < is_.getD i 0 → ∀ j, j < i + 1 → 0 < is_.getD j 0 from fun h j hj => by
          by_cases e : j = i
          · rw [e]; exact h
          · exact HP2.out j (by omega))
        generalize was.getD i 0 = x at c1 N1
        generalize is_.getD i 0 = y at c2 N2
        clear q1 q2 HP1 HP2
        by_cases hx : 0 < x
        · have hx2 : ¬ x ≤ 0 := by omega
          by_cases hy : 0 < y
          · have hy2 : ¬ y ≤ 0 := by omega
            have R1 := Lib.hid (N1.out hx)
            have R2 := Lib.hid (N2.out hy)
            clear N1 N2
            go_wp2_with fail
            go_round
            case rel => exact ⟨i + 1, by omega, by go_num, R1, R2⟩
            case measure => simp [intOf]; omega
          · have hy2 : y ≤ 0 := by omega
            clear N1 N2
            go_wp2_with fail
            refine (HML.out w).mono ?_
            rintro e w4 ⟨rfl, hl⟩
            go_wp2_with fail
            go_ret
            exact ⟨rfl, hl⟩
        · have hx2 : x ≤ 0 := by omega
          clear N1 N2
          go_wp2_with fail
          refine (HML.out w).mono ?_
          rintro e w4 ⟨rfl, hl⟩
          go_wp2_with fail
          go_ret
          exact ⟨rfl, hl⟩
      · obtain rfl : i = n := by omega
        have hlt2 : ¬ (i : Int) < i := by omega
        have P1 := Lib.hid (pos_allS (t := was) (by rw [HLA.out]; exact HP1.out))
        have P2 := Lib.hid (pos_allS (t := is_) (by rw [HLB.out]; exact HP2.out))
        clear HP1 HP2
        go_wp2_with fail
        refine (HRR.out A B i c i d was is_ w h1 h1 hnc hkd HA.out HB.out).mono ?_
        rintro e w2 ⟨A1, c1, rfl, hE, hl⟩
        replace HA := Lib.hid (HA.out.below' hl hl.size)
        replace HB := Lib.hid (HB.out.below' hl hl.size)
        have hL := Lib.hid hl
        have HE := Lib.hid hE
        have HRL := Lib.hid (rowsS_len was is_)
        have HFW := Lib.hid (rowsS_few was is_)
        clear hl hE
        have SK := Lib.hid (sum_kept (is_ := is_) P1.out)
        have SH := Lib.hid (sum_had (is_ := is_) P1.out)
        have SS := Lib.hid (sum_has (was := was) P2.out)
        have SM := Lib.hid (moved_kept (was := was) (is_ := is_) (by rw [HLA.out, HLB.out]))
        have HGT := Lib.hid (rowsS_get was is_)
        have HRS := Lib.hid (nodesP_nodes (was ++ is_)).1
        have HKH := Lib.hid (kept_had was is_)
        have HKS := Lib.hid (kept_has was is_)
        have HC1 := Lib.hid (show ∀ x, was.count x ≤ i from fun x => by rw [← HLA.out]; exact List.count_le_length)
        have HC2 := Lib.hid (show ∀ x, is_.count x ≤ i from fun x => by rw [← HLB.out]; exact List.count_le_length)
        have HRF := Lib.hid (show ∀ x, rwsS was is_ x = ⟨x, (was.count x : Nat), (is_.count x : Nat), ((bothS was is_).count x : Nat)⟩ from fun x => rfl)
        have HTK := Lib.hid (sum_takeS (fun x => (bothS was is_).count x) (nodesP (was ++ is_)))
        have HTH := Lib.hid (sum_takeS (fun x => was.count x) (nodesP (was ++ is_)))
        have HTS := Lib.hid (sum_takeS (fun x => is_.count x) (nodesP (was ++ is_)))
        have HNX := Lib.hid (riseI_next HRS.out)
        generalize nodesP (was ++ is_) = L at *
        have HG2 := Lib.hid (show ∀ z, z < L.length → (rowsS was is_).getD z ⟨0, 0, 0, 0⟩ = ⟨L.getD z 0, (was.count (L.getD z 0) : Nat), (is_.count (L.getD z 0) : Nat), ((bothS was is_).count (L.getD z 0) : Nat)⟩ from fun z hz => by rw [HGT.out z hz, HRF.out])
        obtain ⟨m, hm⟩ : ∃ m, m = L.length := ⟨_, rfl⟩
        rw [HRL.out, ← hm] at HE HFW ⊢
        rw [HLA.out, HLB.out] at HFW
        have hm4 := HFW.out
        replace hm := Lib.hid hm
        clear HRL HGT HRF
        go_wp2_with fail
        go_loopw [9, 10, 11, 12] (fun v9 v10 v11 v12 wr => ∃ (z kp hd hs : Nat), z ≤ m ∧ v12 = .int .i64 z ∧ v9 = .int .i64 kp ∧ v10 = .int .i64 hd ∧ v11 = .int .i64 hs ∧ kp ≤ 200 * z ∧ hd ≤ 200 * z ∧ hs ≤ 200 * z ∧ Hid (kp = ((L.take z).map fun x => (bothS was is_).count x).sum) ∧ Hid (hd = ((L.take z).map fun x => was.count x).sum) ∧ Hid (hs = ((L.take z).map fun x => is_.count x).sum) ∧ Hid (Low w2 wr)) (fun _ _ _ v _ => m - (intOf v).toNat)
        case atStart => exact ⟨0, 0, 0, 0, by omega, rfl, rfl, rfl, rfl, by omega, by omega, by omega, Lib.hid (by simp), Lib.hid (by simp), Lib.hid (by simp), Lib.hid (Low.refl _)⟩
        case round =>
          obtain ⟨z, kp, hd, hs, hz, rfl, rfl, rfl, rfl, z1, z2, z3, HZ1, HZ2, HZ3, hL2⟩ := hrel
          by_cases hzm : z < m
          · have hzm2 : (z : Int) < m := by omega
            obtain ⟨b1, o1, rfl, hbe, _⟩ := HE.out.mem (by omega)
            have hE := HE.out.below' hL2.out hL2.out.size
            obtain ⟨c0, c1, c2, c3⟩ := rws_cells hE hzm
            rw [HG2.out z (by rw [← hm.out]; exact hzm)] at c0 c1 c2 c3
            have T1 := Lib.hid (HTK.out z (by rw [← hm.out]; exact hzm))
            have T2 := Lib.hid (HTH.out z (by rw [← hm.out]; exact hzm))
            have T3 := Lib.hid (HTS.out z (by rw [← hm.out]; exact hzm))
            rw [← HZ1.out] at T1
            rw [← HZ2.out] at T2
            rw [← HZ3.out] at T3
            have k1 := HKH.out (L.getD z 0)
            have k2 := HKS.out (L.getD z 0)
            have k3 := HC1.out (L.getD z 0)
            have k4 := HC2.out (L.getD z 0)
            have HPV := Lib.hid (show ∀ y, z = y + 1 → wr.cell? ⟨b1, o1 + y * 4, none⟩ = some (.int .i64 (L.getD y 0)) ∧ L.getD y 0 < L.getD z 0 from fun y hy => by
              subst hy
              refine ⟨?_, HNX.out y (by rw [← hm.out]; exact hzm)⟩
              have e := (rws_cells hE (i := y) (by omega)).1
              rw [HG2.out y (by rw [← hm.out]; omega)] at e
              exact e)
            replace c0 : wr.cell? ⟨b1, o1 + z * 4, none⟩ = some (.int .i64 (L.getD z 0)) := c0
            replace c1 : wr.cell? ⟨b1, o1 + z * 4 + 1, none⟩ = some (.int .i64 (was.count (L.getD z 0) : Nat)) := c1
            replace c2 : wr.cell? ⟨b1, o1 + z * 4 + 2, none⟩ = some (.int .i64 (is_.count (L.getD z 0) : Nat)) := c2
            replace c3 : wr.cell? ⟨b1, o1 + z * 4 + 3, none⟩ = some (.int .i64 ((bothS was is_).count (L.getD z 0) : Nat)) := c3
            generalize (bothS was is_).count (L.getD z 0) = qk at T1 k1 k2 c3
            generalize was.count (L.getD z 0) = qh at T2 k1 k3 c1
            generalize is_.count (L.getD z 0) = qs at T3 k2 k4 c2
            generalize L.getD z 0 = x at c0 HPV
            clear HZ1 HZ2 HZ3 hE
            have u1 : ¬ (qh : Int) < qk := by omega
            have u2 : ¬ (qs : Int) < qk := by omega
            have u3 : ¬ (qk : Int) < 0 := by omega
            have v1 : ¬ qh < qk := by omega
            have v2 : ¬ qs < qk := by omega
            have HBD := Lib.hid (show qk ≤ 200 ∧ qh ≤ 200 ∧ qs ≤ 200 by omega)
            have HZB := Lib.hid (show kp ≤ 200 * z ∧ hd ≤ 200 * z ∧ hs ≤ 200 * z from ⟨z1, z2, z3⟩)
            have hbw : b1 < wr.heap.size := by have := hL2.out.size; omega
            clear hbe
            have HD2 := Lib.hid (fun q => below_drewN hL2.out q)
            have HCX := Lib.hid (show ∀ q, (wr.drewN q).cell? ⟨b1, o1 + z * 4 + 1, none⟩ = some (.int .i64 (qh : Int)) ∧ (wr.drewN q).cell? ⟨b1, o1 + z * 4 + 2, none⟩ = some (.int .i64 (qs : Int)) ∧ (wr.drewN q).cell? ⟨b1, o1 + z * 4 + 3, none⟩ = some (.int .i64 (qk : Int)) from fun q => ⟨c1, c2, c3⟩)
            cases z with
            | zero =>
              replace c1 : wr.cell? ⟨b1, o1 + 1, none⟩ = some (.int .i64 (qh : Int)) := by simpa using c1
              replace c2 : wr.cell? ⟨b1, o1 + 2, none⟩ = some (.int .i64 (qs : Int)) := by simpa using c2
              replace c3 : wr.cell? ⟨b1, o1 + 3, none⟩ = some (.int .i64 (qk : Int)) := by simpa using c3
              replace c0 : wr.cell? ⟨b1, o1, none⟩ = some (.int .i64 x) := by simpa using c0
              have hm0 : (0 : Int) < m := by omega
              clear HPV HCX HD2
              go_wp2_with fail
              refine wp_region_plan (.rd 0 (.rd 1 (.rd 2 (.rd 3 (.rd 4 (.rd 5 (.rd 6 (.rd 7 (.rd 8 (.rd 9 (.rd 10 (.rd 11 (.rd 12 (.rd 13 (.rd 14 (.rd 15 (.rd 16 (.rd 17 (.rd 18 (.rd 19 (.rd 20 (.rd 21 (.rd 22 (.rd 23 (.rd 24 (.rd 25 (.rd 26 (.rd 27 (.rd 28 (.rd 29 (.rd 30 (.rd 31 (.rd 32 (.rd 33 (.rd 34 (.rd 35 (.rd 36 (.rd 37 (.rd 38 (.rd 39 (.rd 40 (.rd 41 (.rd 42 (.rd 43 (.rd 44 (.rd 45 (.rd 46 (.rd 47 (.rd 48 (.rd 49 (.done))))))))))))))))))))))))))))))))))))))))))))))))))) (by kernel_rfl) (by kernel_rfl) (fun _ _ d _ _ h => by cases d <;> exact h) (by kernel_rfl) ?_
              replace hL2 : Hid (Low w2 wr.drew) := Lib.hid (Below.drew hL2.out)
              replace c0 : wr.drew.cell? ⟨b1, o1, none⟩ = _ := c0
              replace c1 : wr.drew.cell? ⟨b1, o1 + 1, none⟩ = _ := c1
              replace c2 : wr.drew.cell? ⟨b1, o1 + 2, none⟩ = _ := c2
              replace c3 : wr.drew.cell? ⟨b1, o1 + 3, none⟩ = _ := c3
              replace hbw : b1 < wr.drew.heap.size := hbw
              generalize wr.drew = wa at *
              iterate 50 (first | (refine walkP_read (v := _) rfl (by rfl) (by
                  intro yw hyw
                  have qc0 := (hyw.cell (p := ⟨b1, o1, none⟩) hbw).trans c0
                  have qc1 := (hyw.cell (p := ⟨b1, o1 + 1, none⟩) hbw).trans c1
                  have qc2 := (hyw.cell (p := ⟨b1, o1 + 2, none⟩) hbw).trans c2
                  have qc3 := (hyw.cell (p := ⟨b1, o1 + 3, none⟩) hbw).trans c3
                  first
                  | (go_simp; try rfl)) ?_; simp only [Act.put, List.setIfInBounds_toArray, List.set_cons_zero, List.set_cons_succ]) | (refine walkP_skip rfl (by rfl) ?_; simp only [Act.put, List.setIfInBounds_toArray, List.set_cons_zero, List.set_cons_succ]))
              unfold walkP
              go_wp2_with fail
              refine wp_region_plan (.rd 0 (.rd 1 (.rd 2 (.rd 3 (.rd 4 (.rd 5 (.rd 6 (.rd 7 (.rd 8 (.rd 9 (.rd 10 (.rd 11 (.rd 12 (.rd 13 (.rd 14 (.rd 15 (.rd 16 (.rd 17 (.rd 18 (.rd 19 (.rd 20 (.rd 21 (.rd 22 (.rd 23 (.done))))))))))))))))))))))))) (by kernel_rfl) (by kernel_rfl) (fun _ _ d _ _ h => by cases d <;> exact h) (by kernel_rfl) ?_
              replace hL2 : Hid (Low w2 wa.drew) := Lib.hid (Below.drew hL2.out)
              replace c0 : wa.drew.cell? ⟨b1, o1, none⟩ = _ := c0
              replace c1 : wa.drew.cell? ⟨b1, o1 + 1, none⟩ = _ := c1
              replace c2 : wa.drew.cell? ⟨b1, o1 + 2, none⟩ = _ := c2
              replace c3 : wa.drew.cell? ⟨b1, o1 + 3, none⟩ = _ := c3
              replace hbw : b1 < wa.drew.heap.size := hbw
              generalize wa.drew = wb at *
              iterate 24 (first | (refine walkP_read (v := _) rfl (by rfl) (by
                  intro yw hyw
                  have qc0 := (hyw.cell (p := ⟨b1, o1, none⟩) hbw).trans c0
                  have qc1 := (hyw.cell (p := ⟨b1, o1 + 1, none⟩) hbw).trans c1
                  have qc2 := (hyw.cell (p := ⟨b1, o1 + 2, none⟩) hbw).trans c2
                  have qc3 := (hyw.cell (p := ⟨b1, o1 + 3, none⟩) hbw).trans c3
                  first
                  | (go_simp; try rfl)) ?_; simp only [Act.put, List.setIfInBounds_toArray, List.set_cons_zero, List.set_cons_succ]) | (refine walkP_skip rfl (by rfl) ?_; simp only [Act.put, List.setIfInBounds_toArray, List.set_cons_zero, List.set_cons_succ]))
              unfold walkP
              go_wp2_with fail
              go_roundw
              case rel => exact ⟨0 + 1, kp + qk, hd + qh, hs + qs, by omega, by go_num, num_sumS kp qk (by have h9 := HBD.out; have h8 := HZB.out; omega), num_sumS hd qh (by have h9 := HBD.out; have h8 := HZB.out; omega), num_sumS hs qs (by have h9 := HBD.out; have h8 := HZB.out; omega), by have h9 := HBD.out; have h8 := HZB.out; omega, by have h9 := HBD.out; have h8 := HZB.out; omega, by have h9 := HBD.out; have h8 := HZB.out; omega, Lib.hid T1.out.symm, Lib.hid T2.out.symm, Lib.hid T3.out.symm, hL2⟩
              case measure => simp [intOf]; omega
            | succ y =>
              obtain ⟨p1, p2⟩ := HPV.out y rfl
              generalize L.getD y 0 = pv at p1 p2
              have hy1 : ((y + 1 : Nat) : Int) - 1 = y := by omega
              have hyw : IntKind.i64.wrap (y : Int) = y := wrap_smallS y (by omega)
              have hy2 : (y : Int) < m := by omega
              have hy3 : ¬ (y : Int) < 0 := by omega
              have hy4 : (0 : Int) < ((y + 1 : Nat) : Int) := by omega
              have hy5 : 0 < y + 1 := by omega
              have p3 : ¬ x ≤ pv := by omega
              clear HPV HCX HD2
              generalize hzz : y + 1 = zz at *
              replace hzz := Lib.hid hzz
              go_wp2_with fail
              refine wp_region_plan (.rd 0 (.rd 1 (.rd 2 (.rd 3 (.rd 4 (.rd 5 (.rd 6 (.rd 7 (.rd 8 (.rd 9 (.rd 10 (.rd 11 (.rd 12 (.rd 13 (.rd 14 (.rd 15 (.rd 16 (.rd 17 (.rd 18 (.rd 19 (.rd 20 (.rd 21 (.rd 22 (.rd 23 (.rd 24 (.rd 25 (.rd 26 (.rd 27 (.rd 28 (.rd 29 (.rd 30 (.rd 31 (.rd 32 (.rd 33 (.rd 34 (.rd 35 (.rd 36 (.rd 37 (.rd 38 (.rd 39 (.rd 40 (.rd 41 (.rd 42 (.rd 43 (.rd 44 (.rd 45 (.rd 46 (.rd 47 (.rd 48 (.rd 49 (.done))))))))))))))))))))))))))))))))))))))))))))))))))) (by kernel_rfl) (by kernel_rfl) (fun _ _ d _ _ h => by cases d <;> exact h) (by kernel_rfl) ?_
              replace hL2 : Hid (Low w2 wr.drew) := Lib.hid (Below.drew hL2.out)
              replace c0 : wr.drew.cell? ⟨b1, o1 + zz * 4, none⟩ = _ := c0
              replace c1 : wr.drew.cell? ⟨b1, o1 + zz * 4 + 1, none⟩ = _ := c1
              replace c2 : wr.drew.cell? ⟨b1, o1 + zz * 4 + 2, none⟩ = _ := c2
              replace c3 : wr.drew.cell? ⟨b1, o1 + zz * 4 + 3, none⟩ = _ := c3
              replace p1 : wr.drew.cell? ⟨b1, o1 + y * 4, none⟩ = _ := p1
              replace hbw : b1 < wr.drew.heap.size := hbw
              generalize wr.drew = wa at *
              iterate 43 (first | (refine walkP_read (v := _) rfl (by rfl) (by
                  intro yw hyw
                  have qc0 := (hyw.cell (p := ⟨b1, o1 + zz * 4, none⟩) hbw).trans c0
                  have qc1 := (hyw.cell (p := ⟨b1, o1 + zz * 4 + 1, none⟩) hbw).trans c1
                  have qc2 := (hyw.cell (p := ⟨b1, o1 + zz * 4 + 2, none⟩) hbw).trans c2
                  have qc3 := (hyw.cell (p := ⟨b1, o1 + zz * 4 + 3, none⟩) hbw).trans c3
                  have qp1 := (hyw.cell (p := ⟨b1, o1 + y * 4, none⟩) hbw).trans p1
                  first
                  | (go_simp; try rfl)) ?_; simp only [Act.put, List.setIfInBounds_toArray, List.set_cons_zero, List.set_cons_succ]) | (refine walkP_skip rfl (by rfl) ?_; simp only [Act.put, List.setIfInBounds_toArray, List.set_cons_zero, List.set_cons_succ]))
              refine walkP_read (v := .int .i64 (y : Int)) rfl (by rfl) (by intro yw hyw; go_simp; try rfl) ?_
              simp only [Act.put, List.setIfInBounds_toArray, List.set_cons_zero, List.set_cons_succ]
              iterate 6 (first | (refine walkP_read (v := _) rfl (by rfl) (by
                  intro yw hyw
                  have qc0 := (hyw.cell (p := ⟨b1, o1 + zz * 4, none⟩) hbw).trans c0
                  have qc1 := (hyw.cell (p := ⟨b1, o1 + zz * 4 + 1, none⟩) hbw).trans c1
                  have qc2 := (hyw.cell (p := ⟨b1, o1 + zz * 4 + 2, none⟩) hbw).trans c2
                  have qc3 := (hyw.cell (p := ⟨b1, o1 + zz * 4 + 3, none⟩) hbw).trans c3
                  have qp1 := (hyw.cell (p := ⟨b1, o1 + y * 4, none⟩) hbw).trans p1
                  first
                  | (go_simp; try rfl)) ?_; simp only [Act.put, List.setIfInBounds_toArray, List.set_cons_zero, List.set_cons_succ]) | (refine walkP_skip rfl (by rfl) ?_; simp only [Act.put, List.setIfInBounds_toArray, List.set_cons_zero, List.set_cons_succ]))
              unfold walkP
              go_wp2_with fail
              refine wp_region_plan (.rd 0 (.rd 1 (.rd 2 (.rd 3 (.rd 4 (.rd 5 (.rd 6 (.rd 7 (.rd 8 (.rd 9 (.rd 10 (.rd 11 (.rd 12 (.rd 13 (.rd 14 (.rd 15 (.rd 16 (.rd 17 (.rd 18 (.rd 19 (.rd 20 (.rd 21 (.rd 22 (.rd 23 (.done))))))))))))))))))))))))) (by kernel_rfl) (by kernel_rfl) (fun _ _ d _ _ h => by cases d <;> exact h) (by kernel_rfl) ?_
              replace hL2 : Hid (Low w2 wa.drew) := Lib.hid (Below.drew hL2.out)
              replace c0 : wa.drew.cell? ⟨b1, o1 + zz * 4, none⟩ = _ := c0
              replace c1 : wa.drew.cell? ⟨b1, o1 + zz * 4 + 1, none⟩ = _ := c1
              replace c2 : wa.drew.cell? ⟨b1, o1 + zz * 4 + 2, none⟩ = _ := c2
              replace c3 : wa.drew.cell? ⟨b1, o1 + zz * 4 + 3, none⟩ = _ := c3
              replace hbw : b1 < wa.drew.heap.size := hbw
              generalize wa.drew = wb at *
              iterate 24 (first | (refine walkP_read (v := _) rfl (by rfl) (by
                  intro yw hyw
                  have qc0 := (hyw.cell (p := ⟨b1, o1 + zz * 4, none⟩) hbw).trans c0
                  have qc1 := (hyw.cell (p := ⟨b1, o1 + zz * 4 + 1, none⟩) hbw).trans c1
                  have qc2 := (hyw.cell (p := ⟨b1, o1 + zz * 4 + 2, none⟩) hbw).trans c2
                  have qc3 := (hyw.cell (p := ⟨b1, o1 + zz * 4 + 3, none⟩) hbw).trans c3
                  first
                  | (go_simp; try rfl)) ?_; simp only [Act.put, List.setIfInBounds_toArray, List.set_cons_zero, List.set_cons_succ]) | (refine walkP_skip rfl (by rfl) ?_; simp only [Act.put, List.setIfInBounds_toArray, List.set_cons_zero, List.set_cons_succ]))
              unfold walkP
              go_wp2_with fail
              go_roundw
              case rel => exact ⟨zz + 1, kp + qk, hd + qh, hs + qs, by omega, by go_num, num_sumS kp qk (by have h9 := HBD.out; have h8 := HZB.out; omega), num_sumS hd qh (by have h9 := HBD.out; have h8 := HZB.out; omega), num_sumS hs qs (by have h9 := HBD.out; have h8 := HZB.out; omega), by have h9 := HBD.out; have h8 := HZB.out; omega, by have h9 := HBD.out; have h8 := HZB.out; omega, by have h9 := HBD.out; have h8 := HZB.out; omega, Lib.hid T1.out.symm, Lib.hid T2.out.symm, Lib.hid T3.out.symm, hL2⟩
              case measure => simp [intOf]; omega
          · obtain rfl : z = m := by omega
            have hzm2 : ¬ (z : Int) < z := by omega
            rw [List.take_of_length_le (by rw [← hm.out]; exact Nat.le_refl _)] at HZ1 HZ2 HZ3
            rw [SK.out] at HZ1
            rw [SH.out, HLA.out] at HZ2
            rw [SS.out, HLB.out] at HZ3
            have HMV := Lib.hid SM.out
            rw [HLA.out, ← HZ1.out] at HMV
            have e2 : i = hd := HZ2.out.symm
            have e3 : i = hs := HZ3.out.symm
            subst e2
            subst e3
            have hkm : (kp : Int) + (movedS was is_ : Nat) = i := by have h9 := HMV.out; omega
            have HTW := Lib.hid (turned_same was [H])
            go_wp2_with fail
            refine (HMM.out A B i c i d was is_ wr h1 h1 hnc hkd (HA.out.below' hL2.out hL2.out.size) (HB.out.below' hL2.out hL2.out.size)).mono ?_
            rintro e w5 ⟨rfl, hl⟩
            replace hL2 := Lib.hid (hL2.out.trans hl)
            generalize movedS was is_ = mv at *
            clear hl
            have hl6 := Low.alloc w5 (.cells #[.int .u64 (H : Int)] 36)
            have hE : Hs (w5.alloc (.cells #[.int .u64 (H : Int)] 36)) (w5.alloc (.cells #[.int .u64 (H : Int)] 36)).heap.size (some ⟨w5.heap.size, 0, none⟩) 1 [H] := by
              refine ⟨?_, fun h hh => ?_⟩
              · rw [show (w5.alloc (.cells #[.int .u64 (H : Int)] 36)).heap.size = w5.heap.size + 1 by simp]
                exact Es.one_ (E := u64E) w5 36 (H : Int) trivial (Nat.lt_succ_self _)
              · obtain rfl := List.mem_singleton.1 hh
                exact HHH.out
            have HEE := Lib.hid hE
            have HL6 := Lib.hid (hL2.out.trans hl6)
            have hii : ((i : Int) == (i : Int)) = true := by simp
            clear hE hl6
            go_wp2_with fail
            generalize w5.alloc (.cells #[.int .u64 (H : Int)] 36) = w6 at *
            refine (HTT.out A A _ i c i c 1 1 was was [H] w6 h1 h1 (by omega) hnc hnc (by omega) (HA.out.below' HL6.out HL6.out.size) (HA.out.below' HL6.out HL6.out.size) HEE.out).mono ?_
            rintro e w7 ⟨rfl, hl⟩
            rw [HTW.out]
            replace HL6 := Lib.hid (HL6.out.trans hl)
            clear hl
            go_wp2_with fail
            refine (HML.out w7).mono ?_
            rintro e w8 ⟨rfl, hl⟩
            replace hL := Lib.hid ((hL.out.trans HL6.out).trans hl)
            clear hl
            go_wp2_with fail
            go_ret
            exact ⟨rfl, hL.out⟩
end Go.Proofs.Ytjmpcmgnbamniaa
