/- The walk of MaglevTells, given what the program's own functions tell. Condition: the node is an int. -/
import Derived.Test.YtogmfhofdjiihaaMgK
set_option maxRecDepth 100000
namespace Go.Proofs.Ytogmfhofdjiihaa
open Go.RowKit
set_option linter.unusedVariables false

theorem count_takeM (t : List Int) (i : Nat) (node : Int) (h : i < t.length) : (t.take (i + 1)).count node = (t.take i).count node + (if t.getD i 0 = node then 1 else 0) := by
  rw [take_oneP t i h, List.count_append, List.count_singleton]
  simp
set_option maxHeartbeats 3200000 in
theorem mgt_walk (HR : MgRights) (HT : MgTotals) (HC : MgCounts) (HBu : MgBuilds) (A : Option Addr) (n c : Nat) (l : List Mbr) (B : Option Addr) (k d : Nat) (t : List Int) (node : Int) (w : World)
    (hn : n ≤ 140737488355328) (hnc : n ≤ c) (hb : Es mbrE w w.heap.size A n l) (hk : k ≤ 140737488355328) (hkd : k ≤ d) (ht : Ns w w.heap.size B k t) (hnode : i64ok node) :
    Calls Try.prog 4 #[.slice A n c, .slice B k d, .int .i64 node] w fun e w' => e = .returned (.bool true) ∧ Low w w' := by
  have HB := Lib.hid hb
  have HN := Lib.hid ht
  have HML := Lib.hid fun u => mglives_any HR HC HBu u
  have HRR := Lib.hid HR
  have HTT := Lib.hid HT
  have HCC := Lib.hid HC
  clear hb HR HC HBu ht HT
  have hcs : 40 < n ∨ (n ≤ 40 ∧ 300 < k) ∨ (n ≤ 40 ∧ k ≤ 300) := by omega
  rcases hcs with h1 | ⟨h1, h2⟩ | ⟨h1, h2⟩
  · have h3 : (40 : Int) < n := by omega
    go_enter Try.func4, Try.ntmps4
    go_wp2_with fail
    refine (HML.out w).mono ?_
    rintro e w5 ⟨rfl, hl⟩
    go_wp2_with fail
    go_ret
    exact ⟨rfl, hl⟩
  · have h3 : ¬ (40 : Int) < n := by omega
    have h4 : (300 : Int) < k := by omega
    go_enter Try.func4, Try.ntmps4
    go_wp2_with fail
    refine (HML.out w).mono ?_
    rintro e w5 ⟨rfl, hl⟩
    go_wp2_with fail
    go_ret
    exact ⟨rfl, hl⟩
  · have h3 : ¬ (40 : Int) < n := by omega
    have h4 : ¬ (300 : Int) < k := by omega
    have HKL := Lib.hid HN.out.len
    go_enter Try.func4, Try.ntmps4
    go_wp2_with fail
    go_loop [7, 8] (fun v7 v8 => ∃ (i z : Nat), i ≤ k ∧ v8 = .int .i64 i ∧ v7 = .int .i64 z ∧ z ≤ i ∧ Hid (z = (t.take i).count node)) (fun _ v => k - (intOf v).toNat)
    case atStart => exact ⟨0, 0, by omega, rfl, rfl, by omega, Lib.hid (by simp)⟩
    case round =>
      obtain ⟨i, z, hi, rfl, rfl, hz, HZ⟩ := hrel
      by_cases hlt : i < k
      · obtain ⟨b1, o1, rfl, _, h5⟩ := HN.out.at_ hlt
        have d1 := h5 i hlt
        have HCT := Lib.hid (count_takeM t i node (by rw [HKL.out]; exact hlt))
        rw [← HZ.out] at HCT
        clear h5 HZ
        by_cases hy : t.getD i 0 = node
        · rw [if_pos hy] at HCT
          rw [hy] at d1
          clear hy
          go_wp2_with fail
          go_round
          case rel => exact ⟨i + 1, z + 1, by omega, by go_num, by go_num, by omega, Lib.hid HCT.out.symm⟩
          case measure => simp [intOf]; omega
        · rw [if_neg hy] at HCT
          have hy2 : (t.getD i 0 == node) = false := by simpa using hy
          generalize t.getD i 0 = y at hy hy2 d1
          go_wp2_with fail
          go_round
          case rel => exact ⟨i + 1, z, by omega, by go_num, rfl, by omega, Lib.hid (by rw [HCT.out]; omega)⟩
          case measure => simp [intOf]; omega
      · obtain rfl : i = k := by omega
        rw [List.take_of_length_le (by rw [HKL.out]; exact Nat.le_refl _)] at HZ
        go_wp2_with fail
        refine (HRR.out A n c l w h1 hnc HB.out).mono ?_
        rintro e w2 ⟨rfl, hl⟩
        replace HB := Lib.hid (HB.out.below' hl hl.size)
        replace HN := Lib.hid (HN.out.below' hl hl.size)
        have hL := Lib.hid hl
        clear hl HRR
        go_wp2_with fail
        refine (rright_any A n c l w2 h1 HB.out).mono ?_
        rintro e w3 ⟨rfl, hl⟩
        replace HB := Lib.hid (HB.out.below' hl hl.size)
        replace HN := Lib.hid (HN.out.below' hl hl.size)
        replace hL := Lib.hid (hL.out.trans hl)
        clear hl
        generalize rightM l = r at *
        have hrr : (r == r) = true := by simp
        go_wp2_with fail
        refine (HTT.out A n c l w3 h1 hnc HB.out).mono ?_
        rintro e w4 ⟨rfl, hl⟩
        replace HB := Lib.hid (HB.out.below' hl hl.size)
        replace HN := Lib.hid (HN.out.below' hl hl.size)
        replace hL := Lib.hid (hL.out.trans hl)
        clear hl HTT
        go_wp2_with fail
        refine (rtotal_any A n c l w4 h1 HB.out).mono ?_
        rintro e w5 ⟨rfl, hl⟩
        replace HN := Lib.hid (HN.out.below' hl hl.size)
        replace hL := Lib.hid (hL.out.trans hl)
        clear hl HB
        generalize totalM l = s at *
        have hss : (s == s) = true := by simp
        go_wp2_with fail
        refine (HCC.out B i d t node w5 (by omega) hnode HN.out).mono ?_
        rintro e w6 ⟨rfl, hl⟩
        rw [← HZ.out]
        replace hL := Lib.hid (hL.out.trans hl)
        clear hl
        go_wp2_with fail
        refine (HML.out w6).mono ?_
        rintro e w7 ⟨rfl, hl⟩
        replace hL := Lib.hid (hL.out.trans hl)
        clear hl
        go_wp2_with fail
        go_ret
        exact ⟨rfl, hL.out⟩
end Go.Proofs.Ytogmfhofdjiihaa
