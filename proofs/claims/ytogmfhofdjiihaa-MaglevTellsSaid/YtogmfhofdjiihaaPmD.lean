/- Stage 16: what perm's Prime, Offset and Skip answer. Condition: sizes are ints. -/
import Derived.Test.YtogmfhofdjiihaaPmC
import Derived.Test.YtogmfhofdjiihaaKdF
import Derived.WalkMore
set_option maxRecDepth 100000
namespace Go.Proofs.Ytogmfhofdjiihaa
open Go.RowKit
set_option linter.unusedVariables false

theorem permcan_any (m : Int) (w : World) : Calls Try.prog 35 #[.int .i64 m] w fun e w' => e = .returned (.bool (tableB m)) ∧ w = w' := by
  by_cases h2 : 2 ≤ m
  · by_cases h3 : m ≤ 1000
    · have HE := Lib.hid (show tableB m = true from decide_eq_true ⟨h2, h3⟩)
      go_enter Try.func35, Try.ntmps35
      go_wp2_with fail
      go_ret
      exact ⟨ret_bool HE.out.symm, rfl⟩
    · have HE := Lib.hid (show tableB m = false from decide_eq_false (by omega))
      go_enter Try.func35, Try.ntmps35
      go_wp2_with fail
      go_ret
      exact ⟨ret_bool HE.out.symm, rfl⟩
  · have HE := Lib.hid (show tableB m = false from decide_eq_false (by omega))
    go_enter Try.func35, Try.ntmps35
    go_wp2_with fail
    go_ret
    exact ⟨ret_bool HE.out.symm, rfl⟩

/-- nothing up to the root divides it: it is a prime number -/
theorem primeB_root {n : Int} {d : Nat} (h0 : 2 ≤ n) (h1 : n ≤ 1000000) (hd : n < (d : Int) * (d : Int)) (hN : ∀ e : Nat, 2 ≤ e → e < d → ¬ n % (e : Int) = 0) : primeB n = true :=
  primeB_yes h0 h1 fun e h2 h3 h4 h5 => by
    by_cases he : e < d
    · exact hN e h2 he h5
    · obtain ⟨k, hk⟩ := Int.dvd_of_emod_eq_zero h5
      have hk0 : 2 ≤ k := by
        rcases Int.lt_or_le k 2 with h | h
        · have h6 : (e : Int) * k ≤ (e : Int) * 1 := Int.mul_le_mul_of_nonneg_left (by omega) (by omega)
          rw [Int.mul_one, ← hk] at h6
          omega
        · exact h
      obtain ⟨j, rfl⟩ : ∃ j : Nat, k = j := ⟨k.toNat, by omega⟩
      have hj : j < d := by
        rcases Nat.lt_or_ge j d with h | h
        · exact h
        · have h6 : (d : Int) * (d : Int) ≤ (e : Int) * (j : Int) := Int.mul_le_mul (by omega) (by omega) (by omega) (by omega)
          omega
      exact hN j (by omega) hj (by rw [hk]; exact Int.mul_emod_left _ _)

set_option maxHeartbeats 800000 in
theorem divisor_any (n : Int) (w : World) (h0 : 2 ≤ n) (h1 : n ≤ 1000000) : Calls Try.prog 23 #[.int .i64 n] w fun e w' => ∃ r : Int, e = .returned (.int .i64 r) ∧ (r == n) = primeB n ∧ w = w' := by
  go_enter Try.func23, Try.ntmps23
  go_wp2_with fail
  go_step3
  go_wp2_with fail
  go_step3
  go_wp2_with fail
  go_loop [3] (fun v => ∃ d : Nat, 2 ≤ d ∧ d ≤ 1001 ∧ v = .int .i64 d ∧ Hid (∀ e : Nat, 2 ≤ e → e < d → ¬ n % (e : Int) = 0)) (fun v => 1001 - (intOf v).toNat)
  case atStart => exact ⟨2, by omega, by omega, rfl, Lib.hid fun e h h1 => by omega⟩
  case round =>
    obtain ⟨d, hd2, hd, rfl, HN⟩ := hrel
    obtain ⟨q, hq⟩ : ∃ q : Int, q = (d : Int) * (d : Int) := ⟨_, rfl⟩
    have hq2 : q ≤ 1002001 := by
      rw [hq]
      exact Int.le_trans (Int.mul_le_mul (show (d : Int) ≤ 1001 by omega) (show (d : Int) ≤ 1001 by omega) (by omega) (by omega)) (by omega)
    have hq0 : 0 ≤ q := by rw [hq]; exact Int.mul_nonneg (by omega) (by omega)
    have hw : wrap64 ((d : Int) * (d : Int)) = q := by rw [← hq]; exact wrap64_inP q (by omega) (by omega)
    have HQ := Lib.hid hq
    clear hq
    by_cases hgt : n < q
    · have HE := Lib.hid (primeB_root h0 h1 (HQ.out ▸ hgt) HN.out)
      go_wp2_with fail
      go_ret
      exact ⟨n, rfl, by rw [HE.out]; simp, rfl⟩
    · have hnz : ¬ (d : Int) = 0 := by omega
      have ht : n.tmod (d : Int) = n % (d : Int) := Int.tmod_eq_emod_of_nonneg (by omega)
      have hdl : d ≤ 1000 := by
        rcases Nat.lt_or_ge 1000 d with h | h
        · have : (1001 : Int) * 1001 ≤ (d : Int) * (d : Int) := Int.mul_le_mul (by omega) (by omega) (by omega) (by omega)
          rw [← HQ.out] at this
          omega
        · exact h
      by_cases hz : n % (d : Int) = 0
      · have hlt : (d : Int) < n := by
          rcases Int.lt_or_le (d : Int) n with h | h
          · exact h
          · have : (2 : Int) * (d : Int) ≤ (d : Int) * (d : Int) := Int.mul_le_mul_of_nonneg_right (by omega) (by omega)
            rw [← HQ.out] at this
            omega
        have HE := Lib.hid (primeB_cut hd2 hdl hlt hz)
        have hne : ((d : Int) == n) = false := by simp; omega
        have HNE := Lib.hid hne
        clear hne hlt
        go_wp2_with fail
        go_ret
        exact ⟨_, rfl, by rw [HE.out, HNE.out], rfl⟩
      · have HN2 : Hid (∀ e : Nat, 2 ≤ e → e < d + 1 → ¬ n % (e : Int) = 0) := Lib.hid fun e h h1 => by
          by_cases he : e = d
          · rw [he]; exact hz
          · exact HN.out e h (by omega)
        have hz2 : (n % (d : Int) == 0) = false := by simpa using hz
        clear HN
        go_wp2_with fail
        go_round
        case rel => exact ⟨d + 1, by omega, by omega, by go_num, HN2⟩
        case measure => simp [intOf]; omega

theorem pmprime_any : PmPrimes := by
  intro n w hn
  by_cases h2 : n < 2
  · have HE := Lib.hid (primeB_no (n := n) (Or.inl h2))
    go_enter Try.func16, Try.ntmps16
    go_wp2_with fail
    go_ret
    exact ⟨ret_bool HE.out.symm, Low.refl _⟩
  · by_cases h3 : 1000000 < n
    · have HE := Lib.hid (primeB_no (n := n) (Or.inr h3))
      go_enter Try.func16, Try.ntmps16
      go_wp2_with fail
      go_ret
      exact ⟨ret_bool HE.out.symm, Low.refl _⟩
    · have hge : 2 ≤ n := by omega
      have hle : n ≤ 1000000 := by omega
      go_enter Try.func16, Try.ntmps16
      go_wp2_with fail
      refine (divisor_any n w hge hle).mono ?_
      rintro e w1 ⟨r, rfl, hr, rfl⟩
      have HR := Lib.hid hr
      obtain ⟨q, hq⟩ : ∃ q : Bool, q = (r == n) := ⟨_, rfl⟩
      rw [← hq] at hr
      have hq2 := hq.symm
      clear hq hr
      go_wp2_with fail
      go_ret
      exact ⟨ret_bool (hq2.symm.trans HR.out), Low.refl _⟩
theorem modK_nat (p M : Nat) (h0 : 1 ≤ M) (h1 : M ≤ 1000) : modK (p : Int) (M : Int) = ((p % M : Nat) : Int) := by
  have := Nat.mod_lt p (show 0 < M by omega)
  unfold modK
  rw [if_neg (by omega), Int.ofNat_tmod]
  exact wrap64_inP ((p % M : Nat) : Int) (by omega) (by omega)
set_option maxHeartbeats 800000 in
theorem pmoffset_any : PmOffsets := by
  intro a b node m w hn hm
  unfold keyV
  by_cases hT : 2 ≤ m ∧ m ≤ 1000
  · have HT := Lib.hid (show tableB m = true from decide_eq_true hT)
    obtain ⟨M, rfl⟩ : ∃ M : Nat, m = M := ⟨m.toNat, by omega⟩
    have HO := Lib.hid (show offQ a b node M = (offP a b node M : Int) by unfold offQ; rw [HT.out]; rfl)
    have HP1 := Lib.hid (pairK_nat a b node 1)
    have HM := Lib.hid hm
    have hM0 : 2 ≤ M := by omega
    have hM1 : M ≤ 1000 := by omega
    clear hT hn hm
    go_enter Try.func37, Try.ntmps37
    go_wp2_with ((with_reducible refine wpList_box_v rfl _ (.tmp 0) rfl (keyC a b) rfl ?_); intro w1 HK hL hz1; refine Hid.out ?_)
    refine Lib.hid ?_
    replace HK := Lib.hid HK
    replace hL := Lib.hid hL
    clear hz1
    go_wp2_with fail
    refine (permcan_any M w1).mono ?_
    rintro e w2 ⟨rfl, rfl⟩
    rw [HT.out]
    go_wp2_with ((refine wpList_load_v rfl 24 (.tmp 3) rfl w.heap.size rfl _ (keyC a b) HK.out _ Try.underlying24 rfl key_size ?_); refine Hid.out ?_)
    refine Lib.hid ?_
    go_wp2_with fail
    refine (kpair_any a b node 1 w1).mono ?_
    rintro e w3 ⟨rfl, hl⟩
    replace hL := Lib.hid (hL.out.trans hl)
    clear hl HK
    rw [show sumK a b (four (node % 4294967296) ++ four (1 % 4294967296)) = pairK a b node 1 from rfl, HP1.out]
    go_wp2_with fail
    refine (kmod_any _ M w3 HM.out).mono ?_
    rintro e w4 ⟨rfl, rfl⟩
    go_wp2_with fail
    go_ret
    exact ⟨by rw [HO.out]; exact congrArg (fun x => Ending.returned (.int .i64 x)) (modK_nat _ _ (by omega) (by omega)), hL.out⟩
  · have HT := Lib.hid (show tableB m = false from decide_eq_false hT)
    have HO := Lib.hid (show offQ a b node m = 0 by unfold offQ; rw [HT.out]; rfl)
    go_enter Try.func37, Try.ntmps37
    go_wp2_with ((with_reducible refine wpList_box_v rfl _ (.tmp 0) rfl (keyC a b) rfl ?_); intro w1 HK hL hz1; refine Hid.out ?_)
    refine Lib.hid ?_
    clear HK hz1
    go_wp2_with fail
    refine (permcan_any m w1).mono ?_
    rintro e w2 ⟨rfl, rfl⟩
    rw [HT.out]
    go_wp2_with fail
    go_ret
    exact ⟨by rw [HO.out]; rfl, hL⟩
set_option maxHeartbeats 800000 in
theorem pmskip_any : PmSkips := by
  intro a b node m w hn hm
  unfold keyV
  by_cases hT : 2 ≤ m ∧ m ≤ 1000
  · have HT := Lib.hid (show tableB m = true from decide_eq_true hT)
    obtain ⟨M, rfl⟩ : ∃ M : Nat, m = M := ⟨m.toNat, by omega⟩
    have HO := Lib.hid (show skipQ a b node M = (skipP a b node M : Int) by unfold skipQ; rw [HT.out]; rfl)
    have HP1 := Lib.hid (pairK_nat a b node 2)
    have HM := Lib.hid hm
    have hM0 : 2 ≤ M := by omega
    have hM1 : M ≤ 1000 := by omega
    clear hT hn hm
    go_enter Try.func38, Try.ntmps38
    go_wp2_with ((with_reducible refine wpList_box_v rfl _ (.tmp 0) rfl (keyC a b) rfl ?_); intro w1 HK hL hz1; refine Hid.out ?_)
    refine Lib.hid ?_
    replace HK := Lib.hid HK
    replace hL := Lib.hid hL
    clear hz1
    go_wp2_with fail
    refine (permcan_any M w1).mono ?_
    rintro e w2 ⟨rfl, rfl⟩
    rw [HT.out]
    go_wp2_with ((refine wpList_load_v rfl 24 (.tmp 3) rfl w.heap.size rfl _ (keyC a b) HK.out _ Try.underlying24 rfl key_size ?_); refine Hid.out ?_)
    refine Lib.hid ?_
    go_wp2_with fail
    refine (kpair_any a b node 2 w1).mono ?_
    rintro e w3 ⟨rfl, hl⟩
    replace hL := Lib.hid (hL.out.trans hl)
    clear hl HK
    rw [show sumK a b (four (node % 4294967296) ++ four (2 % 4294967296)) = pairK a b node 2 from rfl, HP1.out]
    go_wp2_with fail
    obtain ⟨N, hN⟩ : ∃ N : Nat, M = N + 1 := ⟨M - 1, by omega⟩
    have HN := Lib.hid hN
    have hN0 : 1 ≤ N := by omega
    have hN1 : N ≤ 1000 := by omega
    clear hN
    go_wp2_with fail
    rw [show (M : Int) - 1 = (N : Int) by have := HN.out; omega]
    refine (kmod_any _ N w3 (by unfold i64ok; omega)).mono ?_
    rintro e w4 ⟨rfl, rfl⟩
    rw [modK_nat _ _ hN0 hN1]
    have hs : pairN a b node 2 % N < N := Nat.mod_lt _ (by omega)
    have HS := Lib.hid (show skipP a b node M = pairN a b node 2 % N + 1 by unfold skipP; rw [HN.out]; rfl)
    generalize pairN a b node 2 % N = r at *
    have hw2 : wrap64 (1 + (r : Int)) = ((r + 1 : Nat) : Int) := (wrap64_inP (1 + (r : Int)) (by omega) (by omega)).trans (by omega)
    go_wp2_with fail
    go_ret
    exact ⟨by rw [HO.out, HS.out]; exact congrArg (fun x => Ending.returned (.int .i64 x)) (show 1 + (r : Int) = ((r + 1 : Nat) : Int) by omega), hL.out⟩
  · have HT := Lib.hid (show tableB m = false from decide_eq_false hT)
    have HO := Lib.hid (show skipQ a b node m = 0 by unfold skipQ; rw [HT.out]; rfl)
    go_enter Try.func38, Try.ntmps38
    go_wp2_with ((with_reducible refine wpList_box_v rfl _ (.tmp 0) rfl (keyC a b) rfl ?_); intro w1 HK hL hz1; refine Hid.out ?_)
    refine Lib.hid ?_
    clear HK hz1
    go_wp2_with fail
    refine (permcan_any m w1).mono ?_
    rintro e w2 ⟨rfl, rfl⟩
    rw [HT.out]
    go_wp2_with fail
    go_ret
    exact ⟨by rw [HO.out]; rfl, hL⟩
end Go.Proofs.Ytogmfhofdjiihaa
