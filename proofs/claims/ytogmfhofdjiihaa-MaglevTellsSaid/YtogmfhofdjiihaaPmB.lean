/- Stage 16: the document's Prime, At and Of. Conditions: nodes and sizes are ints. -/
import Derived.Test.YtogmfhofdjiihaaPmA
import Derived.Test.YtogmfhofdjiihaaKdP
import Derived.Test.YtogmfhofdjiihaaNumG
set_option maxRecDepth 100000
namespace Go.Proofs.Ytogmfhofdjiihaa
open Go.RowKit
set_option linter.unusedVariables false

set_option maxHeartbeats 800000 in
theorem rprime_any (n : Int) (w : World) (hn : i64ok n) : Calls Try.prog 19 #[.int .i64 n] w fun e w' => e = .returned (.bool (primeB n)) ∧ w = w' := by
  by_cases h2 : n < 2
  · have HE := Lib.hid (primeB_no (n := n) (Or.inl h2))
    go_enter Try.func19, Try.ntmps19
    go_wp2_with fail
    go_ret
    exact ⟨ret_bool HE.out.symm, rfl⟩
  · by_cases h3 : 1000000 < n
    · have HE := Lib.hid (primeB_no (n := n) (Or.inr h3))
      go_enter Try.func19, Try.ntmps19
      go_wp2_with fail
      go_ret
      exact ⟨ret_bool HE.out.symm, rfl⟩
    · go_enter Try.func19, Try.ntmps19
      go_wp2_with fail
      go_loop [3] (fun v => ∃ d : Nat, 2 ≤ d ∧ d ≤ 1001 ∧ v = .int .i64 d ∧ Hid (∀ e : Nat, 2 ≤ e → e < d → (e : Int) < n → ¬ n % (e : Int) = 0)) (fun v => 1001 - (intOf v).toNat)
      case atStart => exact ⟨2, by omega, by omega, rfl, Lib.hid fun e h h1 => by omega⟩
      case round =>
        obtain ⟨d, hd2, hd, rfl, HN⟩ := hrel
        by_cases hle : d ≤ 1000
        · by_cases hlt : (d : Int) < n
          · have hle2 : (d : Int) ≤ 1000 := by omega
            have hnz : ¬ (d : Int) = 0 := by omega
            have hnn : 0 ≤ n := by omega
            have hdd : 0 ≤ (d : Int) := by omega
            have ht : n.tmod (d : Int) = n % (d : Int) := Int.tmod_eq_emod_of_nonneg hnn
            by_cases hz : n % (d : Int) = 0
            · have HE := Lib.hid (primeB_cut hd2 hle hlt hz)
              go_wp2_with fail
              go_ret
              exact ⟨ret_bool HE.out.symm, rfl⟩
            · have HN2 : Hid (∀ e : Nat, 2 ≤ e → e < d + 1 → (e : Int) < n → ¬ n % (e : Int) = 0) := Lib.hid fun e h h1 h4 => by
                by_cases he : e = d
                · rw [he]; exact hz
                · exact HN.out e h (by omega) h4
              have hz2 : (n % (d : Int) == 0) = false := by simpa using hz
              clear HN
              go_wp2_with fail
              go_round
              case rel => exact ⟨d + 1, by omega, by omega, by go_num, HN2⟩
              case measure => simp [intOf]; omega
          · have HE := Lib.hid (primeB_yes (n := n) (by omega) (by omega) fun e h h1 h4 => HN.out e h (by omega) h4)
            have hle2 : (d : Int) ≤ 1000 := by omega
            go_wp2_with fail
            go_ret
            exact ⟨ret_bool HE.out.symm, rfl⟩
        · have HE := Lib.hid (primeB_yes (n := n) (by omega) (by omega) fun e h h1 h4 => HN.out e h (by omega) h4)
          have hle2 : ¬ (d : Int) ≤ 1000 := by omega
          go_wp2_with fail
          go_ret
          exact ⟨ret_bool HE.out.symm, rfl⟩

theorem wrap64_inP (n : Int) (h0 : -9223372036854775808 ≤ n) (h1 : n ≤ 9223372036854775807) : wrap64 n = n := by
  simp only [wrap64]
  omega
theorem at_arith (p q m i : Nat) (hm : 2 ≤ m) (hm2 : m ≤ 1000) (hi : i < m) :
    (wrap64 (wrap64 ((p : Int) % (m : Int)) + wrap64 ((i : Int) * wrap64 (wrap64 ((q : Int) % ((m : Int) - 1)) + 1)))).tmod (m : Int) = (((p % m + i * (q % (m - 1) + 1)) % m : Nat) : Int) := by
  have hx := Nat.mod_lt p (show 0 < m by omega)
  have hy := Nat.mod_lt q (show 0 < m - 1 by omega)
  rw [show (m : Int) - 1 = ((m - 1 : Nat) : Int) by omega, show (p : Int) % (m : Int) = ((p % m : Nat) : Int) from rfl, show (q : Int) % ((m - 1 : Nat) : Int) = ((q % (m - 1) : Nat) : Int) from rfl]
  generalize p % m = x at *
  generalize q % (m - 1) = y at *
  have hz : i * (y + 1) ≤ 1000 * 1000 := Nat.mul_le_mul (by omega) (by omega)
  rw [wrap64_inP (y : Int) (by omega) (by omega), wrap64_inP ((y : Int) + 1) (by omega) (by omega), show (i : Int) * ((y : Int) + 1) = ((i * (y + 1) : Nat) : Int) by simp]
  generalize i * (y + 1) = z at *
  rw [wrap64_inP (z : Int) (by omega) (by omega), wrap64_inP (x : Int) (by omega) (by omega), wrap64_inP ((x : Int) + (z : Int)) (by omega) (by omega)]
  rw [show (x : Int) + (z : Int) = ((x + z : Nat) : Int) by simp, Int.ofNat_tmod]
set_option maxHeartbeats 800000 in
theorem rat_any (a b node : Int) (m i : Nat) (w : World) (hm : 2 ≤ m) (hm2 : m ≤ 1000) (hi : i < m) :
    Calls Try.prog 30 #[keyV a b, .int .i64 node, .int .i64 m, .int .i64 i] w fun e w' => e = .returned (.int .i64 (atP a b node m i)) ∧ Low w w' := by
  unfold keyV
  have hw : IntKind.u64.wrap (m : Int) = m := wraps_u64 _ (by omega) (by omega)
  have hmz : ¬ (m : Int) = 0 := by omega
  have hmz2 : ¬ (m : Int) - 1 = 0 := by omega
  have hw2 : IntKind.u64.wrap ((m : Int) - 1) = (m : Int) - 1 := wraps_u64 _ (by omega) (by omega)
  have HP1 := Lib.hid (pairK_nat a b node 1)
  have HP2 := Lib.hid (pairK_nat a b node 2)
  have HO := Lib.hid (show offP a b node m = pairN a b node 1 % m from rfl)
  have HS := Lib.hid (show skipP a b node m = pairN a b node 2 % (m - 1) + 1 from rfl)
  have HA := Lib.hid (show atP a b node m i = (offP a b node m + i * skipP a b node m) % m from rfl)
  go_enter Try.func30, Try.ntmps30
  go_wp2_with ((with_reducible refine wpList_box_v rfl _ (.tmp 0) rfl (keyC a b) rfl ?_); intro w1 HK hL hz1; refine Hid.out ?_)
  refine Lib.hid ?_
  replace HK := Lib.hid HK
  go_wp2_with ((refine wpList_load_v rfl 32 (.tmp 4) rfl w.heap.size rfl _ (keyC a b) HK.out _ Try.underlying32 rfl rkey_size ?_); refine Hid.out ?_)
  refine Lib.hid ?_
  go_wp2_with fail
  refine (rkpair_any a b node 1 w1).mono ?_
  rintro e w2 ⟨rfl, hl⟩
  replace HK := Lib.hid (HK.out.below hl HK.out.lt)
  replace hL := Lib.hid (hL.trans hl)
  clear hl hz1
  rw [show sumK a b (four (node % 4294967296) ++ four (1 % 4294967296)) = pairK a b node 1 from rfl, HP1.out]
  go_wp2_with ((refine wpList_load_v rfl 32 (.tmp 4) rfl w.heap.size rfl _ (keyC a b) HK.out _ Try.underlying32 rfl rkey_size ?_); refine Hid.out ?_)
  refine Lib.hid ?_
  go_wp2_with fail
  refine (rkpair_any a b node 2 w2).mono ?_
  rintro e w3 ⟨rfl, hl⟩
  replace hL := Lib.hid (hL.out.trans hl)
  clear hl HK
  rw [show sumK a b (four (node % 4294967296) ++ four (2 % 4294967296)) = pairK a b node 2 from rfl, HP2.out]
  have HR := Lib.hid (at_arith (pairN a b node 1) (pairN a b node 2) m i hm hm2 hi)
  go_wp2_with fail
  rw [HR.out]
  go_ret
  exact ⟨by rw [HA.out, HO.out, HS.out]; rfl, hL.out⟩

theorem BlkV.grownP {w w' : World} {t : TypeId} {g : Nat} {vs : List Value} {row : Option Nat} (h : BlkV w t g vs) (hg : w.grownBy w' row) (hr : ∀ j, row = some j → g ≠ j) : BlkV w' t g vs :=
  (hg.block g h.lt (fun e => hr g e.symm rfl)).trans h
set_option maxHeartbeats 1600000 in
theorem rorder_any (a b node m : Int) (w : World) (hm : i64ok m) :
    Calls Try.prog 22 #[keyV a b, .int .i64 node, .int .i64 m] w (GivesI w (ordP a b node m)) := by
  unfold keyV
  by_cases hT : 2 ≤ m ∧ m ≤ 1000
  · obtain ⟨M, rfl⟩ : ∃ M : Nat, m = M := ⟨m.toNat, by omega⟩
    have hM2 : 2 ≤ M := by omega
    have hM3 : M ≤ 1000 := by omega
    have HOR := Lib.hid (show ordP a b node M = (List.range M).map fun i => (atP a b node M i : Int) from ordP_some (decide_eq_true hT))
    have HLN := Lib.hid (show (ordP a b node M).length = M from ordP_len (decide_eq_true hT))
    obtain ⟨i0, hi, hz0, hz1, hz2⟩ := info_partsK info_intP
    have HI := Lib.hid hi
    have HZ0 := Lib.hid hz0
    have HZ1 := Lib.hid hz1
    have HZ2 := Lib.hid hz2
    clear hi hz0 hz1 hz2 hm
    generalize ordP a b node (M : Int) = L at *
    have t1 : (2 : Int) ≤ M := by omega
    have t2 : (M : Int) ≤ 1000 := by omega
    clear hT
    go_enter Try.func22, Try.ntmps22
    go_wp2_with ((with_reducible refine wpList_box_v rfl _ (.tmp 0) rfl (keyC a b) rfl ?_); intro w1 HK hL hz1; refine Hid.out ?_)
    refine Lib.hid ?_
    replace HK := Lib.hid HK
    go_wp2_with fail
    go_loopw [7, 8] (fun v7 v8 wr => ∃ (k : Nat) (A : Option Addr) (c : Nat), k ≤ M ∧ v8 = .int .i64 k ∧ v7 = .slice A k c ∧ Hid (OwnN 3 wr (w.heap.size + 1) A k c ((List.range k).map fun i => (atP a b node M i : Int))) ∧ Hid (BlkV wr 32 w.heap.size (keyC a b)) ∧ Hid (w.heap.size + 1 ≤ wr.heap.size) ∧ Low w wr) (fun _ v _ => M - (intOf v).toNat)
    case atStart => exact ⟨0, none, 0, by omega, rfl, rfl, Lib.hid (OwnN.noneP _ _ _), HK, Lib.hid (by omega), hL⟩
    case round =>
      clear HK hL hz1
      obtain ⟨k, A, c, hk, rfl, rfl, HO, HK, HSZ, hL⟩ := hrel
      by_cases hlt : k < M
      · have hlt2 : (k : Int) < M := by omega
        have HT := Lib.hid (range_mapK (fun i => (atP a b node M i : Int)) k)
        have hr := atP_range a b node M k hM2
        go_wp2_with ((refine wpList_load_v rfl 32 (.tmp 3) rfl w.heap.size rfl _ (keyC a b) HK.out _ Try.underlying32 rfl rkey_size ?_); refine Hid.out ?_)
        refine Lib.hid ?_
        go_wp2_with fail
        refine (rat_any a b node M k wr hM2 hM3 hlt).mono ?_
        rintro e w2 ⟨rfl, hl⟩
        have hO2 := HO.out.below hl
        have HK2 := Lib.hid (HK.out.below hl HK.out.lt)
        have hL2 := hL.trans hl
        have hz2 := Nat.le_trans HSZ.out hl.size
        clear hl HO HK HSZ hL
        generalize atP a b node M k = x at *
        have hlA := Low.alloc w2 (.cells #[.int .i64 (x : Int)] 3)
        have hsA : (w2.alloc (.cells #[.int .i64 (x : Int)] 3)).heap.size = w2.heap.size + 1 := by simp
        have hkA : BlkN (w2.alloc (.cells #[.int .i64 (x : Int)] 3)) 3 w2.heap.size [(x : Int)] := BlkN.new w2 3 [(x : Int)]
        have hbA := hkA.bs (n := 1) (.cons (by omega) (by omega) .nil) hkA.lt rfl
        have hO3 := hO2.below hlA
        have HK3 := Lib.hid (HK2.out.below hlA HK2.out.lt)
        have HL3 := Lib.hid (hL2.trans hlA)
        clear hlA hkA hO2 HK2 hL2
        go_wp2_with (at_builtin; refine wpList_append_ns rfl (.tmp 22) (.tmp 28) _ rfl (w.heap.size + 1) 3 i0 Try.underlying27 HI.out HZ0.out HZ1.out HZ2.out _ k c _ rfl hO3 _ 1 _ _ [(x : Int)] rfl hbA (by omega) (by omega) ?_; intro A4 c4 w4 hO4 hg4 hb4; refine Hid.out ?_)
        refine Lib.hid ?_
        have HK4 := Lib.hid (BlkV.grownP HK3.out hg4 (fun j hj => by have := (hO3.lt j hj).1; omega))
        have HL4 := Lib.hid (show Low w w4 from Below.grown HL3.out hg4 (by omega) (fun j hj => by have := (hO3.lt j hj).1; omega))
        have HO4 := Lib.hid hO4
        rw [← HT.out] at HO4
        have HSZ4 := Lib.hid (show w.heap.size + 1 ≤ w4.heap.size from HK4.out.lt)
        clear hO4 hg4 hb4 hO3 HK3 HL3 hbA hsA
        go_wp2_with fail
        go_roundw
        case rel => exact ⟨k + 1, A4, c4, by omega, by go_num, rfl, HO4, HK4, HSZ4, HL4.out⟩
        case measure => simp [intOf]; omega
      · obtain rfl : k = M := by omega
        have hlt2 : ¬ (k : Int) < k := by omega
        have hcap := HO.out.cap
        have HNS := Lib.hid (HO.out.bs (Nat.le_refl _))
        rw [← HOR.out] at HNS
        go_wp2_with fail
        go_ret
        exact ⟨A, c, by rw [HLN.out]; rfl, by rw [HLN.out]; exact hcap.1, by rw [HLN.out]; exact HNS.out, by rw [HLN.out]; exact HO.out.fromI.less (Nat.le_succ _), hL⟩
  · have HOR := Lib.hid (show ordP a b node m = [] from ordP_none (decide_eq_false hT))
    generalize ordP a b node m = L at *
    obtain rfl := HOR.out
    go_enter Try.func22, Try.ntmps22
    go_wp2_with ((with_reducible refine wpList_box_v rfl _ (.tmp 0) rfl (keyC a b) rfl ?_); intro w1 HK hL hz1; refine Hid.out ?_)
    refine Lib.hid ?_
    clear HK
    go_wp2_with fail
    go_loop [7, 8] (fun v7 v => v7 = .slice none 0 0 ∧ v = .int .i64 0) (fun _ _ => 0)
    case atStart => exact ⟨rfl, rfl⟩
    case round =>
      obtain ⟨rfl, rfl⟩ := hrel
      by_cases h0 : 0 < m
      · by_cases h1 : 2 ≤ m
        · have h2 : ¬ m ≤ 1000 := by omega
          go_wp2_with fail
          go_ret
          exact ⟨none, 0, rfl, Nat.le_refl _, Ns.nil _ _ _, IFrom.nil _ _, hL⟩
        · go_wp2_with fail
          go_ret
          exact ⟨none, 0, rfl, Nat.le_refl _, Ns.nil _ _ _, IFrom.nil _ _, hL⟩
      · go_wp2_with fail
        go_ret
        exact ⟨none, 0, rfl, Nat.le_refl _, Ns.nil _ _ _, IFrom.nil _ _, hL⟩
end Go.Proofs.Ytogmfhofdjiihaa
