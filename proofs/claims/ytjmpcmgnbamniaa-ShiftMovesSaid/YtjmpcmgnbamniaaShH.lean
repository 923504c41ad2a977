/- Stage 19: what shift.stayed, Moved, pair and Turned tell. Conditions: at most 200 slots each, 50 hashes. -/
import Derived.Test.YtjmpcmgnbamniaaShF
import Derived.Test.YtjmpcmgnbamniaaPiF
import Derived.Test.YtjmpcmgnbamniaaNumG
import Derived.Laws.Rows
set_option maxRecDepth 100000
namespace Go.Proofs.Ytjmpcmgnbamniaa
open Go.RowKit
set_option linter.unusedVariables false

set_option maxRecDepth 100000 in
set_option maxHeartbeats 3200000 in
theorem stayed_any (A B : Option Addr) (n c k d : Nat) (was is_ : List Int) (w : World) (hn : n ≤ 200) (hk : k ≤ 200) (ha : Ns w w.heap.size A n was) (hb : Ns w w.heap.size B k is_) :
    Calls Try.prog 14 #[.slice A n c, .slice B k d] w (GivesI w (bothS was is_)) := by
  have HA := Lib.hid ha
  have HB := Lib.hid hb
  have HLA := Lib.hid ha.len
  have HLB := Lib.hid hb.len
  have HTK := Lib.hid (bothS_take was is_)
  have HALL := Lib.hid (show ∀ i, AllI (bothS (was.take i) (is_.take i)) from fun i x hx => ha.all x (List.mem_of_mem_take ((bothS_sub1 _ _).mem hx)))
  clear ha hb
  obtain ⟨i0, hi, hz0, hz1, hz2⟩ := info_int_partsP
  have HI := Lib.hid hi
  have HZ0 := Lib.hid hz0
  have HZ1 := Lib.hid hz1
  have HZ2 := Lib.hid hz2
  clear hi hz0 hz1 hz2
  obtain ⟨m, hm⟩ : ∃ m, m = min n k := ⟨_, rfl⟩
  have hmn : m ≤ n := by omega
  have hmk : m ≤ k := by omega
  have hmi : (min (n : Int) (k : Int)) = (m : Int) := by omega
  have HM := Lib.hid hm
  clear hm
  rcases (show (k < n ∧ m = k) ∨ (¬ k < n ∧ m = n) by omega) with ⟨hkn, hmm⟩ | ⟨hkn, hmm⟩
  all_goals
    go_enter Try.func14, Try.ntmps14
    go_wp2_with fail
    go_loopw [5, 12] (fun v5 v12 wr => ∃ (i c' : Nat) (A' : Option Addr) (ys : List Int), i ≤ m ∧ v12 = .int .i64 i ∧ v5 = .slice A' ys.length c' ∧ ys.length ≤ i ∧ Hid (ys = bothS (was.take i) (is_.take i)) ∧ Hid (OwnN 3 wr w.heap.size A' ys.length c' ys) ∧ Hid (Ns wr w.heap.size A n was) ∧ Hid (Ns wr w.heap.size B k is_) ∧ Hid (Low w wr)) (fun _ v _ => m - (intOf v).toNat)
    case atStart => exact ⟨0, 0, none, [], by omega, rfl, rfl, by simp, Lib.hid (by simp [bothS]), Lib.hid (OwnN.noneP _ _ _), HA, HB, Lib.hid (Low.refl _)⟩
    case round =>
      clear HA HB
      obtain ⟨i, c', A', ys, hi, rfl, rfl, hys, HY, HO, HA, HB, hL⟩ := hrel
      by_cases hlt : i < m
      · obtain ⟨b1, o1, rfl, hb1, hc1⟩ := HA.out.at_ (show i < n by omega)
        obtain ⟨b2, o2, rfl, hb2, hc2⟩ := HB.out.at_ (show i < k by omega)
        have c1 := hc1 i (by omega)
        have c2 := hc2 i (by omega)
        have g1 : (i : Int) < n := by omega
        have g2 : (i : Int) < k := by omega
        have HT := Lib.hid (HTK.out i)
        rw [← HY.out] at HT
        by_cases e : was.getD i 0 = is_.getD i 0
        · have HT2 := Lib.hid (show bothS (was.take (i + 1)) (is_.take (i + 1)) = ys ++ [is_.getD i 0] by
            rw [HT.out, if_pos ⟨by rw [HLA.out]; omega, by rw [HLB.out]; omega, e⟩, e])
          have HXI := Lib.hid (HB.out.nonneg i)
          rw [e] at c1
          clear hc1 hc2 HT e
          generalize is_.getD i 0 = x at *
          have hxx : (x == x) = true := by simp
          have hcW := hL.out.size
          have hblt : b2 < wr.heap.size := by omega
          go_wp2_with fail
          go_quiet (fail)
          have hl : Low wr (wr.drewN nq) := below_drewN (Low.refl wr) nq
          have c2q := (hl.cell (p := ⟨b2, o2 + i, none⟩) hblt).trans c2
          generalize wr.drewN nq = wq at *
          replace HA := Lib.hid (HA.out.below (hl.mono hcW))
          replace HB := Lib.hid (HB.out.below (hl.mono hcW))
          replace HO := Lib.hid (HO.out.below hl)
          replace hL := Lib.hid (hL.out.trans (hl.mono (Nat.le_refl _)))
          clear hl c1 c2 hcW hblt
          have hA1 := Low.alloc wq (.cells #[.int .i64 x] 3)
          have hkA : BlkN (wq.alloc (.cells #[.int .i64 x] 3)) 3 wq.heap.size [x] := BlkN.new wq 3 [x]
          have hbA := hkA.bs (n := 1) (.cons HXI.out.1 HXI.out.2 .nil) hkA.lt rfl
          have hO7 := HO.out.below hA1
          have hbs : w.heap.size ≤ (wq.alloc (.cells #[.int .i64 x] 3)).heap.size := by have := hL.out.size; simp; omega
          have HHA := Lib.hid hA1
          clear hA1 hkA
          go_wp2_with (at_builtin; refine wpList_append_ns rfl _ _ _ rfl w.heap.size 3 i0 Try.underlying22 HI.out HZ0.out HZ1.out HZ2.out _ ys.length c' ys rfl hO7 _ 1 _ _ [x] rfl hbA (by omega) hbs ?_; intro A8 c8 w8 hO8 hg8 hb8; refine Hid.out ?_)
          refine Lib.hid ?_
          have hl8 : Below w.heap.size wq w8 := Below.grown (HHA.out.mono hL.out.size) hg8 hbs (fun j hj => (hO7.lt j hj).1)
          have HA8 := Lib.hid (HA.out.below hl8)
          have HB8 := Lib.hid (HB.out.below hl8)
          have HL8 := Lib.hid (Below.trans hL.out hl8)
          have HO8 := Lib.hid (show OwnN 3 w8 w.heap.size A8 (ys ++ [x]).length c8 (ys ++ [x]) by rw [List.length_append]; exact hO8)
          have HYL := Lib.hid (show (ys ++ [x]).length ≤ i + 1 by rw [List.length_append]; simp; omega)
          have HY8 := Lib.hid HT2.out.symm
          clear hO8 hg8 hb8 hO7 hbA hbs hl8 HO HA HB hL HHA c2q
          go_wp2_with fail
          go_roundw
          case rel => exact ⟨i + 1, c8, A8, ys ++ [x], by omega, by go_num, by rw [List.length_append]; rfl, HYL.out, HY8, HO8, HA8, HB8, HL8⟩
          case measure => simp [intOf]; omega
        · have HT2 := Lib.hid (show ys = bothS (was.take (i + 1)) (is_.take (i + 1)) by
            rw [HT.out, if_neg (fun h => e h.2.2), List.append_nil])
          have hxy : (was.getD i 0 == is_.getD i 0) = false := by simpa using e
          clear hc1 hc2 HT e
          generalize was.getD i 0 = x at c1 hxy
          generalize is_.getD i 0 = y at c2 hxy
          have HDW := Lib.hid (fun j : Nat => And.intro (HO.out.below (below_drewN (Low.refl wr) j)) (And.intro (HA.out.drewN j) (And.intro (HB.out.drewN j) (below_drewN hL.out j))))
          clear HO HA HB hL
          go_wp2_with fail
          go_quiet (fail)
          go_wp2_with fail
          go_roundw
          case rel => exact ⟨i + 1, c', A', ys, by omega, by go_num, rfl, by omega, HT2, Lib.hid (HDW.out _).1, Lib.hid (HDW.out _).2.1, Lib.hid (HDW.out _).2.2.1, Lib.hid (HDW.out _).2.2.2⟩
          case measure => simp [intOf]; omega
      · have him : i = m := by omega
        (try have gk : ¬ (i : Int) < k := by omega)
        (try have gn : ¬ (i : Int) < n := by omega)
        have HE := Lib.hid (show ys = bothS was is_ by
          rw [HY.out]
          have e := HM.out
          rcases Nat.le_total n k with h | h
          · rw [show i = n by omega, ← HLA.out]
            exact bothS_min1 was is_ (by rw [HLA.out, HLB.out]; exact h)
          · rw [show i = k by omega, ← HLB.out]
            exact bothS_min2 was is_ (by rw [HLA.out, HLB.out]; exact h))
        go_wp2_with fail
        go_ret
        refine ⟨A', c', by rw [← HE.out]; rfl, by rw [← HE.out]; exact HO.out.cap.1, ?_, ?_, hL.out⟩
        · rw [← HE.out]
          exact HO.out.bs (Nat.le_refl _)
        · rw [← HE.out]
          exact HO.out.fromI

set_option maxHeartbeats 1600000 in
theorem shmoved_any : ShMoveds := by
  intro A B n c k d was is_ w hn hk hnc hkd ha hb
  have HS := Lib.hid (stayed_any A B n c k d was is_ w hn hk ha hb)
  have HE := Lib.hid (show ((movedS was is_ : Nat) : Int) = max (n : Int) (k : Int) - ((bothS was is_).length : Int) by
    have h1 := (bothS_sub1 was is_).length_le
    have h2 := ha.len
    have h3 := hb.len
    unfold movedS
    omega)
  have hz : (bothS was is_).length ≤ 200 := by
    have h1 := (bothS_sub1 was is_).length_le
    have h2 := ha.len
    omega
  clear ha hb
  generalize movedS was is_ = mv at *
  generalize hbl : bothS was is_ = l at *
  rcases (show (n < k ∧ max (n : Int) k = k) ∨ (¬ n < k ∧ max (n : Int) k = n) by omega) with ⟨hkn, hmx⟩ | ⟨hkn, hmx⟩
  all_goals
    rw [hmx] at HE
    clear hmx
    go_enter Try.func9, Try.ntmps9
    go_wp2_with fail
    refine HS.out.mono ?_
    rintro e w2 ⟨A2, c2, rfl, _, _, _, hl⟩
    have hL := Lib.hid hl
    clear hl
    go_wp2_with fail
    go_ret
    exact ⟨by rw [HE.out]; rfl, hL.out⟩

/-- two backends of a table -/
def pairP (t : List Int) (H : Nat) : List Int := [firstP t H, secondP t H]
theorem size_pair : (Try.prog.info? 46).map (·.size) = some 2 := by kernel_rfl
theorem size_intS : (Try.prog.info? 3).map (·.size) = some 1 := by kernel_rfl
theorem info_pair0 : (Try.prog.info? 46).map (·.zero) = some (some (.agg (cellsN [0, 0]).toArray)) := by kernel_rfl
theorem eq_pair (a b : List Int) (ha : a.length = 2) (hb : b.length = 2) (w : World) : (Op.equalIn 10000 46 (.agg (cellsN a).toArray) (.agg (cellsN b).toArray)).run Try.prog w = .ok (a == b) w := by
  obtain ⟨i, hi, hz⟩ := info_sized size_intS
  exact run_equalIn_ints w .i64 9998 46 3 2 i Try.underlying46 Try.underlying3 hi hz a b ha hb
set_option maxRecDepth 100000 in
set_option maxHeartbeats 1600000 in
theorem shpair_any (A : Option Addr) (n c : Nat) (t : List Int) (H : Nat) (w : World) (hn : n ≤ 1000) (hnc : n ≤ c) (hH : H < 18446744073709551616) (hb : Ns w w.heap.size A n t) :
    Calls Try.prog 20 #[.slice A n c, .int .u64 H] w fun e w' => e = .returned (.agg (cellsN (pairP t H)).toArray) ∧ Low w w' := by
  have HT := Lib.hid (fun u hu => pitwo_any A n c t H u hn hnc hH hu)
  have HB := Lib.hid hb
  have HP := Lib.hid (show pairP t H = [firstP t H, secondP t H] from rfl)
  clear hb
  generalize pairP t H = pp at *
  generalize firstP t H = f at *
  generalize secondP t H = s at *
  go_enter Try.func20, Try.ntmps20
  go_wp2_with ((with_reducible refine wpList_alloc_v rfl _ rfl (cellsN [0, 0]) info_pair0 ?_); intro w2 HZ hl2 hz2; refine Hid.out ?_)
  refine Lib.hid ?_
  replace HB := Lib.hid (HB.out.below' hl2 hl2.size)
  have hL := Lib.hid hl2
  have HZZ := Lib.hid HZ
  have HLT := Lib.hid HZ.lt
  clear HZ hl2 hz2
  go_wp2_with fail
  refine (HT.out w2 HB.out).mono ?_
  rintro e w3 ⟨rfl, hl⟩
  have HZ := HZZ.out.below hl HLT.out
  replace hL := Lib.hid (hL.out.trans hl)
  clear hl HZZ
  go_wp2_with ((refine wpList_store_v rfl 46 (.tmp 4) (.tmp 15) rfl w.heap.size rfl (cellsN [f, s]) rfl _ (cellsN [0, 0]) HZ rfl size_pair (by simp [cellsN, Value.oneCell']) ?_); intro w4 HB3 hb3 hz3; refine Hid.out ?_)
  refine Lib.hid ?_
  go_wp2
  refine bodyPost_ret (v := .agg (cellsN [f, s]).toArray) (results_cell_row Try.results20 _ _ w.heap.size _ _ _ _ rfl HB3 Try.underlying46 rfl (by rw [size_pair]; rfl)) rfl ⟨by rw [HP.out], Below.trans hL.out (hb3.mono (Nat.le_refl _))⟩

theorem pair_turn (was is_ : List Int) (h : Nat) : (pairP was h == pairP is_ h) = !(turnsS was is_ h) := by
  unfold pairP turnsS
  rw [List.cons_beq_cons, List.cons_beq_cons]
  simp only [bne]
  cases (firstP was h == firstP is_ h) <;> cases (secondP was h == secondP is_ h) <;> rfl
set_option maxRecDepth 100000 in
set_option maxHeartbeats 3200000 in
theorem shturned_any : ShTurneds := by
  intro A B C n c k d m q was is_ hs w hn hk hm hnc hkd hmq ha hb hc
  have HA := Lib.hid ha
  have HB := Lib.hid hb
  have HC := Lib.hid hc
  have HLC := Lib.hid hc.len
  clear ha hb hc
  have HCT := Lib.hid (count_turnS was is_ hs)
  have HTD := Lib.hid (show turnedS was is_ hs = hs.countP (turnsS was is_) from rfl)
  generalize turnedS was is_ hs = td at *
  go_enter Try.func11, Try.ntmps11
  go_wp2_with fail
  go_loopw [7, 12] (fun v7 v8 wr => ∃ (i z : Nat), i ≤ m ∧ v8 = .int .i64 i ∧ v7 = .int .i64 z ∧ z ≤ i ∧ Hid (z = (hs.take i).countP (turnsS was is_)) ∧ Hid (Ns wr wr.heap.size A n was) ∧ Hid (Ns wr wr.heap.size B k is_) ∧ Hid (Hs wr wr.heap.size C m hs) ∧ Hid (Low w wr)) (fun _ v _ => m - (intOf v).toNat)
  case atStart => exact ⟨0, 0, by omega, rfl, rfl, by omega, Lib.hid (by simp), HA, HB, HC, Lib.hid (Low.refl _)⟩
  case round =>
    clear HA HB HC
    obtain ⟨i, z, hi, rfl, rfl, hz, HZ, HA, HB, HC, hL⟩ := hrel
    by_cases hlt : i < m
    · obtain ⟨b, o, rfl, c0, hh⟩ := HC.out.at_ hlt
      have hlt2 : (i : Int) < m := by omega
      have HC2 := Lib.hid (HCT.out i (by rw [HLC.out]; exact hlt))
      rw [← HZ.out] at HC2
      clear HZ
      generalize hs.getD i 0 = h at *
      have HW := Lib.hid (fun u hu => shpair_any A n c was h u (by omega) hnc hh hu)
      have HI := Lib.hid (fun u hu => shpair_any B k d is_ h u (by omega) hkd hh hu)
      have HEQ := Lib.hid (fun u => eq_pair (pairP was h) (pairP is_ h) rfl rfl u)
      have HPT := Lib.hid (pair_turn was is_ h)
      generalize pairP was h = p1 at *
      generalize pairP is_ h = p2 at *
      clear hh
      go_wp2_with fail
      refine (HW.out wr HA.out).mono ?_
      rintro e w2 ⟨rfl, hl⟩
      replace HA := Lib.hid (HA.out.below' hl hl.size)
      replace HB := Lib.hid (HB.out.below' hl hl.size)
      replace HC := Lib.hid (HC.out.below' hl hl.size)
      replace hL := Lib.hid (hL.out.trans hl)
      clear hl c0
      go_wp2_with fail
      refine (HI.out w2 HB.out).mono ?_
      rintro e w3 ⟨rfl, hl⟩
      replace HA := Lib.hid (HA.out.below' hl hl.size)
      replace HB := Lib.hid (HB.out.below' hl hl.size)
      replace HC := Lib.hid (HC.out.below' hl hl.size)
      replace hL := Lib.hid (hL.out.trans hl)
      clear hl
      have hq := HEQ.out w3
      cases ht : turnsS was is_ h
      · rw [ht] at HPT HC2
        rw [HPT.out] at hq
        have HR := Lib.hid (show z = (hs.take (i + 1)).countP (turnsS was is_) by rw [HC2.out]; simp)
        clear HC2 HPT HEQ ht
        go_wp2_with fail
        go_roundw
        case rel => exact ⟨i + 1, z, by omega, by go_num, rfl, by omega, HR, HA, HB, HC, hL⟩
        case measure => simp [intOf]; omega
      · rw [ht] at HPT HC2
        rw [HPT.out] at hq
        have HR := Lib.hid (show z + 1 = (hs.take (i + 1)).countP (turnsS was is_) by rw [HC2.out]; simp)
        clear HC2 HPT HEQ ht
        go_wp2_with fail
        go_roundw
        case rel => exact ⟨i + 1, z + 1, by omega, by go_num, by go_num, by omega, HR, HA, HB, HC, hL⟩
        case measure => simp [intOf]; omega
    · obtain rfl : i = m := by omega
      rw [List.take_of_length_le (by rw [HLC.out]; exact Nat.le_refl _), ← HTD.out] at HZ
      have hlt2 : ¬ (i : Int) < i := by omega
      go_wp2_with fail
      go_ret
      exact ⟨by rw [← HZ.out]; rfl, hL.out⟩
end Go.Proofs.Ytjmpcmgnbamniaa
