/- What the document's own Can tells of any header. Condition: its numbers are ints, its addresses 16 bytes. -/
import Derived.Test.YtpaikenchbeenaaSxB
namespace Go.Proofs.Ytpaikenchbeenaa
open Go.RowKit
set_option linter.unusedVariables false

def numsH (h : Hd) : List Int := [h.cl, h.lb, h.ln, h.nx, h.hp]
def mostH : List Int := [255, 1048575, 65535, 255, 255]
def cellsI (xs : List Int) : List Value := xs.map (Value.int .i64)
theorem cellsI_get {xs : List Int} {i : Nat} (h : i < xs.length) : (cellsI xs)[i]? = some (.int .i64 (xs.getD i 0)) := by
  simp [cellsI, List.getD, h]
theorem cellsI_one (xs : List Int) : (cellsI xs).toArray.all (·.oneCell') = true := all_oneCell_toArray (ints_oneCell .i64 xs)
theorem five_size : (Try.prog.info? 41).map (·.size) = some 5 := by kernel_rfl
theorem can_yes (h : Hd) (hj : ∀ j, j < 5 → 0 ≤ (numsH h).getD j 0 ∧ (numsH h).getD j 0 ≤ mostH.getD j 0) : canE h = 0 := by
  have h0 : 0 ≤ h.cl ∧ h.cl ≤ 255 := hj 0 (by omega)
  have h1 : 0 ≤ h.lb ∧ h.lb ≤ 1048575 := hj 1 (by omega)
  have h2 : 0 ≤ h.ln ∧ h.ln ≤ 65535 := hj 2 (by omega)
  have h3 : 0 ≤ h.nx ∧ h.nx ≤ 255 := hj 3 (by omega)
  have h4 : 0 ≤ h.hp ∧ h.hp ≤ 255 := hj 4 (by omega)
  have e : canB h = true := by unfold canB; rw [decide_eq_true_eq]; omega
  unfold canE; rw [e]; rfl
theorem can_no (h : Hd) (k : Nat) (hk : k < 5) (hj : (numsH h).getD k 0 < 0 ∨ mostH.getD k 0 < (numsH h).getD k 0) : canE h = 2 := by
  have e : canB h = false := by
    rw [Bool.eq_false_iff]
    intro hc
    unfold canB at hc
    rw [decide_eq_true_eq] at hc
    match k, hk, hj with
    | 0, _, hj => change h.cl < 0 ∨ 255 < h.cl at hj; omega
    | 1, _, hj => change h.lb < 0 ∨ 1048575 < h.lb at hj; omega
    | 2, _, hj => change h.ln < 0 ∨ 65535 < h.ln at hj; omega
    | 3, _, hj => change h.nx < 0 ∨ 255 < h.nx at hj; omega
    | 4, _, hj => change h.hp < 0 ∨ 255 < h.hp at hj; omega
  unfold canE; rw [e]; rfl

set_option maxHeartbeats 1600000 in
set_option maxRecDepth 100000 in
theorem rcan_any (h : Hd) (w : World) (hk : h.ok) :
    Calls Try.prog 9 #[headV h] w fun e w' => e = .returned (.int .i64 (canE h)) ∧ Below w.heap.size w w' := by
  unfold headV
  have HO := Lib.hid hk
  clear hk
  go_enter Try.func9, Try.ntmps9
  go_wp2_with ((with_reducible refine wpList_box_v rfl 25 (.tmp 0) rfl (headC h) rfl ?_); intro w1 HB1 hl1 hz1; refine Hid.out ?_)
  refine Lib.hid ?_
  have c0 := HB1.cell 0; have c1 := HB1.cell 1; have c2 := HB1.cell 2; have c3 := HB1.cell 3; have c4 := HB1.cell 4
  replace c0 : _ = some (Value.int .i64 h.cl) := c0
  replace c1 : _ = some (Value.int .i64 h.lb) := c1
  replace c2 : _ = some (Value.int .i64 h.ln) := c2
  replace c3 : _ = some (Value.int .i64 h.nx) := c3
  replace c4 : _ = some (Value.int .i64 h.hp) := c4
  clear HB1
  go_wp2_with ((with_reducible refine wpList_alloc_v rfl 41 rfl (cellsI [0, 0, 0, 0, 0]) (by kernel_rfl) ?_); intro w2 HA2 hl2 hz2; refine Hid.out ?_)
  refine Lib.hid ?_
  rw [hz1] at HA2
  refine wpList_store_v rfl 41 (.tmp 3) (.tmp 16) rfl (w.heap.size + 1) rfl (cellsI (numsH h)) rfl _ _ HA2 rfl five_size (cellsI_one _) ?_
  intro w3 HA3 hb3 hz3
  replace HA3 := Lib.hid HA3
  have hL : Low w w3 := Below.trans (hl1.trans hl2) (hb3.mono (by omega))
  rw [hz2, hz1] at hz3
  clear c0 c1 c2 c3 c4 HA2 hb3 hl1 hl2 hz1 hz2
  go_wp2_with ((with_reducible refine wpList_alloc_v rfl 41 rfl (cellsI [0, 0, 0, 0, 0]) (by kernel_rfl) ?_); intro w4 HM hl4 hz4; refine Hid.out ?_)
  refine Lib.hid ?_
  rw [hz3] at HM
  refine wpList_store_v rfl 41 (.tmp 4) (.tmp 17) rfl (w.heap.size + 1 + 1) rfl (cellsI mostH) rfl _ _ HM rfl five_size (cellsI_one _) ?_
  intro w5 HM5 hb5 hz5
  replace HA3 := Lib.hid ((HA3.out.below hl4 HA3.out.lt).below hb5 (by omega))
  replace HM5 := Lib.hid HM5
  replace hL : Low w w5 := Below.trans (hL.trans hl4) (hb5.mono (by omega))
  clear HM hb5 hl4
  have HN : Hid ((numsH h).length = 5) := Lib.hid rfl
  have HY := Lib.hid (can_yes h)
  have HX := Lib.hid (can_no h)
  generalize numsH h = ns at *
  have HMl : Hid (mostH.length = 5) := Lib.hid rfl
  generalize mostH = ms at *
  go_wp2_with fail
  go_loopw [5] (fun i wr => ∃ k : Nat, k ≤ 5 ∧ i = .int .i64 k ∧ Hid (∀ j, j < k → 0 ≤ ns.getD j 0 ∧ ns.getD j 0 ≤ ms.getD j 0) ∧ Hid (BlkV wr 41 (w.heap.size + 1) (cellsI ns)) ∧ Hid (BlkV wr 41 (w.heap.size + 1 + 1) (cellsI ms)) ∧ Below w.heap.size w wr) (fun i _ => 5 - (intOf i).toNat)
  case atStart => exact ⟨0, Nat.zero_le _, rfl, Lib.hid (fun j hj => absurd hj (by omega)), HA3, HM5, hL⟩
  case round =>
    clear HA3 HM5 hL hz3 hz4 hz5
    obtain ⟨k, hk, rfl, HJ, HA, HM, hB⟩ := hrel
    by_cases hlt : k < 5
    · have h0 := HA.out.cell k
      have h1 := HM.out.cell k
      rw [cellsI_get (by rw [HN.out]; exact hlt)] at h0
      rw [cellsI_get (by rw [HMl.out]; exact hlt)] at h1
      have HXk := Lib.hid (HX.out k hlt)
      have HJk : Hid (0 ≤ ns.getD k 0 ∧ ns.getD k 0 ≤ ms.getD k 0 → ∀ j, j < k + 1 → 0 ≤ ns.getD j 0 ∧ ns.getD j 0 ≤ ms.getD j 0) := Lib.hid fun hq j hj => by
        rcases Nat.lt_or_ge j k with h | h
        · exact HJ.out j h
        · obtain rfl : j = k := by omega
          exact hq
      generalize ns.getD k 0 = x at *
      generalize ms.getD k 0 = y at *
      by_cases hx : x < 0
      · go_wp2_with fail
        go_quiet (fail)
        go_wp2
        go_ret
        exact ⟨ret_i (HXk.out (.inl hx)).symm, below_drewN hB _⟩
      · by_cases hy : y < x
        · go_wp2_with fail
          go_quiet (fail)
          go_wp2
          go_ret
          exact ⟨ret_i (HXk.out (.inr hy)).symm, below_drewN hB _⟩
        · go_wp2_with fail
          go_quiet (fail)
          go_wp2
          go_roundw
          case rel => exact ⟨k + 1, by omega, by go_num, Lib.hid (HJk.out ⟨by omega, by omega⟩), HA, HM, below_drewN hB _⟩
          case measure => simp [intOf]; omega
    · obtain rfl : k = 5 := by omega
      go_wp2
      go_ret
      exact ⟨ret_i (HY.out HJ.out).symm, hB⟩
end Go.Proofs.Ytpaikenchbeenaa
