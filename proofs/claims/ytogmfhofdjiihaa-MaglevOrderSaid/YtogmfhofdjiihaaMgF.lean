/- Stage 17: the document's Total, full and Sorted. Condition: at most 40 members, 300 slots. -/
import Derived.Test.YtogmfhofdjiihaaMgE
import Derived.Test.YtogmfhofdjiihaaPmB
set_option maxRecDepth 100000
namespace Go.Proofs.Ytogmfhofdjiihaa
open Go.RowKit
set_option linter.unusedVariables false

set_option maxHeartbeats 3200000 in
set_option maxRecDepth 100000 in
theorem rtotal_any (A : Option Addr) (n c : Nat) (l : List Mbr) (w : World) (hn : n ≤ 40) (hb : Es mbrE w w.heap.size A n l) :
    Calls Try.prog 14 #[.slice A n c] w fun e w' => e = .returned (.int .i64 (totalM l)) ∧ Low w w' := by
  have HB := Lib.hid hb
  have HL := Lib.hid hb.len
  clear hb
  go_enter Try.func14, Try.ntmps14
  go_wp2_with fail
  go_loopw [3, 4] (fun v3 v wr => ∃ (i : Nat) (s : Int), i ≤ n ∧ v = .int .i64 i ∧ v3 = .int .i64 s ∧ Hid (s = ((l.take i).map Mbr.w).sum) ∧ Hid (i = 0 ∨ rightM l = 0) ∧ 0 ≤ s ∧ s ≤ 4 * i ∧ Hid (Es mbrE wr w.heap.size A n l) ∧ Hid (Low w wr)) (fun _ v _ => n - (intOf v).toNat)
  case atStart => exact ⟨0, 0, by omega, rfl, rfl, Lib.hid rfl, Lib.hid (.inl rfl), by omega, by omega, HB, Lib.hid (Low.refl _)⟩
  case round =>
    clear HB
    obtain ⟨i, s, hi, rfl, rfl, HS, HR, hs0, hs4, HB, hL⟩ := hrel
    have HRR := Lib.hid (fun u (hu : Es mbrE u u.heap.size A n l) => rright_any A n c l u hn hu)
    by_cases hlt : i < n
    · go_wp2_with fail
      refine (HRR.out wr (HB.out.more hL.out.size)).mono ?_
      rintro e w2 ⟨rfl, hl⟩
      replace HB := Lib.hid (HB.out.below (hl.mono hL.out.size))
      replace hL := Lib.hid (hL.out.trans hl)
      clear hl HRR
      by_cases h0 : rightM l = 0
      · have HR2 := Lib.hid (show i + 1 = 0 ∨ rightM l = 0 from .inr h0)
        obtain ⟨b, o, rfl, hbb, hcc⟩ := HB.out.mem (by omega)
        clear hbb hcc
        obtain ⟨_, c1⟩ := mbr_cells HB.out hlt
        have hq := (rightM_right h0).ok (l.getD i zeroMbr) (by rw [getD_memM l i (by rw [HL.out]; exact hlt)]; exact List.getElem_mem _)
        have HT := Lib.hid (show ((l.take (i + 1)).map Mbr.w).sum = ((l.take i).map Mbr.w).sum + (l.getD i zeroMbr).w by
          rw [List.take_succ_eq_append_getElem (by rw [HL.out]; exact hlt), List.map_append, List.sum_append, ← getD_memM l i (by rw [HL.out]; exact hlt)]
          simp)
        rw [← HS.out] at HT
        obtain ⟨q, hqq⟩ : ∃ q, q = (l.getD i zeroMbr).w := ⟨_, rfl⟩
        rw [← hqq] at c1 HT hq
        have hq0 := hq.2.2.1
        have hq4 := hq.2.2.2
        clear hq hqq HR HS
        rw [h0]
        clear h0
        go_wp2_with fail
        go_roundw
        case rel => exact ⟨i + 1, s + q, by omega, by go_num, by go_num, Lib.hid HT.out.symm, HR2, by omega, by omega, HB, hL⟩
        case measure => simp [intOf]; omega
      · have hi0 : i = 0 := by rcases HR.out with h | h; exact h; exact absurd h h0
        have HE := Lib.hid (show totalM l = 0 by unfold totalM; rw [if_neg h0])
        have hr0 : (rightM l == 0) = false := by simpa using h0
        subst hi0
        have hs : s = 0 := by omega
        subst hs
        generalize rightM l = r at *
        go_wp2_with fail
        go_ret
        exact ⟨by rw [HE.out]; rfl, hL.out⟩
    · obtain rfl : i = n := by omega
      have HE := Lib.hid (show totalM l = s by
        unfold totalM
        rcases HR.out with h | h
        · have hl0 : l = [] := List.eq_nil_of_length_eq_zero (by rw [HL.out]; exact h)
          rw [HS.out, hl0]
          simp
        · rw [if_pos h, HS.out, List.take_of_length_le (by rw [HL.out]; exact Nat.le_refl _)])
      clear HRR
      go_wp2_with fail
      go_ret
      exact ⟨by rw [HE.out]; rfl, hL.out⟩

/-- is each slot somebody's? -/
theorem fullP_no {t : List Int} {i : Nat} (h : i < t.length) (e : t.getD i 0 = 0) : fullP t = false := by
  unfold fullP
  have h1 : t[i] = 0 := by simpa [List.getD, h] using e
  have h2 : (0 : Int) ∈ t := h1 ▸ List.getElem_mem h
  simp [h2]
theorem fullP_yes {t : List Int} (h : ∀ i, i < t.length → t.getD i 0 ≠ 0) : fullP t = true := by
  unfold fullP
  have h2 : ¬ (0 : Int) ∈ t := fun hm => by
    obtain ⟨i, hi, e⟩ := List.mem_iff_getElem.1 hm
    exact h i hi (by simpa [List.getD, hi] using e)
  simp [h2]
set_option maxHeartbeats 800000 in
theorem rfull_any (A : Option Addr) (n c : Nat) (t : List Int) (w : World) (hn : n ≤ 1000) (hb : Ns w w.heap.size A n t) :
    Calls Try.prog 21 #[.slice A n c] w fun e w' => e = .returned (.bool (fullP t)) ∧ w = w' := by
  have HL := Lib.hid hb.len
  go_enter Try.func21, Try.ntmps21
  go_wp2_with fail
  go_loop [3] (fun v => ∃ i : Nat, i ≤ n ∧ v = .int .i64 i ∧ Hid (∀ j, j < i → t.getD j 0 ≠ 0)) (fun v => n - (intOf v).toNat)
  case atStart => exact ⟨0, by omega, rfl, Lib.hid fun j h => by omega⟩
  case round =>
    obtain ⟨i, hi, rfl, HW⟩ := hrel
    by_cases hlt : i < n
    · obtain ⟨b, o, rfl, _, hc⟩ := hb.at_ hlt
      have c0 := hc i hlt
      clear hc
      by_cases h0 : t.getD i 0 = 0
      · have HE := Lib.hid (fullP_no (by rw [HL.out]; exact hlt) h0)
        rw [h0] at c0
        clear h0
        go_wp2_with fail
        go_ret
        exact ⟨ret_bool HE.out.symm, rfl⟩
      · have HW2 := Lib.hid (show ∀ j, j < i + 1 → t.getD j 0 ≠ 0 from fun j hj => by
          by_cases hji : j = i
          · rw [hji]; exact h0
          · exact HW.out j (by omega))
        have h1 : (t.getD i 0 == 0) = false := by simpa using h0
        generalize t.getD i 0 = x at h0 h1 c0
        clear HW
        go_wp2_with fail
        go_round
        case rel => exact ⟨i + 1, by omega, by go_num, HW2⟩
        case measure => simp [intOf]; omega
    · obtain rfl : i = n := by omega
      have HE := Lib.hid (fullP_yes (t := t) (by rw [HL.out]; exact HW.out))
      go_wp2_with fail
      go_ret
      exact ⟨ret_bool HE.out.symm, rfl⟩
end Go.Proofs.Ytogmfhofdjiihaa
