/- What the document's Can answers: whether a segment can be. Condition: at most 2^47 options, and as many bytes of payload. -/
import Derived.Test.YtkbgfddicpnbmaaTcE
import Derived.Test.YtkbgfddicpnbmaaTpH
namespace Go.Proofs.Ytkbgfddicpnbmaa
open Go.RowKit
set_option linter.unusedVariables false

def nums6 (x : Sb) : List Int := [x.sp, x.dp, x.wi, x.su, x.ur, x.fl]
theorem fit6_false {x : Sb} {k : Nat} (hk : k < 6) (h : ¬ (0 ≤ (nums6 x).getD k 0 ∧ (nums6 x).getD k 0 ≤ 65535)) : canS x = 2 := by
  by_cases h5 : k < 5
  · refine fitB_false h5 fun h1 => h ?_
    obtain rfl | rfl | rfl | rfl | rfl : k = 0 ∨ k = 1 ∨ k = 2 ∨ k = 3 ∨ k = 4 := by omega
    iterate 5 exact h1
  · obtain rfl : k = 5 := by omega
    refine fitB_flags fun h1 => h ?_
    change 0 ≤ x.fl ∧ x.fl ≤ 65535
    omega
theorem fit6_true {x : Sb} (h : ins16 (nums6 x) 6) (h2 : x.fl ≤ 255) : canS x = if canO x.os = 0 then (if 65515 - ((putO x.os).length : Int) < (x.ps.length : Int) then 4 else 0) else canO x.os :=
  fitB_true (fun j hj => by
    have h1 := h j (by omega)
    obtain rfl | rfl | rfl | rfl | rfl : j = 0 ∨ j = 1 ∨ j = 2 ∨ j = 3 ∨ j = 4 := by omega
    iterate 5 exact h1) ⟨(h 5 (by omega)).1, h2⟩
theorem size_six : (Try.prog.info? 83).map (·.size) = some 6 := by kernel_rfl
theorem zero_six : (Try.prog.info? 83).map (·.zero) = some (some (.agg [Value.int .i64 0, .int .i64 0, .int .i64 0, .int .i64 0, .int .i64 0, .int .i64 0].toArray)) := by kernel_rfl

set_option maxRecDepth 100000 in
set_option maxHeartbeats 800000 in
theorem trccan_any (t : Sg) (w : World) (ht : t.ok w w.heap.size) : Calls Try.prog 28 #[segV t] w fun e w' => e = .returned (.int .i64 (canS t.v)) ∧ Below w.heap.size w w' := by
  unfold segV
  have HT := Lib.hid ht
  clear ht
  have hpm := HT.out.pm
  have HPS := Lib.hid (show t.v.ps.length = t.pm from HT.out.ps.len)
  go_enter Try.func28, Try.ntmps28
  go_wp2_with ((with_reducible refine wpList_box_seg rfl (.tmp 0) rfl t rfl ?_); intro w1 HB hL hz1; refine Hid.out ?_)
  refine Lib.hid ?_
  obtain ⟨c0, c1, c2, c3, c4, c5, c6, c7, c8, c9⟩ := BlkS.cells HB
  replace HB := Lib.hid HB
  clear c2 c3
  go_wp2_with ((with_reducible refine wpList_alloc_v rfl 83 rfl _ zero_six ?_); intro w2 HZ hl2 hz2; refine Hid.out ?_)
  refine Lib.hid ?_
  replace HB := Lib.hid (HB.out.below hl2 HB.out.lt)
  have hL2 := hL.trans hl2
  rw [hz1] at HZ hz2
  replace HZ := Lib.hid HZ
  clear hL hl2 c0 c1 c4 c5 c6 c7 c8 c9
  go_wp2_with ((refine wpList_store_v rfl 83 (.tmp 3) (.tmp 19) rfl (w.heap.size + 1) rfl ((nums6 t.v).map (.int .i64)) rfl _ _ HZ.out rfl (by rw [size_six]; rfl) (by simp [nums6, Value.oneCell']) ?_); intro w3 HK hb3 hz3; refine Hid.out ?_)
  refine Lib.hid ?_
  replace HB := Lib.hid (HB.out.below hb3 (by omega))
  replace hL2 : Low w w3 := Below.trans hL2 (hb3.mono (by omega))
  replace HK := Lib.hid HK
  clear HZ hz1 hz2 hz3 hb3
  go_wp2_with fail
  go_loop [4] (fun i => ∃ k : Nat, k ≤ 6 ∧ i = .int .i64 k ∧ Hid (ins16 (nums6 t.v) k ∧ (6 ≤ k → t.fl ≤ 255))) (fun i => 6 - (intOf i).toNat)
  case atStart => exact ⟨0, by omega, rfl, Lib.hid ⟨ins16_zero _, fun h => absurd h (by omega)⟩⟩
  case round =>
    obtain ⟨k, hk, rfl, HI⟩ := hrel
    by_cases hlt : k < 6
    · have h0 : w3.cell? ⟨w.heap.size + 1, k, none⟩ = some (.int .i64 ((nums6 t.v).getD k 0)) := by
        rw [HK.out.cell k]
        simp [List.getD, show k < (nums6 t.v).length from hlt]
      have HF := Lib.hid (fun h => fit6_false (x := t.v) hlt h)
      have HS := Lib.hid (fun h0 h1 => ins16_succ HI.out.1 (l := nums6 t.v) (k := k) h0 h1)
      by_cases h5 : k = 5
      · subst h5
        have e5 : (nums6 t.v).getD 5 0 = t.fl := rfl
        rw [e5] at h0 HF HS
        have HF2 := Lib.hid (fun h => fitB_flags (x := t.v) h)
        replace HF2 : Hid (¬ (0 ≤ t.fl ∧ t.fl ≤ 255) → canS t.v = 2) := HF2
        obtain ⟨x, hx⟩ : ∃ x, x = t.fl := ⟨_, rfl⟩
        rw [← hx] at h0 HF HS HF2
        have HX := Lib.hid hx
        clear hx e5
        by_cases hx0 : x < 0
        · go_wp2_with fail
          go_ret
          exact ⟨by rw [HF.out (by omega)]; rfl, hL2⟩
        · have hx0' : decide (x < 0) = false := decide_eq_false hx0
          by_cases hx1 : 65535 < x
          · go_wp2_with fail
            go_ret
            exact ⟨by rw [HF.out (by omega)]; rfl, hL2⟩
          · have hx1' : decide (65535 < x) = false := decide_eq_false hx1
            by_cases hx2 : 255 < x
            · go_wp2_with fail
              go_ret
              exact ⟨by rw [HF2.out (by omega)]; rfl, hL2⟩
            · have hx2' : decide (255 < x) = false := decide_eq_false hx2
              go_wp2_with fail
              go_round
              case rel => exact ⟨6, by omega, rfl, Lib.hid ⟨HS.out (by omega) (by omega), fun _ => by rw [← HX.out]; omega⟩⟩
              case measure => simp [intOf]
      · have h5' : decide ((k : Int) = 5) = false := decide_eq_false (by omega)
        have h5'' : ¬ ((k : Int) = 5) := by omega
        generalize (nums6 t.v).getD k 0 = x at *
        by_cases hx0 : x < 0
        · go_wp2_with fail
          go_ret
          exact ⟨by rw [HF.out (by omega)]; rfl, hL2⟩
        · have hx0' : decide (x < 0) = false := decide_eq_false hx0
          by_cases hx1 : 65535 < x
          · go_wp2_with fail
            go_ret
            exact ⟨by rw [HF.out (by omega)]; rfl, hL2⟩
          · have hx1' : decide (65535 < x) = false := decide_eq_false hx1
            go_wp2_with fail
            go_round
            case rel => exact ⟨k + 1, by omega, by go_num, Lib.hid ⟨HS.out (by omega) (by omega), fun h => absurd h (by omega)⟩⟩
            case measure => simp [intOf]; omega
    · obtain rfl : k = 6 := by omega
      obtain ⟨c0, c1, c2, c3, c4, c5, c6, c7, c8, c9⟩ := BlkS.cells HB.out
      clear c0 c1 c2 c3 c4 c5 c6 c7
      have HF := Lib.hid (fit6_true (x := t.v) HI.out.1 (HI.out.2 (by omega)))
      rw [HPS.out] at HF
      go_wp2_with fail
      refine (trput_any t.oA t.om t.oc t.os w3 (by have := HT.out.om; omega) (HT.out.low hL2).os).mono ?_
      rintro e w4 ⟨A3, c3, rfl, hb3, -, hB3⟩
      replace HF : Hid (canS t.v = if canO (t.os.map Od.v) = 0 then (if 65515 - ((putO (t.os.map Od.v)).length : Int) < (t.pm : Int) then 4 else 0) else canO (t.os.map Od.v)) := HF
      replace c9 := (hB3.cell (p := ⟨w.heap.size, 9, none⟩) HB.out.lt).trans c9
      have hq : (putO (t.os.map Od.v)).length ≤ 43 := by
        by_cases h0 : canO (t.os.map Od.v) = 0
        · have := putO_len h0; have := (canO_zero h0).2; omega
        · unfold putO; rw [if_neg h0]; simp
      have hL3 := hL2.trans hB3
      clear hb3 hB3 c8 HB HK HI
      generalize (putO (t.os.map Od.v)).length = q at *
      generalize canO (t.os.map Od.v) = x at *
      by_cases hx : x = 0
      · rw [if_pos hx] at HF
        subst hx
        by_cases hl : 65515 - (q : Int) < (t.pm : Int)
        · rw [if_pos hl] at HF
          go_wp2_with fail
          go_ret
          exact ⟨by rw [HF.out]; rfl, hL3⟩
        · rw [if_neg hl] at HF
          go_wp2_with fail
          go_ret
          exact ⟨by rw [HF.out]; rfl, hL3⟩
      · rw [if_neg hx] at HF
        go_wp2_with fail
        go_ret
        exact ⟨by rw [HF.out]; rfl, hL3⟩
end Go.Proofs.Ytkbgfddicpnbmaa
