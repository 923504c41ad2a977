/- What tcp.Can answers: whether a segment can be. Condition: at most 2^47 options, and as many bytes of payload. -/
import Derived.Test.YtkbgfddicpnbmaaTcA
import Derived.Test.YtkbgfddicpnbmaaTpG
namespace Go.Proofs.Ytkbgfddicpnbmaa
open Go.RowKit
set_option linter.unusedVariables false

/-- are its numbers such as their bytes have room for? -/
def fitB (x : Sb) : Bool := decide ((0 ≤ x.sp ∧ x.sp ≤ 65535) ∧ (0 ≤ x.dp ∧ x.dp ≤ 65535) ∧ (0 ≤ x.wi ∧ x.wi ≤ 65535) ∧ (0 ≤ x.su ∧ x.su ≤ 65535) ∧ (0 ≤ x.ur ∧ x.ur ≤ 65535) ∧ (0 ≤ x.fl ∧ x.fl ≤ 255))
def canS (x : Sb) : Int := if fitB x = true then (if canO x.os = 0 then (if 65515 - ((putO x.os).length : Int) < (x.ps.length : Int) then 4 else 0) else canO x.os) else 2
def numsS (x : Sb) : List Int := [x.sp, x.dp, x.wi, x.su, x.ur]
def ins16 (l : List Int) (k : Nat) : Prop := ∀ j, j < k → 0 ≤ l.getD j 0 ∧ l.getD j 0 ≤ 65535
theorem ins16_zero (l : List Int) : ins16 l 0 := fun j h => absurd h (by omega)
theorem ins16_succ {l : List Int} {k : Nat} (h : ins16 l k) (h0 : 0 ≤ l.getD k 0) (h1 : l.getD k 0 ≤ 65535) : ins16 l (k + 1) := fun j hj => by
  rcases Nat.lt_or_ge j k with h2 | h2
  · exact h j h2
  · obtain rfl : j = k := by omega
    exact ⟨h0, h1⟩
theorem fitB_false {x : Sb} {k : Nat} (hk : k < 5) (h : ¬ (0 ≤ (numsS x).getD k 0 ∧ (numsS x).getD k 0 ≤ 65535)) : canS x = 2 := by
  have hf : fitB x = false := by
    unfold fitB
    rw [decide_eq_false_iff_not]
    rintro ⟨h1, h2, h3, h4, h5, h6⟩
    apply h
    obtain rfl | rfl | rfl | rfl | rfl : k = 0 ∨ k = 1 ∨ k = 2 ∨ k = 3 ∨ k = 4 := by omega
    · exact h1
    · exact h2
    · exact h3
    · exact h4
    · exact h5
  unfold canS
  rw [hf]
  rfl
theorem fitB_flags {x : Sb} (h : ¬ (0 ≤ x.fl ∧ x.fl ≤ 255)) : canS x = 2 := by
  have hf : fitB x = false := by
    unfold fitB
    rw [decide_eq_false_iff_not]
    rintro ⟨h1, h2, h3, h4, h5, h6⟩
    exact h h6
  unfold canS
  rw [hf]
  rfl
theorem fitB_true {x : Sb} (h : ins16 (numsS x) 5) (h2 : 0 ≤ x.fl ∧ x.fl ≤ 255) : canS x = if canO x.os = 0 then (if 65515 - ((putO x.os).length : Int) < (x.ps.length : Int) then 4 else 0) else canO x.os := by
  have hf : fitB x = true := by
    unfold fitB
    rw [decide_eq_true_iff]
    exact ⟨h 0 (by omega), h 1 (by omega), h 2 (by omega), h 3 (by omega), h 4 (by omega), h2⟩
  unfold canS
  rw [hf]
  rfl

set_option maxRecDepth 100000 in
set_option maxHeartbeats 800000 in
theorem tccan_any (t : Sg) (w : World) (ht : t.ok w w.heap.size) : Calls Try.prog 12 #[segV t] w fun e w' => e = .returned (.int .i64 (canS t.v)) ∧ Below w.heap.size w w' := by
  unfold segV
  have HT := Lib.hid ht
  clear ht
  have hpm := HT.out.pm
  have HPS := Lib.hid (show t.v.ps.length = t.pm from HT.out.ps.len)
  go_enter Try.func12, Try.ntmps12
  go_wp2_with ((with_reducible refine wpList_box_seg rfl (.tmp 0) rfl t rfl ?_); intro w1 HB hL hz1; refine Hid.out ?_)
  refine Lib.hid ?_
  obtain ⟨c0, c1, c2, c3, c4, c5, c6, c7, c8, c9⟩ := BlkS.cells HB
  replace HB := Lib.hid HB
  clear c2 c3
  go_wp2_with fail
  have hl2 := Low.alloc w1 (.cells #[.int .i64 t.sp, .int .i64 t.dp, .int .i64 t.wi, .int .i64 t.su, .int .i64 t.ur] 3)
  have hk2 : BlkV (w1.alloc (.cells #[.int .i64 t.sp, .int .i64 t.dp, .int .i64 t.wi, .int .i64 t.su, .int .i64 t.ur] 3)) 3 w1.heap.size ((numsS t.v).map (.int .i64)) := BlkV.new w1 _ _
  rw [hz1] at hk2
  replace HB := Lib.hid (HB.out.below hl2 HB.out.lt)
  have hL2 := hL.trans hl2
  clear hL hl2 c0 c1 c4 c5 c6 c7 c8 c9
  generalize w1.alloc (.cells #[.int .i64 t.sp, .int .i64 t.dp, .int .i64 t.wi, .int .i64 t.su, .int .i64 t.ur] 3) = w2 at *
  have HK := Lib.hid hk2
  clear hk2 hz1
  go_loop [19] (fun i => ∃ k : Nat, k ≤ 5 ∧ i = .int .i64 k ∧ Hid (ins16 (numsS t.v) k)) (fun i => 5 - (intOf i).toNat)
  case atStart => exact ⟨0, by omega, rfl, Lib.hid (ins16_zero _)⟩
  case round =>
    obtain ⟨k, hk, rfl, HI⟩ := hrel
    by_cases hlt : k < 5
    · have h0 : w2.cell? ⟨w.heap.size + 1, k, none⟩ = some (.int .i64 ((numsS t.v).getD k 0)) := by
        rw [HK.out.cell k]
        simp [List.getD, show k < (numsS t.v).length from hlt]
      have HF := Lib.hid (fun h => fitB_false (x := t.v) hlt h)
      have HS := Lib.hid (fun h0 h1 => ins16_succ HI.out (l := numsS t.v) (k := k) h0 h1)
      generalize (numsS t.v).getD k 0 = x at *
      by_cases hx0 : x < 0
      · go_wp2_with fail
        go_ret
        exact ⟨by rw [HF.out (by omega)]; rfl, hL2⟩
      · have hx0' : decide (x < 0) = false := decide_eq_false hx0
        by_cases hx1 : 65535 < x
        · go_wp2_with fail
          go_ret
          exact ⟨by rw [HF.out (by omega)]; rfl, hL2⟩
        · have hx1' : decide (65535 < x) = false := decide_eq_false hx1
          go_wp2_with fail
          go_round
          case rel => exact ⟨k + 1, by omega, by go_num, Lib.hid (HS.out (by omega) (by omega))⟩
          case measure => simp [intOf]; omega
    · obtain rfl : k = 5 := by omega
      obtain ⟨c0, c1, c2, c3, c4, c5, c6, c7, c8, c9⟩ := BlkS.cells HB.out
      clear c0 c1 c2 c3 c5 c6 c7
      by_cases hx0 : t.fl < 0
      · have HF := Lib.hid (fitB_flags (x := t.v) (fun h => by have := h.1; change 0 ≤ t.fl at this; omega))
        go_wp2_with fail
        go_ret
        exact ⟨by rw [HF.out]; rfl, hL2⟩
      · have hx0' : decide (t.fl < 0) = false := decide_eq_false hx0
        by_cases hx1 : 255 < t.fl
        · have HF := Lib.hid (fitB_flags (x := t.v) (fun h => by have := h.2; change t.fl ≤ 255 at this; omega))
          go_wp2_with fail
          go_ret
          exact ⟨by rw [HF.out]; rfl, hL2⟩
        · have hx1' : decide (255 < t.fl) = false := decide_eq_false hx1
          have HF := Lib.hid (fitB_true (x := t.v) HI.out ⟨by show 0 ≤ t.fl; omega, by show t.fl ≤ 255; omega⟩)
          rw [HPS.out] at HF
          go_wp2_with fail
          refine (tput_any t.oA t.om t.oc t.os w2 (by have := HT.out.om; omega) (HT.out.low hL2).os).mono ?_
          rintro e w3 ⟨A3, c3, rfl, hb3, -, hB3⟩
          replace HF : Hid (canS t.v = if canO (t.os.map Od.v) = 0 then (if 65515 - ((putO (t.os.map Od.v)).length : Int) < (t.pm : Int) then 4 else 0) else canO (t.os.map Od.v)) := HF
          replace c9 := (hB3.cell (p := ⟨w.heap.size, 9, none⟩) HB.out.lt).trans c9
          have hq : (putO (t.os.map Od.v)).length ≤ 43 := by
            by_cases h0 : canO (t.os.map Od.v) = 0
            · have := putO_len h0; have := (canO_zero h0).2; omega
            · unfold putO; rw [if_neg h0]; simp
          have hL3 := hL2.trans hB3
          clear hb3 hB3 c4 c8 HB HK HI
          generalize (putO (t.os.map Od.v)).length = q at *
          generalize canO (t.os.map Od.v) = x at *
          by_cases hx : x = 0
          · rw [if_pos hx] at HF
            subst hx
            by_cases hl : 65515 - (q : Int) < (t.pm : Int)
            · rw [if_pos hl] at HF
              go_wp2_with fail
              go_ret
              exact ⟨by rw [HF.out]; rfl, hL3⟩
            · rw [if_neg hl] at HF
              go_wp2_with fail
              go_ret
              exact ⟨by rw [HF.out]; rfl, hL3⟩
          · rw [if_neg hx] at HF
            go_wp2_with fail
            go_ret
            exact ⟨by rw [HF.out]; rfl, hL3⟩
end Go.Proofs.Ytkbgfddicpnbmaa
