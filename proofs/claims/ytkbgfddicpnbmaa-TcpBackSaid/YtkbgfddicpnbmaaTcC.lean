/- What tcp.Span and First answer, and the document's. Condition: the payload is at most 2^47 bytes. -/
import Derived.Test.YtkbgfddicpnbmaaTcB
namespace Go.Proofs.Ytkbgfddicpnbmaa
open Go.RowKit
set_option linter.unusedVariables false

def oneIf (b : Bool) (x : Int) : Int := if b then (x + 1) % 4294967296 else x
def spanV (t : Sg) : Int := oneIf (hasB t.fl 1) (oneIf (hasB t.fl 2) ((t.pm : Int) % 4294967296))
def firstV (t : Sg) : Bool := !hasB t.fl 16 && !hasB t.fl 4 && !hasB t.fl 1 && hasB t.fl 2
theorem oneIf_range {b : Bool} {x : Int} (h : 0 ≤ x ∧ x < 4294967296) : 0 ≤ oneIf b x ∧ oneIf b x < 4294967296 := by
  unfold oneIf; split <;> omega
/-- the number so far -/
def spanAt (m y z : Int) (k : Nat) : Int := if k = 0 then m else if k = 1 then y else z

set_option maxRecDepth 100000 in
set_option maxHeartbeats 800000 in
theorem span_any (t : Sg) (w : World) (hp : t.pm ≤ 140737488351232) : Calls Try.prog 18 #[segV t] w fun e w' => e = .returned (.int .u32 (spanV t)) ∧ Below w.heap.size w w' := by
  unfold segV
  have hm : 0 ≤ (t.pm : Int) % 4294967296 ∧ (t.pm : Int) % 4294967296 < 4294967296 := by omega
  have hr1 := oneIf_range (b := hasB t.fl 2) hm
  obtain ⟨z, hz⟩ : ∃ z, z = spanV t := ⟨_, rfl⟩
  have HZ := Lib.hid hz
  have HV := Lib.hid (show spanV t = oneIf (hasB t.fl 1) (oneIf (hasB t.fl 2) ((t.pm : Int) % 4294967296)) from rfl)
  obtain ⟨y1, hy1⟩ : ∃ y, y = oneIf (hasB t.fl 2) ((t.pm : Int) % 4294967296) := ⟨_, rfl⟩
  rw [← hy1, ← hz] at HV
  rw [← hy1] at hr1
  have HY := Lib.hid hy1
  clear hy1 hz
  go_enter Try.func18, Try.ntmps18
  go_wp2_with ((with_reducible refine wpList_box_seg rfl (.tmp 0) rfl t rfl ?_); intro w1 HB hL hz1; refine Hid.out ?_)
  refine Lib.hid ?_
  obtain ⟨c0, c1, c2, c3, c4, c5, c6, c7, c8, c9⟩ := BlkS.cells HB
  clear HB c0 c1 c2 c3 c5 c6 c7 c8
  go_wp2_with fail
  have hl2 := Low.alloc w1 (.cells #[.func (.func 44) #[] #[], .func (.func 45) #[] #[]] 73)
  have hk2 : BlkV (w1.alloc (.cells #[.func (.func 44) #[] #[], .func (.func 45) #[] #[]] 73)) 73 w1.heap.size [.func (.func 44) #[] #[], .func (.func 45) #[] #[]] := BlkV.new w1 _ _
  rw [hz1] at hk2
  replace c4 := (hl2.cell (p := ⟨w.heap.size, 4, none⟩) (by simp only [hz1]; omega)).trans c4
  have hL2 := hL.trans hl2
  clear hL hl2 c9
  generalize w1.alloc (.cells #[.func (.func 44) #[] #[], .func (.func 45) #[] #[]] 73) = w2 at *
  have d0 : w2.cell? ⟨w.heap.size + 1, 0, none⟩ = some (.func (.func 44) #[] #[]) := hk2.cell 0
  have d1 : w2.cell? ⟨w.heap.size + 1, 1, none⟩ = some (.func (.func 45) #[] #[]) := hk2.cell 1
  clear hk2 hz1
  generalize (t.pm : Int) % 4294967296 = m at *
  go_loop [3, 12] (fun n i => ∃ k : Nat, k ≤ 2 ∧ i = .int .i64 k ∧ n = .int .u32 (spanAt m y1 z k)) (fun _ i => 2 - (intOf i).toNat)
  case atStart => exact ⟨0, by omega, rfl, rfl⟩
  case round =>
    obtain ⟨k, hk, rfl, rfl⟩ := hrel
    obtain rfl | rfl | rfl : k = 0 ∨ k = 1 ∨ k = 2 := by omega
    · rw [show spanAt m y1 z 0 = m from rfl]
      have hs1 : spanAt m y1 z 1 = y1 := rfl
      go_wp2_with fail
      refine (msyn_any t.fl w2).mono ?_
      rintro e w3 ⟨rfl, rfl⟩
      cases hb : hasB t.fl 2
      · rw [hb] at HY
        have hy : y1 = m := HY.out
        go_wp2_with fail
        go_round
        case rel => exact ⟨1, by omega, rfl, by rw [hs1, hy]⟩
        case measure => simp [intOf]
      · rw [hb] at HY
        have hy : y1 = (m + 1) % 4294967296 := HY.out
        go_wp2_with fail
        go_round
        case rel => exact ⟨1, by omega, rfl, by rw [hs1, hy]⟩
        case measure => simp [intOf]
    · rw [show spanAt m y1 z 1 = y1 from rfl]
      have hs2 : spanAt m y1 z 2 = z := rfl
      go_wp2_with fail
      refine (mfin_any t.fl w2).mono ?_
      rintro e w3 ⟨rfl, rfl⟩
      cases hb : hasB t.fl 1
      · rw [hb] at HV
        have hy : z = y1 := HV.out
        go_wp2_with fail
        go_round
        case rel => exact ⟨2, by omega, rfl, by rw [hs2, hy]⟩
        case measure => simp [intOf]
      · rw [hb] at HV
        have hy : z = (y1 + 1) % 4294967296 := HV.out
        go_wp2_with fail
        go_round
        case rel => exact ⟨2, by omega, rfl, by rw [hs2, hy]⟩
        case measure => simp [intOf]
    · rw [show spanAt m y1 z 2 = z from rfl]
      go_wp2_with fail
      go_ret
      exact ⟨by rw [← HZ.out]; rfl, hL2⟩

set_option maxRecDepth 100000 in
set_option maxHeartbeats 800000 in
theorem first_any (t : Sg) (w : World) : Calls Try.prog 20 #[segV t] w fun e w' => e = .returned (.bool (firstV t)) ∧ Below w.heap.size w w' := by
  unfold segV
  have HV := Lib.hid (show firstV t = (!hasB t.fl 16 && !hasB t.fl 4 && !hasB t.fl 1 && hasB t.fl 2) from rfl)
  go_enter Try.func20, Try.ntmps20
  go_wp2_with ((with_reducible refine wpList_box_seg rfl (.tmp 0) rfl t rfl ?_); intro w1 HB hL hz1; refine Hid.out ?_)
  refine Lib.hid ?_
  obtain ⟨c0, c1, c2, c3, c4, c5, c6, c7, c8, c9⟩ := BlkS.cells HB
  clear HB c0 c1 c2 c3 c5 c6 c7 c8 c9
  go_wp2_with fail
  have hl2 := Low.alloc w1 (.cells #[.func (.func 47) #[] #[], .func (.func 48) #[] #[], .func (.func 45) #[] #[]] 73)
  have hk2 : BlkV (w1.alloc (.cells #[.func (.func 47) #[] #[], .func (.func 48) #[] #[], .func (.func 45) #[] #[]] 73)) 73 w1.heap.size [.func (.func 47) #[] #[], .func (.func 48) #[] #[], .func (.func 45) #[] #[]] := BlkV.new w1 _ _
  rw [hz1] at hk2
  have hL2 := hL.trans hl2
  clear hL hl2 c4
  generalize w1.alloc (.cells #[.func (.func 47) #[] #[], .func (.func 48) #[] #[], .func (.func 45) #[] #[]] 73) = w2 at *
  have d0 : w2.cell? ⟨w.heap.size + 1, 0, none⟩ = some (.func (.func 47) #[] #[]) := hk2.cell 0
  have d1 : w2.cell? ⟨w.heap.size + 1, 1, none⟩ = some (.func (.func 48) #[] #[]) := hk2.cell 1
  have d2 : w2.cell? ⟨w.heap.size + 1, 2, none⟩ = some (.func (.func 45) #[] #[]) := hk2.cell 2
  clear hk2 hz1
  go_loop [10] (fun i => ∃ k : Nat, k ≤ 3 ∧ i = .int .i64 k ∧ Hid ((1 ≤ k → hasB t.fl 16 = false) ∧ (2 ≤ k → hasB t.fl 4 = false) ∧ (3 ≤ k → hasB t.fl 1 = false))) (fun i => 3 - (intOf i).toNat)
  case atStart => exact ⟨0, by omega, rfl, Lib.hid ⟨fun h => absurd h (by omega), fun h => absurd h (by omega), fun h => absurd h (by omega)⟩⟩
  case round =>
    obtain ⟨k, hk, rfl, HK⟩ := hrel
    obtain rfl | rfl | rfl | rfl : k = 0 ∨ k = 1 ∨ k = 2 ∨ k = 3 := by omega
    · go_wp2_with fail
      refine (mack_any t.fl w2).mono ?_
      rintro e w3 ⟨rfl, rfl⟩
      cases hb : hasB t.fl 16
      · have HB := Lib.hid hb
        clear hb
        go_wp2_with fail
        go_round
        case rel => exact ⟨1, by omega, rfl, Lib.hid ⟨fun _ => HB.out, fun h => absurd h (by omega), fun h => absurd h (by omega)⟩⟩
        case measure => simp [intOf]
      · rw [hb] at HV
        clear hb
        go_wp2_with fail
        go_ret
        exact ⟨by rw [HV.out]; rfl, hL2⟩
    · go_wp2_with fail
      refine (mrst_any t.fl w2).mono ?_
      rintro e w3 ⟨rfl, rfl⟩
      cases hb : hasB t.fl 4
      · have HB := Lib.hid hb
        clear hb
        go_wp2_with fail
        go_round
        case rel => exact ⟨2, by omega, rfl, Lib.hid ⟨fun _ => HK.out.1 (by omega), fun _ => HB.out, fun h => absurd h (by omega)⟩⟩
        case measure => simp [intOf]
      · rw [hb, HK.out.1 (by omega)] at HV
        clear hb
        go_wp2_with fail
        go_ret
        exact ⟨by rw [HV.out]; rfl, hL2⟩
    · go_wp2_with fail
      refine (mfin_any t.fl w2).mono ?_
      rintro e w3 ⟨rfl, rfl⟩
      cases hb : hasB t.fl 1
      · have HB := Lib.hid hb
        clear hb
        go_wp2_with fail
        go_round
        case rel => exact ⟨3, by omega, rfl, Lib.hid ⟨fun _ => HK.out.1 (by omega), fun _ => HK.out.2.1 (by omega), fun _ => HB.out⟩⟩
        case measure => simp [intOf]
      · rw [hb, HK.out.1 (by omega), HK.out.2.1 (by omega)] at HV
        clear hb
        go_wp2_with fail
        go_ret
        exact ⟨by rw [HV.out]; rfl, hL2⟩
    · rw [HK.out.1 (by omega), HK.out.2.1 (by omega), HK.out.2.2 (by omega)] at HV
      go_wp2_with fail
      refine (msyn_any t.fl w2).mono ?_
      rintro e w3 ⟨rfl, rfl⟩
      go_wp2_with fail
      go_ret
      exact ⟨by rw [HV.out]; rfl, hL2⟩
end Go.Proofs.Ytkbgfddicpnbmaa
