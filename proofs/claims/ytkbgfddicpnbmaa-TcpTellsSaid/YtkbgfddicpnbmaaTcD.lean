/- What the document's Span and First answer. Condition: the payload is at most 2^47 bytes. -/
import Derived.Test.YtkbgfddicpnbmaaTcC
namespace Go.Proofs.Ytkbgfddicpnbmaa
open Go.RowKit
set_option linter.unusedVariables false

set_option maxRecDepth 100000 in
set_option maxHeartbeats 800000 in
theorem rspan_any (t : Sg) (w : World) (hp : t.pm ≤ 140737488351232) : Calls Try.prog 19 #[segV t] w fun e w' => e = .returned (.int .u32 (spanV t)) ∧ Below w.heap.size w w' := by
  unfold segV
  have hm : 0 ≤ (t.pm : Int) % 4294967296 ∧ (t.pm : Int) % 4294967296 < 4294967296 := by omega
  have HV := Lib.hid (show spanV t = oneIf (hasB t.fl 1) (oneIf (hasB t.fl 2) ((t.pm : Int) % 4294967296)) from rfl)
  rw [has1, has2] at HV
  go_enter Try.func19, Try.ntmps19
  go_wp2_with ((with_reducible refine wpList_box_seg rfl (.tmp 0) rfl t rfl ?_); intro w1 HB hL hz1; refine Hid.out ?_)
  refine Lib.hid ?_
  have c9 := (BlkS.cells HB).2.2.2.2.2.2.2.2.2
  replace HB := Lib.hid HB
  go_wp2_with (with_reducible refine wpList_load_seg rfl (.tmp 1) rfl w.heap.size rfl t HB.out ?_)
  refine (flag_any t 2 w1).mono ?_
  rintro e w2 ⟨rfl, hB2⟩
  replace HB := Lib.hid (HB.out.below hB2 HB.out.lt)
  replace hL := Low.trans hL hB2
  clear c9 hz1 hB2
  generalize (t.pm : Int) % 4294967296 = m at *
  cases hb2 : flagB t.fl 2
  · rw [hb2, show oneIf false m = m from rfl] at HV
    go_wp2_with (with_reducible refine wpList_load_seg rfl (.tmp 1) rfl w.heap.size rfl t HB.out ?_)
    refine (flag_any t 1 w2).mono ?_
    rintro e w3 ⟨rfl, hB3⟩
    replace hL := Low.trans hL hB3
    cases hb1 : flagB t.fl 1
    · rw [hb1] at HV
      go_wp2_with fail
      go_ret
      exact ⟨by rw [HV.out]; rfl, hL⟩
    · rw [hb1, show oneIf true m = (m + 1) % 4294967296 from rfl] at HV
      go_wp2_with fail
      go_ret
      exact ⟨by rw [HV.out]; rfl, hL⟩
  · rw [hb2, show oneIf true m = (m + 1) % 4294967296 from rfl] at HV
    have hm2 : 0 ≤ (m + 1) % 4294967296 ∧ (m + 1) % 4294967296 < 4294967296 := by omega
    go_wp2_with (with_reducible refine wpList_load_seg rfl (.tmp 1) rfl w.heap.size rfl t HB.out ?_)
    generalize (m + 1) % 4294967296 = m2 at *
    refine (flag_any t 1 w2).mono ?_
    rintro e w3 ⟨rfl, hB3⟩
    replace hL := Low.trans hL hB3
    cases hb1 : flagB t.fl 1
    · rw [hb1] at HV
      go_wp2_with fail
      go_ret
      exact ⟨by rw [HV.out]; rfl, hL⟩
    · rw [hb1, show oneIf true m2 = (m2 + 1) % 4294967296 from rfl] at HV
      go_wp2_with fail
      go_ret
      exact ⟨by rw [HV.out]; rfl, hL⟩

set_option maxRecDepth 100000 in
set_option maxHeartbeats 800000 in
theorem rfirst_any (t : Sg) (w : World) : Calls Try.prog 21 #[segV t] w fun e w' => e = .returned (.bool (firstV t)) ∧ Below w.heap.size w w' := by
  unfold segV
  have HV := Lib.hid (show firstV t = (!hasB t.fl 16 && !hasB t.fl 4 && !hasB t.fl 1 && hasB t.fl 2) from rfl)
  rw [has1, has2, has4, has16] at HV
  go_enter Try.func21, Try.ntmps21
  go_wp2_with ((with_reducible refine wpList_box_seg rfl (.tmp 0) rfl t rfl ?_); intro w1 HB hL hz1; refine Hid.out ?_)
  refine Lib.hid ?_
  replace HB := Lib.hid HB
  go_wp2_with (with_reducible refine wpList_load_seg rfl (.tmp 1) rfl w.heap.size rfl t HB.out ?_)
  refine (flag_any t 2 w1).mono ?_
  rintro e w2 ⟨rfl, hB2⟩
  replace HB := Lib.hid (HB.out.below hB2 HB.out.lt)
  replace hL := Low.trans hL hB2
  clear hz1 hB2
  cases hb2 : flagB t.fl 2
  · rw [hb2] at HV
    clear hb2
    go_wp2_with fail
    go_ret
    exact ⟨by rw [HV.out, Bool.and_false]; rfl, hL⟩
  · rw [hb2, Bool.and_true] at HV
    clear hb2
    go_wp2_with (with_reducible refine wpList_load_seg_g rfl (.tmp 1) rfl w.heap.size rfl t HB.out ?_)
    refine (flag_any t 16 w2).mono ?_
    rintro e w3 ⟨rfl, hB3⟩
    replace HB := Lib.hid (HB.out.below hB3 HB.out.lt)
    replace hL := Low.trans hL hB3
    clear hB3
    cases hb16 : flagB t.fl 16
    · rw [hb16] at HV
      clear hb16
      go_wp2_with (with_reducible refine wpList_load_seg_g rfl (.tmp 1) rfl w.heap.size rfl t HB.out ?_)
      refine (flag_any t 4 w3).mono ?_
      rintro e w4 ⟨rfl, hB4⟩
      replace HB := Lib.hid (HB.out.below hB4 HB.out.lt)
      replace hL := Low.trans hL hB4
      clear hB4
      cases hb4 : flagB t.fl 4
      · rw [hb4] at HV
        clear hb4
        go_wp2_with (with_reducible refine wpList_load_seg_g rfl (.tmp 1) rfl w.heap.size rfl t HB.out ?_)
        refine (flag_any t 1 w4).mono ?_
        rintro e w5 ⟨rfl, hB5⟩
        replace hL := Low.trans hL hB5
        clear hB5
        go_wp2_with fail
        go_ret
        exact ⟨by rw [HV.out]; simp, hL⟩
      · rw [hb4] at HV
        clear hb4
        go_wp2_with fail
        go_ret
        exact ⟨by rw [HV.out]; rfl, hL⟩
    · rw [hb16] at HV
      clear hb16
      go_wp2_with fail
      go_ret
      exact ⟨by rw [HV.out]; rfl, hL⟩
end Go.Proofs.Ytkbgfddicpnbmaa
