/- The walk of harrierlaw11.DetourBack: it answers true. Condition: at most 2^47 - 4096 bytes and others. -/
import Derived.Test.YtpaomhgdpncdoaaDtL
import Derived.Test.YtpaomhgdpncdoaaDtM
namespace Go.Proofs.Ytpaomhgdpncdoaa
open Go.RowKit
set_option linter.unusedVariables false

set_option maxRecDepth 100000 in
set_option maxHeartbeats 3200000 in
theorem dtb_walk (A : Option Addr) (n c : Nat) (xs : List Int) (vA : Option Addr) (m vc : Nat) (l : List (List Int)) (w : World) (hn : n ≤ 140737488351232) (hc : n ≤ c) (hc2 : c ≤ 9223372036854775807) (hb : Bs w w.heap.size A n xs) (hm : m ≤ 140737488351232) (hv : As w w.heap.size vA m l) :
    Calls Try.prog 5 #[.slice A n c, .slice vA m vc] w fun e w' => e = .returned (.bool true) ∧ Low w w' := by
  by_cases hm40 : 40 < m
  · have h40 : (40 : Int) < m := by omega
    clear hb hv
    go_enter Try.func5, Try.ntmps5
    go_wp2_with fail
    refine (dlives_any w).mono ?_
    rintro e w2 ⟨rfl, hL⟩
    go_wp2_with fail
    go_ret
    exact ⟨rfl, hL⟩
  · have h40 : ¬ (40 : Int) < m := by omega
    have HB := Lib.hid hb
    have HV := Lib.hid hv
    have HI := Lib.hid (insert_any A n c xs vA m vc l none 0 0 [] w (by omega) hc hc2 hb hm hv (by omega) (Os.nil _ _ _))
    rw [List.map_nil] at HI
    clear hb hv
    go_enter Try.func5, Try.ntmps5
    go_wp2_with fail
    refine HI.out.mono ?_
    rintro e w2 ⟨A2, c2, rfl, hn2, hc22, hb2, hL⟩
    replace hL : Low w w2 := hL
    have HE := Lib.hid (show insE xs l [] = insE xs l [] from rfl)
    have HIL := Lib.hid (show insE xs l [] ≠ 0 → insL xs l [] = [] from fun h => by unfold insL; rw [if_neg h])
    have HOK := Lib.hid (show insE xs l [] = 0 → hdrE (insL xs l []) = 0 ∧ remL (insL xs l []) = xs from fun h => ins_back HB.out.all HV.out.all h)
    have HLN := Lib.hid (show insE xs l [] = 0 → (insL xs l []).length ≤ 1500 from fun h => ins_len HB.out.all HV.out.all h)
    have HB2 := Lib.hid hb2
    clear HI hb2 HE
    generalize insE xs l [] = er at *
    generalize insL xs l [] = ys at *
    by_cases he : er = 0
    · subst he
      obtain ⟨o1, o2⟩ := HOK.out rfl
      have hle := HLN.out rfl
      have HO1 := Lib.hid o1
      have HO2 := Lib.hid o2
      obtain ⟨q, hq⟩ : ∃ q, q = ys.length := ⟨_, rfl⟩
      rw [← hq] at hn2 HB2 hle ⊢
      clear o1 o2 HOK HLN HIL hq
      go_wp2_with fail
      refine (remove_any A2 q c2 ys w2 (by omega) hn2 hc22 HB2.out).mono ?_
      rintro e w3 ⟨A3, c3, rfl, hn3, hc3, hb3, hB3⟩
      rw [HO1.out, HO2.out]
      rw [HO2.out] at hb3
      have hL3 := hL.trans hB3
      have cv1 := conv_bs (c := c3) hb3
      have cv2 := conv_bs (c := c) (HB.out.below' hL3 hL3.size)
      obtain ⟨st, hst⟩ : ∃ st, st = strOfNums xs := ⟨_, rfl⟩
      rw [← hst] at cv1 cv2
      have hq15 : (q : Int) ≤ 1500 := by omega
      generalize xs.length = qx at *
      clear hst hb3 hB3 hL
      go_wp2_with fail
      refine (dlives_any w3).mono ?_
      rintro e w4 ⟨rfl, hl4⟩
      replace hL3 := hL3.trans hl4
      clear cv1 cv2
      go_wp2_with fail
      go_ret
      exact ⟨rfl, hL3⟩
    · have heb : (er != 0) = true := by simpa using he
      rw [HIL.out he]
      clear HOK HLN
      go_wp2_with fail
      refine (dlives_any w2).mono ?_
      rintro e w4 ⟨rfl, hl4⟩
      replace hL := hL.trans hl4
      go_wp2_with fail
      go_ret
      exact ⟨rfl, hL⟩
end Go.Proofs.Ytpaomhgdpncdoaa
