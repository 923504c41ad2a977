/- The walk of harrierlaw11.DetourInserts: it answers true. Condition: at most 2^47 - 4096 bytes, others and parts. -/
import Derived.Test.YtpaomhgdpncdoaaDtL
import Derived.Test.YtpaomhgdpncdoaaDtU
namespace Go.Proofs.Ytpaomhgdpncdoaa
open Go.RowKit
set_option linter.unusedVariables false

set_option maxRecDepth 100000 in
set_option maxHeartbeats 3200000 in
theorem dti_walk (A : Option Addr) (n c : Nat) (xs : List Int) (vA : Option Addr) (m vc : Nat) (l : List (List Int)) (tA : Option Addr) (tn tc : Nat) (os : List Od) (w : World)
    (hn : n ≤ 140737488351232) (hc : n ≤ c) (hc2 : c ≤ 9223372036854775807) (hb : Bs w w.heap.size A n xs) (hm : m ≤ 140737488351232) (hv : As w w.heap.size vA m l) (ht : tn ≤ 140737488351232) (hp : Os w w.heap.size tA tn os) :
    Calls Try.prog 4 #[.slice A n c, .slice vA m vc, .slice tA tn tc] w fun e w' => e = .returned (.bool true) ∧ Low w w' := by
  have HB := Lib.hid hb
  have HV := Lib.hid hv
  have HP := Lib.hid hp
  clear hb hv hp
  go_enter Try.func4, Try.ntmps4
  by_cases hbig : 40 < m ∨ 200 < tn
  · by_cases hm40 : 40 < m
    · have h1 : decide ((40 : Int) < m) = true := decide_eq_true (by omega)
      go_wp2_with fail
      refine (dlives_any w).mono ?_
      rintro e w2 ⟨rfl, hL⟩
      go_wp2_with fail
      go_ret
      exact ⟨rfl, hL⟩
    · have h1 : decide ((40 : Int) < m) = false := decide_eq_false (by omega)
      have h2 : decide ((200 : Int) < tn) = true := decide_eq_true (by omega)
      go_wp2_with fail
      refine (dlives_any w).mono ?_
      rintro e w2 ⟨rfl, hL⟩
      go_wp2_with fail
      go_ret
      exact ⟨rfl, hL⟩
  · have h1 : decide ((40 : Int) < m) = false := decide_eq_false (by omega)
    have h2 : decide ((200 : Int) < tn) = false := decide_eq_false (by omega)
    clear hbig
    go_wp2_with fail
    refine (insert_any A n c xs vA m vc l tA tn tc os w (by omega) hc hc2 HB.out hm HV.out ht HP.out).mono ?_
    rintro e w2 ⟨A2, c2, rfl, -, -, hb2, hL⟩
    replace hL : Low w w2 := hL
    obtain ⟨il, hil⟩ : ∃ q, q = insL xs l (os.map Od.v) := ⟨_, rfl⟩
    obtain ⟨ie, hie⟩ : ∃ q, q = insE xs l (os.map Od.v) := ⟨_, rfl⟩
    rw [← hil] at hb2 ⊢
    rw [← hie]
    have HIL := Lib.hid hil
    have HIE := Lib.hid hie
    have HB2 := Lib.hid hb2
    clear hil hie hb2 h1 h2
    go_wp2_with fail
    refine (rinsert_any A n c xs vA m vc l tA tn tc os w2 hn hc hc2 (HB.out.below' hL hL.size) hm (HV.out.below' hL hL.size) ht (HP.out.below' hL hL.size)).mono ?_
    rintro e w3 ⟨A3, c3, rfl, -, -, hb3, hB3⟩
    rw [← HIL.out] at hb3 ⊢
    rw [← HIE.out]
    have hl3 : Low w2 w3 := hB3
    have hL3 := hL.trans hl3
    have cv2 := conv_bs (c := c2) (HB2.out.below' hl3 hl3.size)
    have cv3 := conv_bs (c := c3) hb3
    generalize il.length = ilen at *
    generalize strOfNums il = st at *
    clear hb3 hB3 hl3 HB2
    go_wp2_with fail
    refine (dlives_any w3).mono ?_
    rintro e w4 ⟨rfl, hl4⟩
    have hL4 := hL3.trans hl4
    clear cv2 cv3
    go_wp2_with fail
    go_ret
    exact ⟨rfl, hL4⟩
end Go.Proofs.Ytpaomhgdpncdoaa
