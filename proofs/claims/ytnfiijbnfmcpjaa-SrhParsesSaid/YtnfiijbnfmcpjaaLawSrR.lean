/- The walk of harrierlaw10.SrhParses: it answers true. Condition: at most 2^47 - 4096 bytes. -/
import Derived.Test.YtnfiijbnfmcpjaaSrJ
import Derived.Test.YtnfiijbnfmcpjaaSrK
import Derived.Test.YtnfiijbnfmcpjaaSrL
namespace Go.Proofs.Ytnfiijbnfmcpjaa
open Go.RowKit
set_option linter.unusedVariables false

set_option maxRecDepth 100000 in
set_option maxHeartbeats 1600000 in
theorem srr_walk (A : Option Addr) (n c : Nat) (xs : List Int) (w : World) (hn : n ≤ 140737488351232) (hc : n ≤ c) (hc2 : c ≤ 9223372036854775807) (hb : Bs w w.heap.size A n xs) :
    Calls Try.prog 4 #[.slice A n c] w fun e w' => e = .returned (.bool true) ∧ Below w.heap.size w w' := by
  have HB := Lib.hid hb
  clear hb
  go_enter Try.func4, Try.ntmps4
  go_wp2_with fail
  refine (srparse_any A n c xs w (by omega) hc hc2 HB.out).mono ?_
  rintro e w2 ⟨t2, rfl, hv2, hk2, hB2⟩
  have hL : Low w w2 := hB2
  replace HB := Lib.hid (HB.out.below' hB2 hB2.size)
  have HV2 := Lib.hid hv2
  have HK2 := Lib.hid hk2
  clear hB2 hv2 hk2
  unfold srV
  obtain ⟨ln, hln⟩ : ∃ ln, ln = lenR xs := ⟨_, rfl⟩
  obtain ⟨er, her⟩ : ∃ er, er = errR xs := ⟨_, rfl⟩
  rw [← hln, ← her]
  have HLN := Lib.hid hln
  have HER := Lib.hid her
  clear hln her
  go_wp2_with ((with_reducible refine wpList_alloc_sr rfl rfl ?_); intro w3 HZ3 hl3 hz3; refine Hid.out ?_)
  refine Lib.hid ?_
  replace HZ3 := Lib.hid HZ3
  go_wp2_with ((refine wpList_store_sr rfl (.tmp 3) (.tmp 12) rfl w2.heap.size rfl t2 rfl zeroSr HZ3.out ?_); intro w4 HG hb4 ho4 hz4; refine Hid.out ?_)
  refine Lib.hid ?_
  have hl4 : Low w2 w4 := Below.trans hl3 hb4
  replace HB := Lib.hid (HB.out.below' hl4 hl4.size)
  replace HK2 := Lib.hid (HK2.out.low hl4)
  replace HG := Lib.hid HG
  replace hL : Low w w4 := Low.trans hL hl4
  obtain ⟨g1, hg1⟩ : ∃ g, g = w2.heap.size := ⟨_, rfl⟩
  rw [← hg1] at HG ⊢
  clear HZ3 hl3 hb4 hz3 ho4 hz4 hl4 hg1
  go_wp2_with fail
  refine (rsrparse_any A n c xs w4 hn hc hc2 HB.out).mono ?_
  rintro e w5 ⟨t5, rfl, hv5, hk5, hB5⟩
  rw [← HLN.out, ← HER.out]
  replace HK2 := Lib.hid (HK2.out.low hB5)
  replace HG := Lib.hid (HG.out.below hB5 HG.out.lt)
  replace hL := hL.trans hB5
  have HK5 := Lib.hid hk5
  have HEQ := Lib.hid (HV2.out.trans hv5.symm)
  clear hB5 hv5 hk5 HV2 HLN HER HB
  unfold srV
  go_wp2_with ((with_reducible refine wpList_alloc_sr rfl rfl ?_); intro w6 HZ6 hl6 hz6; refine Hid.out ?_)
  refine Lib.hid ?_
  replace HZ6 := Lib.hid HZ6
  have hltG := HG.out.lt
  replace HG := Lib.hid (HG.out.below hl6 HG.out.lt)
  go_wp2_with ((refine wpList_store_sr rfl (.tmp 6) (.tmp 18) rfl w5.heap.size rfl t5 rfl zeroSr HZ6.out ?_); intro w7 HH hb7 ho7 hz7; refine Hid.out ?_)
  refine Lib.hid ?_
  have hl7 : Low w5 w7 := Below.trans hl6 hb7
  replace HG := Lib.hid (HG.out.below hb7 hltG)
  replace HK2 := Lib.hid (HK2.out.low hl7)
  replace HK5 := Lib.hid (HK5.out.low hl7)
  replace HH := Lib.hid HH
  replace hL : Low w w7 := Low.trans hL hl7
  obtain ⟨g2, hg2⟩ : ∃ g, g = w5.heap.size := ⟨_, rfl⟩
  rw [← hg2] at HH ⊢
  clear HZ6 hl6 hb7 hz6 ho7 hz7 hl7 hltG hg2
  go_wp2_with (first
    | (with_reducible refine wpList_load_sr rfl (.tmp 3) rfl g1 rfl t2 HG.out ?_)
    | (with_reducible refine wpList_load_sr rfl (.tmp 6) rfl g2 rfl t5 HH.out ?_))
  refine (srsame_eq t2 t5 w7 HK2.out HK5.out HEQ.out).mono ?_
  rintro e w8 ⟨rfl, hB8⟩
  replace hL := hL.trans hB8
  clear hB8 HG HH HK2 HK5 HEQ
  go_wp2_with fail
  refine (srlives_any _).mono ?_
  rintro e w9 ⟨rfl, hB9⟩
  replace hL := hL.trans hB9
  clear hB9
  go_wp2_with fail
  go_ret
  exact ⟨rfl, hL⟩
end Go.Proofs.Ytnfiijbnfmcpjaa
