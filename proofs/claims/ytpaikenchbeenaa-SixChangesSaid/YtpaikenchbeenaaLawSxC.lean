/- The law SixChanges answers true for every input. Condition: the slice is at most 2^47 - 4096 bytes long. -/
import Derived.Test.YtpaikenchbeenaaSxM
namespace Go.Proofs.Ytpaikenchbeenaa
open Go.RowKit
set_option linter.unusedVariables false

set_option maxHeartbeats 3200000 in
set_option maxRecDepth 100000 in
theorem sxc_walk (A : Option Addr) (n c : Nat) (xs d : List Int) (w : World) (hn : n ≤ 140737488351232) (hc : n ≤ c) (hc2 : c ≤ 9223372036854775807) (hb : Bs w w.heap.size A n xs) (hd : d.length = 16) (vd : AllB d) :
    Calls Try.prog 5 #[.slice A n c, addrV d] w fun e w' => e = .returned (.bool true) ∧ Below w.heap.size w w' := by
  unfold addrV
  have HDn := Lib.hid hd
  clear hd
  go_enter Try.func5, Try.ntmps5
  go_wp2_with ((with_reducible refine wpList_box_v rfl 23 (.tmp 1) rfl (cellsB d) rfl ?_); intro w0 HA0 hL hz0; refine Hid.out ?_)
  refine Lib.hid ?_
  have HA : Hid (Blk w0 23 w.heap.size d) := Lib.hid HA0
  clear HA0 hz0
  have HB := Lib.hid (hb.below' hL hL.size)
  clear hb
  have hv0 := conv_bs (c := c) HB.out
  go_wp2_with fail
  clear hv0
  refine (nearer_any A n c xs w0 (by omega) hc hc2 HB.out).mono ?_
  rintro e w1 ⟨A1, c1, rfl, -, -, hb1, hl⟩
  replace hL := hL.trans hl
  replace HB := Lib.hid (HB.out.below' hl hl.size)
  replace HA := Lib.hid (HA.out.below hl HA.out.lt)
  replace hb1 := Lib.hid hb1
  clear hl
  go_wp2_with fail
  refine (rnearer_any A n c xs w1 (by omega) hc hc2 HB.out).mono ?_
  rintro e w2 ⟨A2, c2, rfl, -, -, hb2, hl⟩
  replace hL := hL.trans hl
  replace HB := Lib.hid (HB.out.below' hl hl.size)
  replace HA := Lib.hid (HA.out.below hl HA.out.lt)
  replace hb1 := Lib.hid (hb1.out.below' hl hl.size)
  replace hb2 := Lib.hid hb2
  clear hl
  generalize outL xs (neH xs) (neE xs) = L1 at *
  generalize outE xs (neE xs) = E1 at *
  go_wp2_with (with_reducible refine wpList_load_addr rfl (.tmp 3) rfl w.heap.size rfl _ d HA.out HDn.out ?_)
  refine (to_any A n c xs w2 (by omega) hc hc2 HB.out d HDn.out vd).mono ?_
  rintro e w3 ⟨A3, c3, rfl, -, -, hb3, hl⟩
  replace hL := hL.trans hl
  replace HB := Lib.hid (HB.out.below' hl hl.size)
  replace HA := Lib.hid (HA.out.below hl HA.out.lt)
  replace hb1 := Lib.hid (hb1.out.below' hl hl.size)
  replace hb2 := Lib.hid (hb2.out.below' hl hl.size)
  replace hb3 := Lib.hid hb3
  clear hl
  go_wp2_with (with_reducible refine wpList_load_addr rfl (.tmp 3) rfl w.heap.size rfl _ d HA.out HDn.out ?_)
  refine (rto_any A n c xs w3 (by omega) hc hc2 HB.out d HDn.out vd).mono ?_
  rintro e w4 ⟨A4, c4, rfl, -, -, hb4, hl⟩
  replace hL := hL.trans hl
  replace HB := Lib.hid (HB.out.below' hl hl.size)
  replace hb1 := Lib.hid (hb1.out.below' hl hl.size)
  replace hb2 := Lib.hid (hb2.out.below' hl hl.size)
  replace hb3 := Lib.hid (hb3.out.below' hl hl.size)
  replace hb4 := Lib.hid hb4
  clear hl HA
  generalize outL xs (toH d (getL xs)) 0 = L2 at *
  generalize outE xs 0 = E2 at *
  go_wp2_with fail
  refine (sized_any A n c xs w4 (by omega) hc hc2 HB.out).mono ?_
  rintro e w5 ⟨A5, c5, rfl, -, -, hb5, hl⟩
  replace hL := hL.trans hl
  replace HB := Lib.hid (HB.out.below' hl hl.size)
  replace hb1 := Lib.hid (hb1.out.below' hl hl.size)
  replace hb2 := Lib.hid (hb2.out.below' hl hl.size)
  replace hb3 := Lib.hid (hb3.out.below' hl hl.size)
  replace hb4 := Lib.hid (hb4.out.below' hl hl.size)
  replace hb5 := Lib.hid hb5
  clear hl
  go_wp2_with fail
  refine (rsized_any A n c xs w5 (by omega) hc hc2 HB.out).mono ?_
  rintro e w6 ⟨A6, c6, rfl, -, -, hb6, hl⟩
  replace hL := hL.trans hl
  generalize outL xs (szH xs) (szE xs) = L3 at *
  generalize outE xs (szE xs) = E3 at *
  have v0 := conv_bs (c := c) (HB.out.below' hl hl.size)
  have v1 := conv_bs (c := c1) (hb1.out.below' hl hl.size)
  have v2 := conv_bs (c := c2) (hb2.out.below' hl hl.size)
  have v3 := conv_bs (c := c3) (hb3.out.below' hl hl.size)
  have v4 := conv_bs (c := c4) (hb4.out.below' hl hl.size)
  have v5 := conv_bs (c := c5) (hb5.out.below' hl hl.size)
  have v6 := conv_bs (c := c6) hb6
  clear hl hb6 hb1 hb2 hb3 hb4 hb5 HB
  generalize L1.length = m1 at *
  generalize L2.length = m2 at *
  generalize L3.length = m3 at *
  generalize strOfNums L1 = S1 at *
  generalize strOfNums L2 = S2 at *
  generalize strOfNums L3 = S3 at *
  generalize strOfNums xs = S0 at *
  go_wp2_with fail
  refine (sxlives_any w6).mono ?_
  rintro e w7 ⟨rfl, hl⟩
  go_wp2_with fail
  go_ret
  exact ⟨rfl, hL.trans hl⟩
end Go.Proofs.Ytpaikenchbeenaa
