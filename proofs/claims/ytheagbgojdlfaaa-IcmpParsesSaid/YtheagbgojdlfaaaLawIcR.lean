/- The walk of harrierlaw08.IcmpParses: it answers true. Condition: at most 2^47 - 4096 bytes. -/
import Derived.Test.YtheagbgojdlfaaaIcI
namespace Go.Proofs.Ytheagbgojdlfaaa
open Go.RowKit
set_option linter.unusedVariables false

set_option maxRecDepth 100000 in
set_option maxHeartbeats 3200000 in
theorem ic_parses_walk (s d : List Int) (A : Option Addr) (n c : Nat) (xs : List Int) (w : World) (hs : s.length = 16) (hd : d.length = 16) (vs : AllB s) (vd : AllB d) (hn : n ≤ 140737488351232) (hc : n ≤ c) (hc2 : c ≤ 9223372036854775807) (hb : Bs w w.heap.size A n xs) :
    Calls Try.prog 4 #[.agg (cellsB (s ++ d)).toArray, .slice A n c] w fun e w' => e = .returned (.bool true) ∧ Below w.heap.size w w' := by
  have HS := Lib.hid hs
  have HD := Lib.hid hd
  have VS := Lib.hid vs
  have VD := Lib.hid vd
  have HB := Lib.hid hb
  have HE := Lib.hid (Blk.new w 25 (s ++ d))
  have hL := Low.alloc w (.cells (cellsB (s ++ d)).toArray 25)
  clear hs hd vs vd hb
  rcases Nat.lt_or_ge 3000 n with hlen | hlen
  · have dq : (3000 : Int) < n := by omega
    go_enter Try.func4, Try.ntmps4
    go_wp2_with fail
    refine (iclives_any _).mono ?_
    rintro e w3 ⟨rfl, hB3⟩
    replace hL := hL.trans hB3
    clear hB3
    go_wp2_with fail
    go_ret
    exact ⟨rfl, hL⟩
  · have dq : ¬ (3000 : Int) < n := by omega
    clear hlen
    go_enter Try.func4, Try.ntmps4
    go_wp2_with (first
      | (with_reducible refine wpList_load_half1 rfl (.tmp 14) rfl w.heap.size rfl _ s d HE.out HS.out ?_)
      | (with_reducible refine wpList_load_half2 rfl (.tmp 16) rfl w.heap.size rfl _ s d HE.out HS.out HD.out ?_))
    generalize w.alloc (.cells (cellsB (s ++ d)).toArray 25) = w0 at *
    refine (icparse_any s d A n c xs w0 HS.out HD.out VS.out VD.out hn hc hc2 (HB.out.below' hL hL.size)).mono ?_
    rintro e w1 ⟨m1, rfl, hv1, hok1, hB1, -⟩
    replace HE := Lib.hid (HE.out.below hB1 HE.out.lt)
    replace hL := hL.trans hB1
    have HV1 := Lib.hid hv1
    have HOK1 := Lib.hid hok1
    clear hB1 hv1 hok1
    obtain ⟨er, her⟩ : ∃ er, er = parseE s d xs := ⟨_, rfl⟩
    have HER := Lib.hid her
    rw [← her]
    clear her
    unfold msgV
    go_wp2_with ((with_reducible refine wpList_alloc_msg rfl rfl ?_); intro w2 HZ hl2 hz2; refine Hid.out ?_)
    refine Lib.hid ?_
    replace HZ := Lib.hid HZ
    have hltE := HE.out.lt
    replace HE := Lib.hid (HE.out.below hl2 HE.out.lt)
    go_wp2_with ((refine wpList_store_msg rfl (.tmp 5) (.tmp 20) rfl w1.heap.size rfl m1 rfl zeroM HZ.out ?_); intro w3 HG hb3 ho3 hz3; refine Hid.out ?_)
    refine Lib.hid ?_
    have hlx : Below w1.heap.size w1 w3 := Below.trans hl2 hb3
    replace HE := Lib.hid (HE.out.below hb3 hltE)
    replace HG := Lib.hid HG
    replace HOK1 := Lib.hid (HOK1.out.below' hlx (by omega : w1.heap.size ≤ w3.heap.size))
    replace hL : Low w w3 := Below.trans hL (hlx.mono hL.size)
    clear HZ hl2 hb3 ho3 hz2 hz3 hlx hltE
    go_wp2_with (first
      | (with_reducible refine wpList_load_half1 rfl (.tmp 23) rfl w.heap.size rfl _ s d HE.out HS.out ?_)
      | (with_reducible refine wpList_load_half2 rfl (.tmp 25) rfl w.heap.size rfl _ s d HE.out HS.out HD.out ?_))
    refine (ricparse_any s d A n c xs w3 HS.out HD.out VS.out VD.out hn hc (HB.out.below' hL hL.size)).mono ?_
    rintro e w4 ⟨m4, rfl, hv4, hok4, hB4, -⟩
    rw [← HER.out]
    have HVV := Lib.hid (HV1.out.trans hv4.symm)
    replace HG := Lib.hid (HG.out.below hB4 HG.out.lt)
    replace HOK1 := Lib.hid (HOK1.out.low hB4)
    have HOK4 := Lib.hid hok4
    replace hL := hL.trans hB4
    clear hB4 hok4 hv4 HE HV1 HER
    unfold msgV
    go_wp2_with ((with_reducible refine wpList_alloc_msg rfl rfl ?_); intro w5 HZ hl5 hz5; refine Hid.out ?_)
    refine Lib.hid ?_
    replace HZ := Lib.hid HZ
    have hltG := HG.out.lt
    replace HG := Lib.hid (HG.out.below hl5 HG.out.lt)
    go_wp2_with ((refine wpList_store_msg rfl (.tmp 7) (.tmp 29) rfl w4.heap.size rfl m4 rfl zeroM HZ.out ?_); intro w6 HG6 hb6 ho6 hz6; refine Hid.out ?_)
    refine Lib.hid ?_
    have hlx : Below w4.heap.size w4 w6 := Below.trans hl5 hb6
    replace HG := Lib.hid (HG.out.below hb6 hltG)
    replace HG6 := Lib.hid HG6
    replace HOK1 := Lib.hid (HOK1.out.below' hlx (by omega : w4.heap.size ≤ w6.heap.size))
    replace HOK4 := Lib.hid (HOK4.out.below' hlx (by omega : w4.heap.size ≤ w6.heap.size))
    replace hL : Low w w6 := Below.trans hL (hlx.mono hL.size)
    clear HZ hl5 hb6 ho6 hz5 hz6 hlx hltG
    go_wp2_with (first
      | (with_reducible refine wpList_load_msg rfl (.tmp 5) rfl w1.heap.size rfl m1 HG.out ?_)
      | (with_reducible refine wpList_load_msg rfl (.tmp 7) rfl w4.heap.size rfl m4 HG6.out ?_))
    refine (icsame_eq m1 m4 w6 HOK1.out HOK4.out HVV.out).mono ?_
    rintro e w7 ⟨rfl, hB7⟩
    replace hL := hL.trans hB7
    clear hB7 HG HG6
    go_wp2_with fail
    refine (iclives_any _).mono ?_
    rintro e w8 ⟨rfl, hB8⟩
    replace hL := hL.trans hB8
    clear hB8
    go_wp2_with fail
    go_ret
    exact ⟨rfl, hL⟩
end Go.Proofs.Ytheagbgojdlfaaa
