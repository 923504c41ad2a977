/- The walk of KeyedSums. Condition: the number is an int's. -/
import Derived.Test.YtcfppidobenbfaaKdJ
import Derived.Test.YtcfppidobenbfaaKdH
set_option maxRecDepth 100000
namespace Go.Proofs.Ytcfppidobenbfaa
open Go.RowKit
set_option linter.unusedVariables false

set_option maxHeartbeats 1600000 in
theorem kds_walk (a b : Int) (A : Option Addr) (n c : Nat) (xs : List Int) (q : Int) (w : World) (hn : n ≤ 140737488355328) (hnc : n ≤ c) (hb : Bs w w.heap.size A n xs) (hq : i64ok q) :
    Calls Try.prog 3 #[keyV a b, .slice A n c, .int .i64 q] w fun e w' => e = .returned (.bool true) ∧ Low w w' := by
  have HB := Lib.hid hb
  clear hb
  unfold keyV
  by_cases hlt : n ≤ 3000
  · have hlt2 : ¬ (3000 : Int) < n := by omega
    go_enter Try.func3, Try.ntmps3
    go_wp2_with ((with_reducible refine wpList_box_v rfl _ (.tmp 0) rfl (keyC a b) rfl ?_); intro w1 HK hL hz1; refine Hid.out ?_)
    refine Lib.hid ?_
    replace HK := Lib.hid HK
    replace HB := Lib.hid (HB.out.below' hL hL.size)
    replace hL := Lib.hid hL
    go_wp2_with ((refine wpList_load_v rfl 24 (.tmp 3) rfl w.heap.size rfl _ (keyC a b) HK.out _ Try.underlying24 rfl key_size ?_); refine Hid.out ?_)
    refine Lib.hid ?_
    go_wp2_with fail
    refine (ksum_any a b A n c xs w1 hlt hnc HB.out).mono ?_
    rintro e w2 ⟨rfl, hl⟩
    have HK2 := HK.out.below hl HK.out.lt
    have c0 := key_a HK2
    have c1 := key_b HK2
    replace HB := Lib.hid (HB.out.below' hl hl.size)
    replace hL := Lib.hid (hL.out.trans hl)
    clear HK2 HK hl hz1
    go_wp2_with fail
    refine (rsumK_any a b A n c xs w2 hlt HB.out).mono ?_
    rintro e w3 ⟨rfl, hl⟩
    replace hL := Lib.hid (hL.out.trans hl)
    clear hl c0 c1 HB
    generalize sumK a b xs = u at *
    go_wp2_with fail
    refine (kmod_any u q w3 hq).mono ?_
    rintro e w4 ⟨rfl, rfl⟩
    go_wp2_with fail
    refine (rkmod_any u q w3 hq).mono ?_
    rintro e w4 ⟨rfl, rfl⟩
    generalize modK u q = y at *
    go_wp2_with fail
    refine (kdlives_any w3).mono ?_
    rintro e w4 ⟨rfl, hl⟩
    replace hL := Lib.hid (hL.out.trans hl)
    go_wp2_with fail
    go_ret
    exact ⟨rfl, hL.out⟩
  · have hlt2 : (3000 : Int) < n := by omega
    go_enter Try.func3, Try.ntmps3
    go_wp2_with ((with_reducible refine wpList_box_v rfl _ (.tmp 0) rfl (keyC a b) rfl ?_); intro w1 HK hL hz1; refine Hid.out ?_)
    refine Lib.hid ?_
    clear HK
    go_wp2_with fail
    refine (kdlives_any w1).mono ?_
    rintro e w4 ⟨rfl, hl⟩
    replace hL := Lib.hid (hL.trans hl)
    go_wp2_with fail
    go_ret
    exact ⟨rfl, hL.out⟩
end Go.Proofs.Ytcfppidobenbfaa
