/- The walk of MaglevBuilds, given what the program's own functions tell. Condition: the size is an int. -/
import Derived.Test.YtogmfhofdjiihaaMgK
set_option maxRecDepth 100000
namespace Go.Proofs.Ytogmfhofdjiihaa
open Go.RowKit
set_option linter.unusedVariables false

theorem build_small {a b m : Int} {l : List Mbr} : (buildM a b m l).length ≤ 1000 := by
  unfold buildM
  split
  · rename_i h
    have := errM_zero h
    rw [tableM_len]
    omega
  · simp
set_option maxHeartbeats 3200000 in
theorem mgb_walk (HR : MgRights) (HC : MgCounts) (HBu : MgBuilds) (a b m : Int) (A : Option Addr) (n c : Nat) (l : List Mbr) (w : World) (hm : i64ok m) (hn : n ≤ 140737488355328) (hnc : n ≤ c) (hb : Es mbrE w w.heap.size A n l) :
    Calls Try.prog 3 #[keyV a b, .int .i64 m, .slice A n c] w fun e w' => e = .returned (.bool true) ∧ Low w w' := by
  have HB := Lib.hid hb
  have HML := Lib.hid fun u => mglives_any HR HC HBu u
  have HBB := Lib.hid HBu
  clear hb HR HC HBu
  unfold keyV
  by_cases hlt : n ≤ 40
  · have hlt2 : ¬ (40 : Int) < n := by omega
    go_enter Try.func3, Try.ntmps3
    go_wp2_with ((with_reducible refine wpList_box_v rfl _ (.tmp 0) rfl (keyC a b) rfl ?_); intro w1 HK hL hz1; refine Hid.out ?_)
    refine Lib.hid ?_
    replace HK := Lib.hid HK
    replace HB := Lib.hid (HB.out.below' hL hL.size)
    replace hL := Lib.hid hL
    go_wp2_with ((refine wpList_load_v rfl 24 (.tmp 3) rfl w.heap.size rfl _ (keyC a b) HK.out _ Try.underlying24 rfl key_size ?_); refine Hid.out ?_)
    refine Lib.hid ?_
    go_wp2_with fail
    refine (HBB.out a b m A n c l w1 hm hlt hnc HB.out).mono ?_
    rintro e w2 ⟨A1, c1, rfl, hN1, hl⟩
    have HK2 := HK.out.below hl HK.out.lt
    have c0 := key_a HK2
    have c1' := key_b HK2
    replace HB := Lib.hid (HB.out.below' hl hl.size)
    replace hL := Lib.hid (hL.out.trans hl)
    have HN1 := Lib.hid hN1
    clear HK2 HK hl hz1 hN1 HBB
    go_wp2_with fail
    refine (rbuild_any a b m A n c l w2 hm hlt HB.out).mono ?_
    intro e w3 hu
    obtain ⟨A2, c2, rfl, hN2, hl⟩ := hu.u
    replace hL := Lib.hid (hL.out.trans hl)
    replace HN1 := Lib.hid (HN1.out.below' hl hl.size)
    have HN2 := Lib.hid hN2
    clear hl c0 c1' HB hN2 hu
    have HSM := Lib.hid (build_small (a := a) (b := b) (m := m) (l := l))
    generalize buildM a b m l = t at *
    generalize errM m l = er at *
    have hee : (er == er) = true := by simp
    go_wp2_with fail
    refine (sameM_any A1 A2 t.length c1 c2 t w3 HSM.out HN1.out HN2.out).mono ?_
    rintro e w4 ⟨rfl, hl⟩
    replace hL := Lib.hid (hL.out.trans hl)
    clear hl
    go_wp2_with fail
    refine (HML.out w4).mono ?_
    rintro e w5 ⟨rfl, hl⟩
    replace hL := Lib.hid (hL.out.trans hl)
    clear hl
    go_wp2_with fail
    go_ret
    exact ⟨rfl, hL.out⟩
  · have hlt2 : (40 : Int) < n := by omega
    go_enter Try.func3, Try.ntmps3
    go_wp2_with ((with_reducible refine wpList_box_v rfl _ (.tmp 0) rfl (keyC a b) rfl ?_); intro w1 HK hL hz1; refine Hid.out ?_)
    refine Lib.hid ?_
    clear HK
    go_wp2_with fail
    refine (HML.out w1).mono ?_
    rintro e w5 ⟨rfl, hl⟩
    replace hL := Lib.hid (hL.trans hl)
    clear hl
    go_wp2_with fail
    go_ret
    exact ⟨rfl, hL.out⟩
end Go.Proofs.Ytogmfhofdjiihaa
