/- What six.Nearer, To and Sized tell of any bytes, whole. Condition: at most 2^47 bytes. -/
import Derived.Test.YtpaikenchbeenaaSxI
namespace Go.Proofs.Ytpaikenchbeenaa
open Go.RowKit
set_option linter.unusedVariables false

def outE (xs : List Int) (e2 : Int) : Int := if getE xs = 0 then e2 else getE xs
def outL (xs : List Int) (h2 : Hd) (e2 : Int) : List Int := if outE xs e2 = 0 then putL h2 ++ xs.drop 40 else []
def neE (xs : List Int) : Int := if (getL xs).hp ≤ 1 then 13 else 0
def neH (xs : List Int) : Hd := if (getL xs).hp ≤ 1 then getL xs else nearH (getL xs)
def szE (xs : List Int) : Int := if 65535 < (xs.length : Int) - 40 then 4 else 0
def szH (xs : List Int) : Hd := if 65535 < (xs.length : Int) - 40 then getL xs else sizedH ((xs.length : Int) - 40) (getL xs)
theorem getE_zero {xs : List Int} (h : getE xs = 0) : 40 ≤ xs.length ∧ xs.getD 0 0 / 16 = 6 ∧ getH xs = getL xs := by
  rcases getE_cases xs with ⟨h1, e1, e2⟩ | ⟨h1, h2, e1, e2⟩ | ⟨h1, h2, e1, e2⟩
  · omega
  · exact ⟨h1, h2, e2⟩
  · omega

section
variable (k : Nat) (cap : Array Value) (A : Option Addr) (n c : Nat) (xs : List Int) (w : World) (hn : n ≤ 140737488355328) (hc : n ≤ c) (hc2 : c ≤ 9223372036854775807) (hb : Bs w w.heap.size A n xs)
include hn hc hc2 hb
theorem changed_all (h2 : Hd) (e2 : Int) (h2ok : getE xs = 0 → h2.ok) (hcf : ∀ (ys : Array Value) (u : World), (callFunc k ys).run Try.prog u = .ok (.enter k ys) u)
    (hH : getE xs = 0 → ∀ w1, Low w w1 → Calls Try.prog k (#[headV (getL xs)] ++ cap) w1 fun e w' => GivesH w1 h2 e2 e w') :
    Calls Try.prog 27 #[.slice A n c, .func (.func k) #[] cap] w fun e w' => GivesR w (outL xs h2 e2).length (outL xs h2 e2) (outE xs e2) e w' := by
  by_cases he : getE xs = 0
  · obtain ⟨g1, g2, g3⟩ := getE_zero he
    have hl := hb.len
    by_cases h0 : e2 = 0
    · subst h0
      have e1 : outE xs 0 = 0 := by unfold outE; rw [if_pos he]
      have e3 : outL xs h2 0 = putL h2 ++ xs.drop 40 := by unfold outL; rw [if_pos e1]
      have e4 : (putL h2 ++ xs.drop 40).length = (putL h2).length + (n - 40) := by rw [List.length_append, List.length_drop, hl]
      rw [e1, e3, e4]
      exact changed_ok k cap A n c xs w hn hc hc2 hb (getL xs) h2 he g3 (h2ok he) (by omega) hcf (hH he)
    · have e1 : outE xs e2 = e2 := by unfold outE; rw [if_pos he]
      have e3 : outL xs h2 e2 = [] := by unfold outL; rw [if_neg (by rw [e1]; exact h0)]
      rw [e1, e3]
      exact changed_how k cap A n c xs w hn hc hc2 hb (getL xs) h2 e2 he g3 (h2ok he) h0 hcf (hH he)
  · have e1 : outE xs e2 = getE xs := by unfold outE; rw [if_neg he]
    have e3 : outL xs h2 e2 = [] := by unfold outL; rw [if_neg (by rw [e1]; exact he)]
    rw [e1, e3]
    exact changed_err k cap A n c xs w hn hc hc2 hb (getE xs) (getH xs) rfl rfl he

set_option maxHeartbeats 800000 in
theorem nearer_any : Calls Try.prog 14 #[.slice A n c] w fun e w' => GivesR w (outL xs (neH xs) (neE xs)).length (outL xs (neH xs) (neE xs)) (outE xs (neE xs)) e w' := by
  have hall := hb.all
  have hlen := hb.len
  have HC := Lib.hid (changed_all 28 #[] A n c xs w hn hc hc2 hb (neH xs) (neE xs)
    (fun he => by
      obtain ⟨g1, g2, g3⟩ := getE_zero he
      unfold neH; split
      · exact getL_ok hall g1
      · exact nearH_ok (getL_ok hall g1) (by omega))
    (fun ys u => by go_simp)
    (fun he w1 hl => by
      obtain ⟨g1, g2, g3⟩ := getE_zero he
      show Calls Try.prog 28 #[headV (getL xs)] w1 _
      by_cases hp : (getL xs).hp ≤ 1
      · rw [show neH xs = getL xs by unfold neH; rw [if_pos hp], show neE xs = 13 by unfold neE; rw [if_pos hp]]
        exact near1_no (getL xs) w1 (getL_ok hall g1) hp
      · rw [show neH xs = nearH (getL xs) by unfold neH; rw [if_neg hp], show neE xs = 0 by unfold neE; rw [if_neg hp]]
        exact near1_yes (getL xs) w1 (getL_ok hall g1) (by omega)))
  clear hb
  go_enter Try.func14, Try.ntmps14
  go_wp2_with fail
  refine HC.out.mono ?_
  rintro e w1 ⟨A1, c1, rfl, hn1, hc1, hb1, hL⟩
  go_wp2
  go_ret2
  exact ⟨A1, c1, rfl, hn1, hc1, hb1, hL⟩

set_option maxHeartbeats 800000 in
theorem to_any (d : List Int) (hd : d.length = 16) (vd : AllB d) : Calls Try.prog 16 #[.slice A n c, addrV d] w fun e w' => GivesR w (outL xs (toH d (getL xs)) 0).length (outL xs (toH d (getL xs)) 0) (outE xs 0) e w' := by
  have hmf : ∀ (fn : Fn) (first cap : Array Value) (u : World), (Instr.makeFunc fn first cap).run Try.prog u = .ok (.func fn first cap) u := fun _ _ _ _ => rfl
  have HDn := Lib.hid hd
  have HB := Lib.hid hb
  unfold addrV
  clear hb hd
  go_enter Try.func16, Try.ntmps16
  go_wp2_with ((with_reducible refine wpList_box_v rfl 23 (.tmp 1) rfl (cellsB d) rfl ?_); intro w1 HA hL hz1; refine Hid.out ?_)
  refine Lib.hid ?_
  replace HA : Hid (Blk w1 23 w.heap.size d) := Lib.hid HA
  have HC := Lib.hid (changed_all 30 #[.pointer (some ⟨w.heap.size, 0, none⟩)] A n c xs w1 hn hc hc2 (HB.out.below' hL hL.size) (toH d (getL xs)) 0
    (fun he => toH_ok (getL_ok HB.out.all (getE_zero he).1) HDn.out vd)
    (fun ys u => by go_simp)
    (fun he w2 hl => to1_any (getL xs) w.heap.size d _ w2 (getL_ok HB.out.all (getE_zero he).1) HDn.out (HA.out.below hl HA.out.lt)))
  clear HA HB hz1
  go_wp2_with fail
  refine HC.out.mono ?_
  rintro e w3 ⟨A1, c1, rfl, hn1, hc1, hb1, hl⟩
  go_wp2
  go_ret2
  exact ⟨A1, c1, rfl, hn1, hc1, hb1, hL.trans hl⟩

set_option maxHeartbeats 800000 in
theorem sized_any : Calls Try.prog 18 #[.slice A n c] w fun e w' => GivesR w (outL xs (szH xs) (szE xs)).length (outL xs (szH xs) (szE xs)) (outE xs (szE xs)) e w' := by
  have hmf : ∀ (fn : Fn) (first cap : Array Value) (u : World), (Instr.makeFunc fn first cap).run Try.prog u = .ok (.func fn first cap) u := fun _ _ _ _ => rfl
  have HB := Lib.hid hb
  have HLen := Lib.hid hb.len
  clear hb
  have hl0 := Low.alloc w (.cells #[.slice A n c] 26)
  have HA : Hid (BlkV (w.alloc (.cells #[.slice A n c] 26)) 26 w.heap.size [.slice A n c]) := Lib.hid (BlkV.new w 26 [.slice A n c])
  have c0 := HA.out.cell 0
  replace c0 : _ = some (Value.slice A n c) := c0
  have HC := Lib.hid (changed_all 31 #[.pointer (some ⟨w.heap.size, 0, none⟩)] A n c xs (w.alloc (.cells #[.slice A n c] 26)) hn hc hc2 (HB.out.below' hl0 hl0.size) (szH xs) (szE xs)
    (fun he => by
      have hk := getL_ok HB.out.all (getE_zero he).1
      unfold szH; split
      · exact hk
      · exact sizedH_ok hk (by unfold i64ok; omega))
    (fun ys u => by go_simp)
    (fun he w2 hl => by
      have hk := getL_ok HB.out.all (getE_zero he).1
      by_cases hp : 65535 < (xs.length : Int) - 40
      · rw [show szH xs = getL xs by unfold szH; rw [if_pos hp], show szE xs = 4 by unfold szE; rw [if_pos hp]]
        exact sized1_no (getL xs) w.heap.size A n c _ w2 hk hn (HA.out.below hl HA.out.lt) (by rw [← HLen.out]; exact hp)
      · rw [show szH xs = sizedH ((xs.length : Int) - 40) (getL xs) by unfold szH; rw [if_neg hp], show szE xs = 0 by unfold szE; rw [if_neg hp], HLen.out]
        exact sized1_yes (getL xs) w.heap.size A n c _ w2 hk hn (HA.out.below hl HA.out.lt) (by rw [← HLen.out]; omega)))
  clear HB HA
  go_enter Try.func18, Try.ntmps18
  go_wp2_with fail
  refine HC.out.mono ?_
  rintro e w3 ⟨A1, c1, rfl, hn1, hc1, hb1, hl⟩
  go_wp2
  go_ret2
  exact ⟨A1, c1, rfl, hn1, hc1, hb1, Low.trans hl0 hl⟩
end
end Go.Proofs.Ytpaikenchbeenaa
