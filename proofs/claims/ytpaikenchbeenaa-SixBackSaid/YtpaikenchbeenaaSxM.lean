/- What the document's own Nearer, To and Sized tell of any bytes, whole: as six does. Condition: at most 2^47 bytes. -/
import Derived.Test.YtpaikenchbeenaaSxL
namespace Go.Proofs.Ytpaikenchbeenaa
open Go.RowKit
set_option linter.unusedVariables false

theorem out_err {xs : List Int} {h2 : Hd} {e2 : Int} (he : ¬ getE xs = 0) : outE xs e2 = getE xs ∧ outL xs h2 e2 = [] := by
  have e1 : outE xs e2 = getE xs := by unfold outE; rw [if_neg he]
  exact ⟨e1, by unfold outL; rw [if_neg (by rw [e1]; exact he)]⟩
theorem out_how {xs : List Int} {h2 : Hd} {e2 : Int} (he : getE xs = 0) (h0 : ¬ e2 = 0) : outE xs e2 = e2 ∧ outL xs h2 e2 = [] := by
  have e1 : outE xs e2 = e2 := by unfold outE; rw [if_pos he]
  exact ⟨e1, by unfold outL; rw [if_neg (by rw [e1]; exact h0)]⟩
theorem out_ok {xs : List Int} {h2 : Hd} {n : Nat} (he : getE xs = 0) (hl : xs.length = n) : outE xs 0 = 0 ∧ outL xs h2 0 = putL h2 ++ xs.drop 40 ∧ (putL h2 ++ xs.drop 40).length = (putL h2).length + (n - 40) := by
  have e1 : outE xs 0 = 0 := by unfold outE; rw [if_pos he]
  exact ⟨e1, by unfold outL; rw [if_pos e1], by rw [List.length_append, List.length_drop, hl]⟩

section
variable (A : Option Addr) (n c : Nat) (xs : List Int) (w : World) (hn : n ≤ 140737488355328) (hc : n ≤ c) (hc2 : c ≤ 9223372036854775807) (hb : Bs w w.heap.size A n xs)
include hn hc hc2 hb
theorem rnearer_any : Calls Try.prog 15 #[.slice A n c] w fun e w' => GivesR w (outL xs (neH xs) (neE xs)).length (outL xs (neH xs) (neE xs)) (outE xs (neE xs)) e w' := by
  have hl := hb.len
  by_cases he : getE xs = 0
  · obtain ⟨g1, g2, g3⟩ := getE_zero he
    by_cases hp : (getL xs).hp ≤ 1
    · rw [show neE xs = 13 by unfold neE; rw [if_pos hp], (out_how (h2 := neH xs) he (by decide)).1, (out_how he (by decide)).2]
      exact rnearer_hop A n c xs w hn hb (getL xs) g3 he (by omega)
    · rw [show neE xs = 0 by unfold neE; rw [if_neg hp], show neH xs = nearH (getL xs) by unfold neH; rw [if_neg hp], (out_ok (h2 := nearH (getL xs)) he hl).1, (out_ok he hl).2.1, (out_ok he hl).2.2]
      exact rnearer_ok A n c xs w hn hb (getL xs) g3 hc hc2 he (by omega) (by omega)
  · rw [(out_err (h2 := neH xs) he).1, (out_err he).2]
    exact rnearer_err A n c xs w hn hb (getH xs) rfl (getE xs) rfl he
theorem rto_any (d : List Int) (hd : d.length = 16) (vd : AllB d) : Calls Try.prog 17 #[.slice A n c, addrV d] w fun e w' => GivesR w (outL xs (toH d (getL xs)) 0).length (outL xs (toH d (getL xs)) 0) (outE xs 0) e w' := by
  have hl := hb.len
  by_cases he : getE xs = 0
  · obtain ⟨g1, g2, g3⟩ := getE_zero he
    rw [(out_ok (h2 := toH d (getL xs)) he hl).1, (out_ok he hl).2.1, (out_ok he hl).2.2]
    exact rto_ok A n c xs w hn hb (getL xs) g3 d hc hc2 he (by omega) hd vd
  · rw [(out_err (h2 := toH d (getL xs)) he).1, (out_err he).2]
    exact rto_err A n c xs w hn hb (getH xs) rfl d (getE xs) rfl he
theorem rsized_any : Calls Try.prog 19 #[.slice A n c] w fun e w' => GivesR w (outL xs (szH xs) (szE xs)).length (outL xs (szH xs) (szE xs)) (outE xs (szE xs)) e w' := by
  have hl := hb.len
  by_cases he : getE xs = 0
  · obtain ⟨g1, g2, g3⟩ := getE_zero he
    by_cases hp : 65535 < (xs.length : Int) - 40
    · rw [show szE xs = 4 by unfold szE; rw [if_pos hp], (out_how (h2 := szH xs) he (by decide)).1, (out_how he (by decide)).2]
      exact rsized_long A n c xs w hn hb (getL xs) g3 he (by omega)
    · rw [show szE xs = 0 by unfold szE; rw [if_neg hp], show szH xs = sizedH ((n : Int) - 40) (getL xs) by unfold szH; rw [if_neg hp, hl], (out_ok (h2 := sizedH ((n : Int) - 40) (getL xs)) he hl).1, (out_ok he hl).2.1, (out_ok he hl).2.2]
      exact rsized_ok A n c xs w hn hb (getL xs) g3 hc hc2 he (by omega) (by omega)
  · rw [(out_err (h2 := szH xs) he).1, (out_err he).2]
    exact rsized_err A n c xs w hn hb (getH xs) rfl (getE xs) rfl he
end

theorem Bs.take {w : World} {B n : Nat} {A : Option Addr} {xs : List Int} (h : Bs w B A n xs) (k : Nat) (hk : k ≤ n) : Bs w B A k (xs.take k) :=
  ⟨by rw [List.length_take, h.len]; omega, h.all.take k, fun hp => by
    obtain ⟨b, o, e, hb, hc⟩ := h.mem (by omega)
    refine ⟨b, o, e, hb, fun i hi => ?_⟩
    rw [hc i (by omega)]
    simp [List.getD, hi]⟩
/-- the examples' headers -/
def exH : Hd := ⟨1, 2, 0, 0, 1, zero16, zero16⟩
def exH2 : Hd := ⟨0, 0, 0, 0, 256, zero16, zero16⟩
theorem exH_ok : exH.ok := ⟨by unfold i64ok; decide, by unfold i64ok; decide, by unfold i64ok; decide, by unfold i64ok; decide, by unfold i64ok; decide, rfl, rfl, zero_all, zero_all⟩
theorem exH2_ok : exH2.ok := ⟨by unfold i64ok; decide, by unfold i64ok; decide, by unfold i64ok; decide, by unfold i64ok; decide, by unfold i64ok; decide, rfl, rfl, zero_all, zero_all⟩
theorem ex_put : putL exH = headL exH := by decide +kernel
theorem ex_near : outE (headL exH) (neE (headL exH)) = 13 := by decide +kernel
theorem ex_can : canE exH2 = 2 := by decide +kernel
theorem ex_getE : getE ((headL exH).take 39) = 3 := by decide +kernel
theorem ex_getH : getH ((headL exH).take 39) = zeroH := by unfold getH; rw [ex_getE]; rfl

set_option maxHeartbeats 3200000 in
set_option maxRecDepth 100000 in
theorem sxlives_any (w : World) :
    Calls Try.prog 7 #[] w fun e w' => e = .returned (.bool true) ∧ Below w.heap.size w w' := by
  have HP := Lib.hid (put_any none 0 0 [] exH w exH_ok (by omega) (Bs.nil _ _ _))
  rw [ex_put] at HP
  go_enter Try.func7, Try.ntmps7
  go_wp2_with fail
  refine HP.out.mono ?_
  rintro e w1 ⟨v, rfl, g1, rfl, hg1, hk1, hl1, ha1, hL⟩
  replace hL : Low w w1 := hL
  rw [List.nil_append] at hk1 ha1
  have hb1 := hk1.bs ha1 hk1.lt (n := 40) rfl
  rw [show 0 + (headL exH).length = 40 from rfl]
  have HX1 := Lib.hid ex_near
  have HX2 := Lib.hid ex_getE
  have HX3 := Lib.hid ex_getH
  clear HP hl1 hk1 ha1 hg1
  generalize headL exH = xs at *
  go_wp2_with fail
  refine (nearer_any _ 40 40 xs w1 (by omega) (by omega) (by omega) hb1).mono ?_
  rintro e w2 ⟨A2, c2, rfl, hn2, hc2, hb2, hl⟩
  rw [HX1.out]
  have hb3 := (hb1.below' hl hl.size).take 39 (by omega)
  replace hL := hL.trans hl
  clear hn2 hc2 hb2 hl hb1
  generalize (outL xs (neH xs) (neE xs)).length = m2 at *
  go_wp2_with fail
  refine (get_any _ 39 40 (xs.take 39) w2 (by omega) (by omega) (by omega) hb3).mono ?_
  rintro e w3 ⟨rfl, hl⟩
  rw [HX2.out, HX3.out]
  replace hL := hL.trans hl
  clear hl hb3
  unfold headV
  go_wp2_with ((with_reducible refine wpList_alloc_v rfl 25 rfl (headC zeroH) (by kernel_rfl) ?_); intro w4 HZ hl4 hz4; refine Hid.out ?_)
  refine Lib.hid ?_
  replace HZ := Lib.hid HZ
  go_wp2_with ((with_reducible refine wpList_store_head rfl (.tmp 4) (.tmp 20) rfl w3.heap.size rfl zeroH rfl zeroH HZ.out rfl rfl rfl rfl ?_); intro w8 HG8 hb8 hz8; refine Hid.out ?_)
  refine Lib.hid ?_
  replace hL : Low w w8 := hL.trans (Below.trans hl4 hb8)
  clear hb8 hz8 HG8 HZ hz4 hl4
  go_wp2_with fail
  refine (can_any exH2 w8 exH2_ok).mono ?_
  rintro e w9 ⟨rfl, hl⟩
  rw [ex_can]
  go_wp2_with fail
  go_ret
  exact ⟨rfl, hL.trans hl⟩
end Go.Proofs.Ytpaikenchbeenaa
