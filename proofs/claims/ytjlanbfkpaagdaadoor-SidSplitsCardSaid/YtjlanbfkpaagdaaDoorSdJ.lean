/- What the laws' own small test of segments answers: true. Condition: the library's table of powers of ten holds what its text lays. -/
import Derived.Test.YtjlanbfkpaagdaaDoorSdI
namespace Go.Proofs.YtjlanbfkpaagdaaDoor
open Go.RowKit
set_option linter.unusedVariables false

def exSid : List Int := [253, 108, 0, 98, 0, 0, 0, 0, 0, 3, 5, 0, 0, 0, 0, 7]
theorem exSid_make : makeD 3 5 7 = exSid := by decide
theorem exSid_err : errD 3 5 = 0 := by decide
theorem exSid_is : isB exSid 3 5 = true := by decide
theorem exSid_zero : isD zero16 = false := by decide
theorem exSid_all : AllB exSid := fun x hx => by
  simp [exSid] at hx
  omega
theorem exSid_text : textD 3 5 (7 : Nat) = [51, 46, 115, 116, 101, 101, 114, 46, 55] := by
  have h3 : Lib.itoa 3 = [51] := by rw [show (3 : Int) = ((3 : Nat) : Int) from rfl, Lib.itoa_nonneg, Lib.decDigits_one (by omega)]; rfl
  have h7 : Lib.decDigits 7 = [55] := by rw [Lib.decDigits_one (by omega)]; rfl
  unfold textD
  rw [h3, show ((7 : Nat) : Int).toNat = 7 from rfl, h7]
  rfl

set_option maxRecDepth 100000 in
set_option maxHeartbeats 3200000 in
theorem sdlives_any (w : World) (hp : Pow10 w) : Calls Tryd.prog 12 #[] w fun e w' => e = .returned (.bool true) ∧ Below w.heap.size w w' := by
  have HP := Lib.hid hp
  have HM := Lib.hid (fun w => sidmake_any 3 5 7 w (by omega))
  have HT := Lib.hid (fun w hp => sidtext_any 3 5 7 w (by unfold i64ok; omega) (by unfold i64ok; omega) (by omega) hp)
  have HZ := Lib.hid (fun w => split_any zero16 w rfl zero_all)
  unfold sidV at HM HT
  unfold addrV at HZ
  rw [exSid_make, exSid_err] at HM
  rw [exSid_text] at HT
  rw [exSid_zero] at HZ
  clear hp
  go_enter Tryd.func12, Tryd.ntmps12
  go_wp2_with fail
  refine (HM.out w).mono ?_
  rintro e w1 ⟨rfl, hl0⟩
  have hL : Low w w1 := hl0
  clear hl0
  unfold addrV
  go_wp2_with ((with_reducible refine wpList_alloc_v rfl 26 rfl (cellsB zero16) addr_zeroD ?_); intro w2 HY hl hz5; refine Hid.out ?_)
  refine Lib.hid ?_
  replace HY : Hid (Blk w2 26 w1.heap.size zero16) := Lib.hid HY
  go_wp2_with ((refine wpList_store_addr rfl (.tmp 1) (.tmp 8) rfl w1.heap.size rfl exSid rfl _ zero16 HY.out rfl rfl ?_); intro w3 HR hb6 hz6; refine Hid.out ?_)
  refine Lib.hid ?_
  replace HR := Lib.hid HR
  replace hl : Low w1 w3 := Below.trans hl hb6
  replace hL := hL.trans hl
  obtain ⟨G, hG⟩ : ∃ g, g = w1.heap.size := ⟨_, rfl⟩
  rw [← hG] at HR ⊢
  clear HY hz5 hz6 hb6 hl hG
  go_wp2_with fail
  refine (HZ.out w3).mono ?_
  rintro e w4 ⟨rfl, hl⟩
  generalize splitD zero16 = z at *
  replace HR := Lib.hid (HR.out.below hl HR.out.lt)
  replace hL := hL.trans hl
  clear hl HZ HM
  go_wp2_with ((with_reducible refine wpList_alloc_sd rfl rfl ?_); intro w5 HY hl hz5; refine Hid.out ?_)
  refine Lib.hid ?_
  replace HY := Lib.hid HY
  have hlr := HR.out.lt
  replace HR := Lib.hid (HR.out.below hl HR.out.lt)
  go_wp2_with ((with_reducible refine wpList_store_sd rfl (.tmp 3) (.tmp 13) rfl w4.heap.size rfl z rfl _ HY.out ?_); intro w6 HK hb6 hz6; refine Hid.out ?_)
  refine Lib.hid ?_
  replace HR := Lib.hid (HR.out.below hb6 hlr)
  replace hl : Low w4 w6 := Below.trans hl hb6
  replace hL := hL.trans hl
  clear HY hz5 hz6 hb6 hl hlr HK
  have c0 : w6.cell? ⟨G, 0, none⟩ = some (.int .u8 253) := HR.out.cell 0
  go_wp2_with (with_reducible refine wpList_load_addr_g rfl (.tmp 1) rfl G rfl 26 exSid HR.out rfl ?_)
  refine (is_anyD exSid 3 5 w6 rfl exSid_all).mono ?_
  rintro e w7 ⟨rfl, hl⟩
  rw [exSid_is]
  replace hL := hL.trans hl
  clear hl c0 HR
  go_wp2_with fail
  refine (HT.out w7 (HP.out.low hL)).mono ?_
  rintro e w8 ⟨rfl, hl⟩
  replace hL := hL.trans hl
  clear hl HP HT
  unfold strD
  go_wp2_with fail
  go_ret
  exact ⟨rfl, hL⟩
end Go.Proofs.YtjlanbfkpaagdaaDoor
