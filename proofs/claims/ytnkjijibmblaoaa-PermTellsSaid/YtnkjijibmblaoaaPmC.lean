/- Stage 16: what the program's own four functions are to tell, as propositions; what the laws ask of every program. No condition. -/
import Derived.Test.YtnkjijibmblaoaaPmB
set_option maxRecDepth 100000
namespace Go.Proofs.Ytnkjijibmblaoaa
open Go.RowKit
set_option linter.unusedVariables false

def PmPrimes : Prop := ∀ (n : Int) (w : World), i64ok n → Calls Try.prog 11 #[.int .i64 n] w fun e w' => e = .returned (.bool (primeB n)) ∧ Low w w'
def PmOffsets : Prop := ∀ (a b node m : Int) (w : World), i64ok node → i64ok m → Calls Try.prog 8 #[keyV a b, .int .i64 node, .int .i64 m] w fun e w' => e = .returned (.int .i64 (offQ a b node m)) ∧ Low w w'
def PmSkips : Prop := ∀ (a b node m : Int) (w : World), i64ok node → i64ok m → Calls Try.prog 9 #[keyV a b, .int .i64 node, .int .i64 m] w fun e w' => e = .returned (.int .i64 (skipQ a b node m)) ∧ Low w w'
def PmOrders : Prop := ∀ (a b node m : Int) (w : World), i64ok node → i64ok m → Calls Try.prog 7 #[keyV a b, .int .i64 node, .int .i64 m] w (GivesI w (ordP a b node m))

theorem prime61 : primeB 61 = true := by decide +kernel
theorem prime1 : primeB 1 = false := by decide +kernel
theorem prime91 : primeB 91 = false := by decide +kernel
theorem skip2 (a b node : Int) : skipQ a b node 2 = 1 := by
  unfold skipQ skipP
  rw [show tableB 2 = true from by decide]
  show ((pairN a b node 2 % 1 + 1 : Nat) : Int) = 1
  rw [Nat.mod_one]
  rfl
theorem order5 (a b node : Int) : (ordP a b node 5).length = 5 := ordP_len (by decide)
set_option maxHeartbeats 1600000 in
theorem pmlives_any (HP : PmPrimes) (HS : PmSkips) (HO : PmOrders) (w : World) : Calls Try.prog 10 #[] w fun e w' => e = .returned (.bool true) ∧ Low w w' := by
  go_enter Try.func10, Try.ntmps10
  go_wp2_with fail
  refine (HP 61 w (by unfold i64ok; omega)).mono ?_
  rintro e w1 ⟨rfl, hl⟩
  have hL := Lib.hid hl
  clear hl
  rw [prime61]
  go_wp2_with fail
  refine (HP 1 w1 (by unfold i64ok; omega)).mono ?_
  rintro e w2 ⟨rfl, hl⟩
  replace hL := Lib.hid (hL.out.trans hl)
  clear hl
  rw [prime1]
  go_wp2_with fail
  refine (HP 91 w2 (by unfold i64ok; omega)).mono ?_
  rintro e w3 ⟨rfl, hl⟩
  replace hL := Lib.hid (hL.out.trans hl)
  clear hl
  rw [prime91]
  go_wp2_with fail
  refine (official_any w3).mono ?_
  rintro e w4 ⟨rfl, hl⟩
  replace hL := Lib.hid (hL.out.trans hl)
  clear hl
  go_wp2_with fail
  refine (HO _ _ 1 5 w4 (by unfold i64ok; omega) (by unfold i64ok; omega)).mono ?_
  rintro e w5 ⟨A, c, rfl, _, _, _, hl⟩
  replace hL := Lib.hid (hL.out.trans hl)
  clear hl
  rw [order5]
  go_wp2_with fail
  refine (HS 0 0 1 2 w5 (by unfold i64ok; omega) (by unfold i64ok; omega)).mono ?_
  rintro e w6 ⟨rfl, hl⟩
  replace hL := Lib.hid (hL.out.trans hl)
  clear hl
  rw [skip2]
  go_wp2_with fail
  go_ret
  exact ⟨rfl, hL.out⟩
set_option maxHeartbeats 1600000 in
theorem pmp_walk (HP : PmPrimes) (HS : PmSkips) (HO : PmOrders) (n : Int) (w : World) (hn : i64ok n) : Calls Try.prog 4 #[.int .i64 n] w fun e w' => e = .returned (.bool true) ∧ Low w w' := by
  go_enter Try.func4, Try.ntmps4
  go_wp2_with fail
  refine (HP n w hn).mono ?_
  rintro e w1 ⟨rfl, hl⟩
  have hL := Lib.hid hl
  clear hl
  go_wp2_with fail
  refine (rprime_any n w1 hn).mono ?_
  rintro e w2 ⟨rfl, rfl⟩
  generalize primeB n = q at *
  have hq : (q == q) = true := by simp
  go_wp2_with fail
  refine (pmlives_any HP HS HO w1).mono ?_
  rintro e w3 ⟨rfl, hl⟩
  replace hL := Lib.hid (hL.out.trans hl)
  clear hl
  go_wp2_with fail
  go_ret
  exact ⟨rfl, hL.out⟩
end Go.Proofs.Ytnkjijibmblaoaa
