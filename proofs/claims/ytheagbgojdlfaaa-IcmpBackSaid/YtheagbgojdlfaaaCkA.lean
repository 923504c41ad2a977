/- What cksum.low16, Join, Not and Update, and the document's own answers for them, tell, for any ints. No condition. -/
import Derived.Test.YtheagbgojdlfaaaOctA
import Derived.Test.YtheagbgojdlfaaaVals
namespace Go.Proofs.Ytheagbgojdlfaaa
open Go.RowKit

/-- two joined, what is missing of one, what a check becomes -/
def jn (a b : Int) : Int := if 65535 < a % 65536 + b % 65536 then a % 65536 + b % 65536 - 65535 else a % 65536 + b % 65536
def nt (s : Int) : Int := 65535 - s % 65536
def upd (check was is : Int) : Int := nt (jn (jn (nt check) (nt was)) is)

theorem and65535 (n : Int) : bits .and .i64 n 65535 = n % 65536 := by
  have h : (BitVec.ofInt 64 n &&& BitVec.ofInt 64 65535).toNat = (n % 65536).toNat := by
    rw [BitVec.toNat_and, BitVec.toNat_ofInt, show (BitVec.ofInt 64 65535).toNat = 2 ^ 16 - 1 by decide, Nat.and_two_pow_sub_one_eq_mod]
    omega
  show IntKind.i64.wrap ((BitVec.ofInt 64 n &&& BitVec.ofInt 64 65535).toNat : Int) = _
  rw [h, IntKind.wrap_i64]
  omega

theorem jn_range (a b : Int) : 0 ≤ jn a b ∧ jn a b ≤ 65535 := by unfold jn; split <;> omega
theorem nt_range (s : Int) : 0 ≤ nt s ∧ nt s ≤ 65535 := by unfold nt; omega

set_option maxHeartbeats 400000 in
theorem low16_any (n : Int) (w : World) : Calls Try.prog 44 #[.int .i64 n] w fun e w' => e = .returned (.int .i64 (n % 65536)) ∧ w = w' := by
  have h := and65535 n
  go_enter Try.func44, Try.ntmps44
  go_wp2
  go_ret
  exact ⟨rfl, rfl⟩

set_option maxHeartbeats 400000 in
theorem rmod_any (n : Int) (w : World) : Calls Try.prog 48 #[.int .i64 n] w fun e w' => e = .returned (.int .i64 (n % 65536)) ∧ w = w' := by
  have h := and65535 n
  go_enter Try.func48, Try.ntmps48
  go_wp2
  go_ret
  exact ⟨rfl, rfl⟩

set_option maxHeartbeats 400000 in
theorem ckjoin_any (a b : Int) (w : World) : Calls Try.prog 45 #[.int .i64 a, .int .i64 b] w fun e w' => e = .returned (.int .i64 (jn a b)) ∧ w = w' := by
  have ha : 0 ≤ a % 65536 ∧ a % 65536 < 65536 := by omega
  have hb : 0 ≤ b % 65536 ∧ b % 65536 < 65536 := by omega
  by_cases h : 65535 < a % 65536 + b % 65536
  · have he := Lib.hid (show jn a b = a % 65536 + b % 65536 - 65535 by unfold jn; rw [if_pos h])
    go_enter Try.func45, Try.ntmps45
    go_wp2_with fail
    refine (low16_any a w).mono ?_
    rintro e w1 ⟨rfl, rfl⟩
    go_wp2_with fail
    refine (low16_any b w).mono ?_
    rintro e w1 ⟨rfl, rfl⟩
    generalize a % 65536 = x at *
    generalize b % 65536 = y at *
    go_wp2
    go_ret
    exact ⟨ret_i he.out.symm, rfl⟩
  · have he := Lib.hid (show jn a b = a % 65536 + b % 65536 by unfold jn; rw [if_neg h])
    go_enter Try.func45, Try.ntmps45
    go_wp2_with fail
    refine (low16_any a w).mono ?_
    rintro e w1 ⟨rfl, rfl⟩
    go_wp2_with fail
    refine (low16_any b w).mono ?_
    rintro e w1 ⟨rfl, rfl⟩
    generalize a % 65536 = x at *
    generalize b % 65536 = y at *
    go_wp2
    go_ret
    exact ⟨ret_i he.out.symm, rfl⟩

set_option maxHeartbeats 400000 in
theorem rjoin_any (a b : Int) (w : World) : Calls Try.prog 39 #[.int .i64 a, .int .i64 b] w fun e w' => e = .returned (.int .i64 (jn a b)) ∧ w = w' := by
  have ha : 0 ≤ a % 65536 ∧ a % 65536 < 65536 := by omega
  have hb : 0 ≤ b % 65536 ∧ b % 65536 < 65536 := by omega
  by_cases h : 65535 < a % 65536 + b % 65536
  · have he := Lib.hid (show jn a b = a % 65536 + b % 65536 - 65535 by unfold jn; rw [if_pos h])
    go_enter Try.func39, Try.ntmps39
    go_wp2_with fail
    refine (rmod_any a w).mono ?_
    rintro e w1 ⟨rfl, rfl⟩
    go_wp2_with fail
    refine (rmod_any b w).mono ?_
    rintro e w1 ⟨rfl, rfl⟩
    generalize a % 65536 = x at *
    generalize b % 65536 = y at *
    go_wp2
    go_ret
    exact ⟨ret_i he.out.symm, rfl⟩
  · have he := Lib.hid (show jn a b = a % 65536 + b % 65536 by unfold jn; rw [if_neg h])
    go_enter Try.func39, Try.ntmps39
    go_wp2_with fail
    refine (rmod_any a w).mono ?_
    rintro e w1 ⟨rfl, rfl⟩
    go_wp2_with fail
    refine (rmod_any b w).mono ?_
    rintro e w1 ⟨rfl, rfl⟩
    generalize a % 65536 = x at *
    generalize b % 65536 = y at *
    go_wp2
    go_ret
    exact ⟨ret_i he.out.symm, rfl⟩

set_option maxHeartbeats 400000 in
theorem cknot_any (a : Int) (w : World) : Calls Try.prog 36 #[.int .i64 a] w fun e w' => e = .returned (.int .i64 (nt a)) ∧ w = w' := by
  have ha : 0 ≤ a % 65536 ∧ a % 65536 < 65536 := by omega
  have he := Lib.hid (show nt a = 65535 - a % 65536 from rfl)
  go_enter Try.func36, Try.ntmps36
  go_wp2_with fail
  refine (low16_any a w).mono ?_
  rintro e w1 ⟨rfl, rfl⟩
  generalize a % 65536 = x at *
  go_wp2
  go_ret
  exact ⟨ret_i he.out.symm, rfl⟩

set_option maxHeartbeats 400000 in
theorem rnot_any (a : Int) (w : World) : Calls Try.prog 38 #[.int .i64 a] w fun e w' => e = .returned (.int .i64 (nt a)) ∧ w = w' := by
  have ha : 0 ≤ a % 65536 ∧ a % 65536 < 65536 := by omega
  have he := Lib.hid (show nt a = 65535 - a % 65536 from rfl)
  go_enter Try.func38, Try.ntmps38
  go_wp2_with fail
  refine (rmod_any a w).mono ?_
  rintro e w1 ⟨rfl, rfl⟩
  generalize a % 65536 = x at *
  go_wp2
  go_ret
  exact ⟨ret_i he.out.symm, rfl⟩

end Go.Proofs.Ytheagbgojdlfaaa
