/- What cksum.low16, Join, Not and Update, and the document's own answers for them, tell, for any ints. No condition. -/
import Derived.Test.YteojbdchekgooaaOctA
namespace Go.Proofs.Yteojbdchekgooaa
open Go.RowKit

/-- two joined, what is missing of one, what a check becomes -/
def jn (a b : Int) : Int := if 65535 < a % 65536 + b % 65536 then a % 65536 + b % 65536 - 65535 else a % 65536 + b % 65536
def nt (s : Int) : Int := 65535 - s % 65536
def upd (check was is : Int) : Int := nt (jn (jn (nt check) (nt was)) is)

theorem and65535 (n : Int) : bits .and .i64 n 65535 = n % 65536 := by
  have h : (BitVec.ofInt 64 n &&& BitVec.ofInt 64 65535).toNat = (n % 65536).toNat := by
    rw [BitVec.toNat_and, BitVec.toNat_ofInt, show (BitVec.ofInt 64 65535).toNat = 2 ^ 16 - 1 by decide, Nat.and_two_pow_sub_one_eq_mod]
    omega
  show IntKind.i64.wrap ((BitVec.ofInt 64 n &&& BitVec.ofInt 64 65535).toNat : Int) = _
  rw [h, IntKind.wrap_i64]
  omega

theorem ret_i {k : IntKind} {a b : Int} (h : a = b) : Ending.returned (.int k a) = .returned (.int k b) := by rw [h]

theorem jn_range (a b : Int) : 0 ≤ jn a b ∧ jn a b ≤ 65535 := by unfold jn; split <;> omega
theorem nt_range (s : Int) : 0 ≤ nt s ∧ nt s ≤ 65535 := by unfold nt; omega

set_option maxHeartbeats 400000 in
theorem low16_any (n : Int) (w : World) : Calls Try.prog 26 #[.int .i64 n] w fun e w' => e = .returned (.int .i64 (n % 65536)) ∧ w = w' := by
  have h := and65535 n
  go_enter Try.func26, Try.ntmps26
  go_wp2
  go_ret
  exact ⟨rfl, rfl⟩

set_option maxHeartbeats 400000 in
theorem rmod_any (n : Int) (w : World) : Calls Try.prog 27 #[.int .i64 n] w fun e w' => e = .returned (.int .i64 (n % 65536)) ∧ w = w' := by
  have h := and65535 n
  go_enter Try.func27, Try.ntmps27
  go_wp2
  go_ret
  exact ⟨rfl, rfl⟩

set_option maxHeartbeats 400000 in
theorem ckjoin_any (a b : Int) (w : World) : Calls Try.prog 9 #[.int .i64 a, .int .i64 b] w fun e w' => e = .returned (.int .i64 (jn a b)) ∧ w = w' := by
  have ha : 0 ≤ a % 65536 ∧ a % 65536 < 65536 := by omega
  have hb : 0 ≤ b % 65536 ∧ b % 65536 < 65536 := by omega
  by_cases h : 65535 < a % 65536 + b % 65536
  · have he := Lib.hid (show jn a b = a % 65536 + b % 65536 - 65535 by unfold jn; rw [if_pos h])
    go_enter Try.func9, Try.ntmps9
    go_wp2_with fail
    refine (low16_any a w).mono ?_
    rintro e w1 ⟨rfl, rfl⟩
    go_wp2_with fail
    refine (low16_any b w).mono ?_
    rintro e w1 ⟨rfl, rfl⟩
    generalize a % 65536 = x at *
    generalize b % 65536 = y at *
    go_wp2
    go_ret
    exact ⟨ret_i he.out.symm, rfl⟩
  · have he := Lib.hid (show jn a b = a % 65536 + b % 65536 by unfold jn; rw [if_neg h])
    go_enter Try.func9, Try.ntmps9
    go_wp2_with fail
    refine (low16_any a w).mono ?_
    rintro e w1 ⟨rfl, rfl⟩
    go_wp2_with fail
    refine (low16_any b w).mono ?_
    rintro e w1 ⟨rfl, rfl⟩
    generalize a % 65536 = x at *
    generalize b % 65536 = y at *
    go_wp2
    go_ret
    exact ⟨ret_i he.out.symm, rfl⟩

set_option maxHeartbeats 400000 in
theorem rjoin_any (a b : Int) (w : World) : Calls Try.prog 10 #[.int .i64 a, .int .i64 b] w fun e w' => e = .returned (.int .i64 (jn a b)) ∧ w = w' := by
  have ha : 0 ≤ a % 65536 ∧ a % 65536 < 65536 := by omega
  have hb : 0 ≤ b % 65536 ∧ b % 65536 < 65536 := by omega
  by_cases h : 65535 < a % 65536 + b % 65536
  · have he := Lib.hid (show jn a b = a % 65536 + b % 65536 - 65535 by unfold jn; rw [if_pos h])
    go_enter Try.func10, Try.ntmps10
    go_wp2_with fail
    refine (rmod_any a w).mono ?_
    rintro e w1 ⟨rfl, rfl⟩
    go_wp2_with fail
    refine (rmod_any b w).mono ?_
    rintro e w1 ⟨rfl, rfl⟩
    generalize a % 65536 = x at *
    generalize b % 65536 = y at *
    go_wp2
    go_ret
    exact ⟨ret_i he.out.symm, rfl⟩
  · have he := Lib.hid (show jn a b = a % 65536 + b % 65536 by unfold jn; rw [if_neg h])
    go_enter Try.func10, Try.ntmps10
    go_wp2_with fail
    refine (rmod_any a w).mono ?_
    rintro e w1 ⟨rfl, rfl⟩
    go_wp2_with fail
    refine (rmod_any b w).mono ?_
    rintro e w1 ⟨rfl, rfl⟩
    generalize a % 65536 = x at *
    generalize b % 65536 = y at *
    go_wp2
    go_ret
    exact ⟨ret_i he.out.symm, rfl⟩

set_option maxHeartbeats 400000 in
theorem cknot_any (a : Int) (w : World) : Calls Try.prog 11 #[.int .i64 a] w fun e w' => e = .returned (.int .i64 (nt a)) ∧ w = w' := by
  have ha : 0 ≤ a % 65536 ∧ a % 65536 < 65536 := by omega
  have he := Lib.hid (show nt a = 65535 - a % 65536 from rfl)
  go_enter Try.func11, Try.ntmps11
  go_wp2_with fail
  refine (low16_any a w).mono ?_
  rintro e w1 ⟨rfl, rfl⟩
  generalize a % 65536 = x at *
  go_wp2
  go_ret
  exact ⟨ret_i he.out.symm, rfl⟩

set_option maxHeartbeats 400000 in
theorem rnot_any (a : Int) (w : World) : Calls Try.prog 12 #[.int .i64 a] w fun e w' => e = .returned (.int .i64 (nt a)) ∧ w = w' := by
  have ha : 0 ≤ a % 65536 ∧ a % 65536 < 65536 := by omega
  have he := Lib.hid (show nt a = 65535 - a % 65536 from rfl)
  go_enter Try.func12, Try.ntmps12
  go_wp2_with fail
  refine (rmod_any a w).mono ?_
  rintro e w1 ⟨rfl, rfl⟩
  generalize a % 65536 = x at *
  go_wp2
  go_ret
  exact ⟨ret_i he.out.symm, rfl⟩

set_option maxHeartbeats 400000 in
theorem upd_any (a b c : Int) (w : World) : Calls Try.prog 13 #[.int .i64 a, .int .i64 b, .int .i64 c] w fun e w' => e = .returned (.int .i64 (upd a b c)) ∧ w = w' := by
  have he := Lib.hid (show upd a b c = nt (jn (jn (nt a) (nt b)) c) from rfl)
  go_enter Try.func13, Try.ntmps13
  go_wp2_with fail
  refine (cknot_any a w).mono ?_
  rintro e w1 ⟨rfl, rfl⟩
  go_wp2_with fail
  refine (cknot_any b w).mono ?_
  rintro e w1 ⟨rfl, rfl⟩
  go_wp2_with fail
  refine (ckjoin_any (nt a) (nt b) w).mono ?_
  rintro e w1 ⟨rfl, rfl⟩
  go_wp2_with fail
  refine (ckjoin_any _ c w).mono ?_
  rintro e w1 ⟨rfl, rfl⟩
  go_wp2_with fail
  refine (cknot_any _ w).mono ?_
  rintro e w1 ⟨rfl, rfl⟩
  go_wp2
  go_ret
  exact ⟨ret_i he.out.symm, rfl⟩

set_option maxHeartbeats 400000 in
theorem rupd_any (a b c : Int) (w : World) : Calls Try.prog 14 #[.int .i64 a, .int .i64 b, .int .i64 c] w fun e w' => e = .returned (.int .i64 (upd a b c)) ∧ w = w' := by
  have he := Lib.hid (show upd a b c = nt (jn (jn (nt a) (nt b)) c) from rfl)
  go_enter Try.func14, Try.ntmps14
  go_wp2_with fail
  refine (rnot_any a w).mono ?_
  rintro e w1 ⟨rfl, rfl⟩
  go_wp2_with fail
  refine (rnot_any b w).mono ?_
  rintro e w1 ⟨rfl, rfl⟩
  go_wp2_with fail
  refine (rjoin_any (nt a) (nt b) w).mono ?_
  rintro e w1 ⟨rfl, rfl⟩
  go_wp2_with fail
  refine (rjoin_any _ c w).mono ?_
  rintro e w1 ⟨rfl, rfl⟩
  go_wp2_with fail
  refine (rnot_any _ w).mono ?_
  rintro e w1 ⟨rfl, rfl⟩
  go_wp2
  go_ret
  exact ⟨ret_i he.out.symm, rfl⟩
end Go.Proofs.Yteojbdchekgooaa
