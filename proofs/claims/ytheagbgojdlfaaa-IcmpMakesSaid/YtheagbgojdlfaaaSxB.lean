/- What six.fitted and six.Can tell of any header. Condition: its numbers are ints, its addresses 16 bytes. -/
import Derived.Test.YtheagbgojdlfaaaSxA
namespace Go.Proofs.Ytheagbgojdlfaaa
open Go.RowKit
set_option linter.unusedVariables false

theorem and_mask (k : Nat) (hk : k ≤ 62) (m : Int) (hm : m = 2 ^ k - 1) (n : Int) : bits .and .i64 n m = n % 2 ^ k := by
  have hp : (2 : Int) ^ k ≤ 2 ^ 62 := by
    have := Nat.pow_le_pow_right (show 0 < 2 by omega) hk
    exact_mod_cast this
  have hp0 : (0 : Int) < 2 ^ k := by
    have := Nat.pow_pos (n := k) (show 0 < 2 by omega)
    exact_mod_cast this
  have h2 : (BitVec.ofInt 64 m).toNat = 2 ^ k - 1 := by
    rw [BitVec.toNat_ofInt, hm]
    have : ((2 : Int) ^ k - 1) % ↑(2 ^ 64 : Nat) = 2 ^ k - 1 := Int.emod_eq_of_lt (by omega) (by omega)
    rw [this]
    have : ((2 : Int) ^ k) = ((2 ^ k : Nat) : Int) := by push_cast; rfl
    rw [this]; omega
  have hd : (2 : Int) ^ k ∣ ((2 ^ 64 : Nat) : Int) := by
    refine ⟨2 ^ (64 - k), ?_⟩
    rw [← Int.pow_add, show k + (64 - k) = 64 by omega]; rfl
  have h : ((BitVec.ofInt 64 n &&& BitVec.ofInt 64 m).toNat : Int) = n % 2 ^ k := by
    rw [BitVec.toNat_and, h2, BitVec.toNat_ofInt, Nat.and_two_pow_sub_one_eq_mod, Int.natCast_emod, Int.toNat_of_nonneg (Int.emod_nonneg _ (by decide))]
    have e : ((2 ^ k : Nat) : Int) = 2 ^ k := by push_cast; rfl
    rw [e]
    exact Int.emod_emod_of_dvd n hd
  show IntKind.i64.wrap ((BitVec.ofInt 64 n &&& BitVec.ofInt 64 m).toNat : Int) = _
  rw [h, IntKind.wrap_i64]
  have := Int.emod_nonneg n (show (2 : Int) ^ k ≠ 0 by omega)
  have := Int.emod_lt_of_pos n hp0
  omega
theorem and255 (n : Int) : bits .and .i64 n 255 = n % 256 := and_mask 8 (by decide) 255 (by decide) n
theorem and1048575 (n : Int) : bits .and .i64 n 1048575 = n % 1048576 := and_mask 20 (by decide) 1048575 (by decide) n
theorem and_65535 (n : Int) : bits .and .i64 n 65535 = n % 65536 := and_mask 16 (by decide) 65535 (by decide) n

def fitH (h : Hd) : Hd := ⟨h.cl % 256, h.lb % 1048576, h.ln % 65536, h.nx % 256, h.hp % 256, h.s, h.d⟩
def canB (h : Hd) : Bool := decide (0 ≤ h.cl ∧ h.cl ≤ 255 ∧ 0 ≤ h.lb ∧ h.lb ≤ 1048575 ∧ 0 ≤ h.ln ∧ h.ln ≤ 65535 ∧ 0 ≤ h.nx ∧ h.nx ≤ 255 ∧ 0 ≤ h.hp ∧ h.hp ≤ 255)
def canE (h : Hd) : Int := if canB h then 0 else 2
theorem eq_fit (h : Hd) : eqH h (fitH h) = canB h := by
  rw [Bool.eq_iff_iff]
  unfold eqH fitH canB
  simp only [Bool.and_eq_true, beq_iff_eq, decide_eq_true_eq, and_true]
  omega

end Go.Proofs.Ytheagbgojdlfaaa
