/- What cksum.low16, Join, Not and Update, and the document's own answers for them, tell, for any ints. No condition. -/
import Derived.Test.YtcdeabiellefcaaDoorOctA
namespace Go.Proofs.YtcdeabiellefcaaDoor
open Go.RowKit

/-- two joined, what is missing of one, what a check becomes -/
def jn (a b : Int) : Int := if 65535 < a % 65536 + b % 65536 then a % 65536 + b % 65536 - 65535 else a % 65536 + b % 65536
def nt (s : Int) : Int := 65535 - s % 65536
def upd (check was is : Int) : Int := nt (jn (jn (nt check) (nt was)) is)

theorem and65535 (n : Int) : bits .and .i64 n 65535 = n % 65536 := by
  have h : (BitVec.ofInt 64 n &&& BitVec.ofInt 64 65535).toNat = (n % 65536).toNat := by
    rw [BitVec.toNat_and, BitVec.toNat_ofInt, show (BitVec.ofInt 64 65535).toNat = 2 ^ 16 - 1 by decide, Nat.and_two_pow_sub_one_eq_mod]
    omega
  show IntKind.i64.wrap ((BitVec.ofInt 64 n &&& BitVec.ofInt 64 65535).toNat : Int) = _
  rw [h, IntKind.wrap_i64]
  omega

theorem ret_i {k : IntKind} {a b : Int} (h : a = b) : Ending.returned (.int k a) = .returned (.int k b) := by rw [h]

theorem jn_range (a b : Int) : 0 ≤ jn a b ∧ jn a b ≤ 65535 := by unfold jn; split <;> omega
theorem nt_range (s : Int) : 0 ≤ nt s ∧ nt s ≤ 65535 := by unfold nt; omega

end Go.Proofs.YtcdeabiellefcaaDoor
