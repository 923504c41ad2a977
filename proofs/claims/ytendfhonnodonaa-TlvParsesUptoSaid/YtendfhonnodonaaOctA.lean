/- What octets.there, U16 and U32 answer, at any place of any bytes. Conditions: the slice is at most 2^47 bytes long, the place is an int. -/
import Derived.Test.YtendfhonnodonaaRows
import Derived.Test.YtendfhonnodonaaBytes
import Derived.Deep.QuietTactic
import Derived.BigQuiet
import Derived.Lib.EndianBits
namespace Go.Proofs.Ytendfhonnodonaa
open Go.RowKit

def i64ok (a : Int) : Prop := -9223372036854775808 ≤ a ∧ a ≤ 9223372036854775807

theorem wraps_i64 (n : Int) (h₀ : 0 ≤ n) (h₁ : n < 2 ^ 62) : IntKind.i64.wrap n = n := by rw [IntKind.wrap_i64]; omega
theorem or_i64_8 (x y : Int) (hx : 0 ≤ x) (hx1 : x < 256) (hy : 0 ≤ y) (hy1 : y < 256) : bits .or .i64 (x * 256) y = x * 256 + y :=
  bits_join .i64 62 (by decide) wraps_i64 8 (x * 256) y (by omega) (by omega) (by omega) hy (by omega) (by omega)
theorem or_u32 (i : Nat) (x y : Int) (hx₀ : 0 ≤ x) (hx : x % 2 ^ i = 0) (hx₁ : x < 4294967296) (hy₀ : 0 ≤ y) (hy : y < 2 ^ i) (hy₁ : y < 4294967296) : bits .or .u32 x y = x + y :=
  bits_join .u32 32 (by decide) wraps_u32 i x y hx₀ hx hx₁ hy₀ hy hy₁
theorem or4_u32 (x y z t : Int) (hx : 0 ≤ x ∧ x < 256) (hy : 0 ≤ y ∧ y < 256) (hz : 0 ≤ z ∧ z < 256) (ht : 0 ≤ t ∧ t < 256) :
    bits .or .u32 (bits .or .u32 (bits .or .u32 (x * 16777216) (y * 65536)) (z * 256)) t = x * 16777216 + y * 65536 + z * 256 + t := by
  rw [or_u32 24 (x * 16777216) (y * 65536) (by omega) (by omega) (by omega) (by omega) (by omega) (by omega),
    or_u32 16 (x * 16777216 + y * 65536) (z * 256) (by omega) (by omega) (by omega) (by omega) (by omega) (by omega),
    or_u32 8 (x * 16777216 + y * 65536 + z * 256) t (by omega) (by omega) (by omega) (by omega) (by omega) (by omega)]

/-- the number of two bytes, of four -/
def num2 (xs : List Int) (p : Nat) : Int := xs.getD p 0 * 256 + xs.getD (p + 1) 0
def num4 (xs : List Int) (p : Nat) : Int := xs.getD p 0 * 16777216 + xs.getD (p + 1) 0 * 65536 + xs.getD (p + 2) 0 * 256 + xs.getD (p + 3) 0

/- the document's own answers -/
end Go.Proofs.Ytendfhonnodonaa
