/- What octets.there, U16 and U32 answer, at any place of any bytes. Conditions: the slice is at most 2^47 bytes long, the place is an int. -/
import Derived.Test.YtnfiijbnfmcpjaaRows
import Derived.Test.YtnfiijbnfmcpjaaBytes
import Derived.Deep.QuietTactic
import Derived.BigQuiet
import Derived.Lib.EndianBits
namespace Go.Proofs.Ytnfiijbnfmcpjaa
open Go.RowKit

def i64ok (a : Int) : Prop := -9223372036854775808 ≤ a ∧ a ≤ 9223372036854775807

set_option maxHeartbeats 400000 in
theorem there_yes (A : Option Addr) (n c : Nat) (p k : Int) (w : World) (hn : n ≤ 140737488355328) (hp : 0 ≤ p) (hk : 0 ≤ k) (h : k ≤ n - p) :
    Calls Try.prog 38 #[.slice A n c, .int .i64 p, .int .i64 k] w fun e w' => e = .returned (.bool true) ∧ w = w' := by
  go_enter Try.func38, Try.ntmps38
  go_wp2
  go_ret
  exact ⟨rfl, rfl⟩

set_option maxHeartbeats 400000 in
theorem there_no (A : Option Addr) (n c : Nat) (p k : Int) (w : World) (hn : n ≤ 140737488355328) (hp : p ≤ 9223372036854775807) (h : p < 0 ∨ k < 0 ∨ n - p < k) :
    Calls Try.prog 38 #[.slice A n c, .int .i64 p, .int .i64 k] w fun e w' => e = .returned (.bool false) ∧ w = w' := by
  by_cases h1 : p < 0
  · have h1' : ¬ 0 ≤ p := by omega
    go_enter Try.func38, Try.ntmps38
    go_wp2
    go_ret
    exact ⟨rfl, rfl⟩
  · have h1' : 0 ≤ p := by omega
    by_cases h2 : k < 0
    · have h2' : ¬ 0 ≤ k := by omega
      go_enter Try.func38, Try.ntmps38
      go_wp2
      go_ret
      exact ⟨rfl, rfl⟩
    · have h2' : 0 ≤ k := by omega
      have h3 : ¬ k ≤ n - p := by omega
      clear h
      go_enter Try.func38, Try.ntmps38
      go_wp2
      go_ret
      exact ⟨rfl, rfl⟩

theorem wraps_i64 (n : Int) (h₀ : 0 ≤ n) (h₁ : n < 2 ^ 62) : IntKind.i64.wrap n = n := by rw [IntKind.wrap_i64]; omega
theorem or_i64_8 (x y : Int) (hx : 0 ≤ x) (hx1 : x < 256) (hy : 0 ≤ y) (hy1 : y < 256) : bits .or .i64 (x * 256) y = x * 256 + y :=
  bits_join .i64 62 (by decide) wraps_i64 8 (x * 256) y (by omega) (by omega) (by omega) hy (by omega) (by omega)
theorem or_u32 (i : Nat) (x y : Int) (hx₀ : 0 ≤ x) (hx : x % 2 ^ i = 0) (hx₁ : x < 4294967296) (hy₀ : 0 ≤ y) (hy : y < 2 ^ i) (hy₁ : y < 4294967296) : bits .or .u32 x y = x + y :=
  bits_join .u32 32 (by decide) wraps_u32 i x y hx₀ hx hx₁ hy₀ hy hy₁
theorem or4_u32 (x y z t : Int) (hx : 0 ≤ x ∧ x < 256) (hy : 0 ≤ y ∧ y < 256) (hz : 0 ≤ z ∧ z < 256) (ht : 0 ≤ t ∧ t < 256) :
    bits .or .u32 (bits .or .u32 (bits .or .u32 (x * 16777216) (y * 65536)) (z * 256)) t = x * 16777216 + y * 65536 + z * 256 + t := by
  rw [or_u32 24 (x * 16777216) (y * 65536) (by omega) (by omega) (by omega) (by omega) (by omega) (by omega),
    or_u32 16 (x * 16777216 + y * 65536) (z * 256) (by omega) (by omega) (by omega) (by omega) (by omega) (by omega),
    or_u32 8 (x * 16777216 + y * 65536 + z * 256) t (by omega) (by omega) (by omega) (by omega) (by omega) (by omega)]

/-- the number of two bytes, of four -/
def num2 (xs : List Int) (p : Nat) : Int := xs.getD p 0 * 256 + xs.getD (p + 1) 0
def num4 (xs : List Int) (p : Nat) : Int := xs.getD p 0 * 16777216 + xs.getD (p + 1) 0 * 65536 + xs.getD (p + 2) 0 * 256 + xs.getD (p + 3) 0

set_option maxHeartbeats 400000 in
theorem u16_no (A : Option Addr) (n c : Nat) (p : Int) (w : World) (hn : n ≤ 140737488355328) (hp : p ≤ 9223372036854775807) (h : p < 0 ∨ (n : Int) - p < 2) :
    Calls Try.prog 27 #[.slice A n c, .int .i64 p] w fun e w' => e = .returned (.tuple #[.int .i64 0, .bool false]) ∧ w = w' := by
  go_enter Try.func27, Try.ntmps27
  go_wp2_with (go_at_call 38; refine (there_no _ _ _ _ _ _ hn hp (by omega)).mono ?_; rintro e w' ⟨rfl, rfl⟩)
  go_ret2
  exact ⟨rfl, rfl⟩

set_option maxHeartbeats 400000 in
theorem u16_yes (A : Option Addr) (n c : Nat) (q : Int) (p : Nat) (xs : List Int) (w : World) (hn : n ≤ 140737488355328) (hb : Bs w w.heap.size A n xs) (hq : q = p) (h : p + 2 ≤ n) :
    Calls Try.prog 27 #[.slice A n c, .int .i64 q] w fun e w' => e = .returned (.tuple #[.int .i64 (num2 xs p), .bool true]) ∧ ∃ k, w' = w.drewN k := by
  subst hq
  obtain ⟨b, o, rfl, _, hc⟩ := hb.mem (by omega)
  have h0 := hc p (by omega)
  have h1 := hc (p + 1) (by omega)
  have r0 := hb.nonneg p
  have r1 := hb.nonneg (p + 1)
  clear hc hb
  unfold num2
  generalize xs.getD p 0 = x at *
  generalize xs.getD (p + 1) 0 = y at *
  go_enter Try.func27, Try.ntmps27
  go_wp2_with (go_at_call 38; refine (there_yes _ _ _ _ _ _ hn (by omega) (by omega) (by omega)).mono ?_; rintro e w' ⟨rfl, rfl⟩)
  go_quiet (fail)
  go_wp2
  go_ret2
  exact ⟨by rw [or_i64_8 x y r0.1 r0.2 r1.1 r1.2]; rfl, _, rfl⟩

/- the document's own answers -/
end Go.Proofs.Ytnfiijbnfmcpjaa
