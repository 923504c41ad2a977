/- The document's own answers for layer 1 that lay bytes: Two, Four, Set16. Conditions: numbers are ints, the slice is at most 2^47 bytes long. -/
import Derived.Test.YtnfiijbnfmcpjaaOctU
namespace Go.Proofs.Ytnfiijbnfmcpjaa
open Go.RowKit
set_option linter.unusedVariables false

theorem i64_and65535 (n : Int) : bits .and .i64 n 65535 = n % 65536 := by
  have h : (BitVec.ofInt 64 n &&& BitVec.ofInt 64 65535).toNat = (n % 65536).toNat := by
    rw [BitVec.toNat_and, BitVec.toNat_ofInt, show (BitVec.ofInt 64 65535).toNat = 2 ^ 16 - 1 by decide, Nat.and_two_pow_sub_one_eq_mod]
    omega
  show IntKind.i64.wrap ((BitVec.ofInt 64 n &&& BitVec.ofInt 64 65535).toNat : Int) = _
  rw [h, IntKind.wrap_i64]
  omega

set_option maxHeartbeats 400000 in
theorem rtwo_any (x : Int) (w : World) (hx : i64ok x) :
    Calls Try.prog 22 #[.int .i64 x] w fun e w' => ∃ v, e = .returned v ∧ NewB 5 w 2 (two x) v w' := by
  unfold i64ok at hx
  have hand := i64_and65535 x
  obtain ⟨y, hy⟩ : ∃ y, y = x % 65536 := ⟨_, rfl⟩
  have hy0 : 0 ≤ y ∧ y < 65536 := by omega
  rw [← hy] at hand
  have HY := Lib.hid (show two x = [y / 256, y % 256] by unfold two; congr 1; omega; congr 1; omega)
  clear hy
  go_enter Try.func22, Try.ntmps22
  go_wp2
  go_ret
  refine ⟨_, rfl, w.heap.size, rfl, Nat.le_refl _, ?_, rfl, two_all x, (Below.refl _ _).alloc (Nat.le_refl _) _⟩
  rw [HY.out]
  exact Blk.new w 5 [y / 256, y % 256]

theorem four_two (x : Int) (hx : 0 ≤ x ∧ x < 4294967296) : two (x / 65536) ++ two (x % 65536) = four x := by
  unfold two four
  simp only [List.cons_append, List.nil_append]
  congr 1
  · omega
  · congr 1
    congr 1
    · omega
    · congr 1
      omega

theorem set_two (xs : List Int) (p : Nat) (x y : Int) (h : p + 2 ≤ xs.length) : (xs.set p x).set (p + 1) y = xs.take p ++ [x, y] ++ xs.drop (p + 2) := by
  apply List.ext_getElem?
  intro i
  simp only [List.append_assoc, List.cons_append, List.nil_append]
  rcases Nat.lt_or_ge i p with h1 | h1
  · rw [List.getElem?_append_left (by simp; omega)]
    simp [show ¬ p + 1 = i by omega, show ¬ p = i by omega, h1]
  · rw [List.getElem?_append_right (by simp; omega), List.length_take, Nat.min_eq_left (by omega)]
    rcases Nat.lt_or_ge i (p + 1) with h2 | h2
    · obtain rfl : i = p := by omega
      simp [show i < xs.length by omega]
    · rcases Nat.lt_or_ge i (p + 2) with h3 | h3
      · obtain rfl : i = p + 1 := by omega
        simp [show p + 1 < xs.length by omega]
      · obtain ⟨j, rfl⟩ : ∃ j, i = p + 2 + j := ⟨i - (p + 2), by omega⟩
        rw [show p + 2 + j - p = j + 2 by omega]
        simp [show ¬ p + 1 = p + 2 + j by omega, show ¬ p = p + 2 + j by omega]

end Go.Proofs.Ytnfiijbnfmcpjaa
