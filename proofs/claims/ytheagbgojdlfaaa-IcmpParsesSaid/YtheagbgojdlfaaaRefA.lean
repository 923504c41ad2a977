/- The document's own answers for layer 1 that lay bytes: Two, Four, Set16. Conditions: numbers are ints, the slice is at most 2^47 bytes long. -/
import Derived.Test.YtheagbgojdlfaaaOctU
namespace Go.Proofs.Ytheagbgojdlfaaa
open Go.RowKit
set_option linter.unusedVariables false

theorem i64_and65535 (n : Int) : bits .and .i64 n 65535 = n % 65536 := by
  have h : (BitVec.ofInt 64 n &&& BitVec.ofInt 64 65535).toNat = (n % 65536).toNat := by
    rw [BitVec.toNat_and, BitVec.toNat_ofInt, show (BitVec.ofInt 64 65535).toNat = 2 ^ 16 - 1 by decide, Nat.and_two_pow_sub_one_eq_mod]
    omega
  show IntKind.i64.wrap ((BitVec.ofInt 64 n &&& BitVec.ofInt 64 65535).toNat : Int) = _
  rw [h, IntKind.wrap_i64]
  omega

set_option maxHeartbeats 400000 in
theorem rtwo_any (x : Int) (w : World) (hx : i64ok x) :
    Calls Try.prog 24 #[.int .i64 x] w fun e w' => ∃ v, e = .returned v ∧ NewB 5 w 2 (two x) v w' := by
  unfold i64ok at hx
  have hand := i64_and65535 x
  obtain ⟨y, hy⟩ : ∃ y, y = x % 65536 := ⟨_, rfl⟩
  have hy0 : 0 ≤ y ∧ y < 65536 := by omega
  rw [← hy] at hand
  have HY := Lib.hid (show two x = [y / 256, y % 256] by unfold two; congr 1; omega; congr 1; omega)
  clear hy
  go_enter Try.func24, Try.ntmps24
  go_wp2
  go_ret
  refine ⟨_, rfl, w.heap.size, rfl, Nat.le_refl _, ?_, rfl, two_all x, (Below.refl _ _).alloc (Nat.le_refl _) _⟩
  rw [HY.out]
  exact Blk.new w 5 [y / 256, y % 256]

theorem four_two (x : Int) (hx : 0 ≤ x ∧ x < 4294967296) : two (x / 65536) ++ two (x % 65536) = four x := by
  unfold two four
  simp only [List.cons_append, List.nil_append]
  congr 1
  · omega
  · congr 1
    congr 1
    · omega
    · congr 1
      omega

set_option maxHeartbeats 400000 in
theorem rfour_any (x : Int) (w : World) (hx : 0 ≤ x ∧ x < 4294967296) :
    Calls Try.prog 23 #[.int .u32 x] w fun e w' => ∃ A c, e = .returned (.slice A 4 c) ∧ Bs w' w'.heap.size A 4 (four x) ∧ Below w.heap.size w w' := by
  obtain ⟨i0, hi, hz0, hz1, hz2⟩ := info_parts info5
  have HI := Lib.hid hi
  have HZ0 := Lib.hid hz0
  have HZ1 := Lib.hid hz1
  have HZ2 := Lib.hid hz2
  clear hi hz0 hz1 hz2
  go_enter Try.func23, Try.ntmps23
  go_wp2_with fail
  refine (rtwo_any (x / 65536) w (by unfold i64ok; omega)).mono ?_
  rintro e w1 ⟨v, rfl, g1, rfl, hg1, hk1, hl1, ha1, hB1⟩
  go_wp2_with fail
  refine (rtwo_any (x % 65536) w1 (by unfold i64ok; omega)).mono ?_
  rintro e w2 ⟨v, rfl, g2, rfl, hg2, hk2, hl2, ha2, hB2⟩
  have hB := hB1.trans (hB2.mono hB1.size)
  have hO := OwnB.ofBlk (base := w.heap.size) (hk1.below hB2 hk1.lt) ha1 hg1 hl1 (by simp only [maxLen]; omega)
  have hs := hk2.bs ha2 hk2.lt hl2
  clear hB1 hB2 hk1 hk2 hg1 hg2 hl1 hl2
  go_wp2_with (at_builtin; refine wpList_append_bs rfl (.tmp 6) (.tmp 10) _ rfl w.heap.size 5 i0 Try.underlying27 HI.out HZ0.out HZ1.out HZ2.out _ 2 2 (two (x / 65536)) rfl hO _ 2 2 w2.heap.size (two (x % 65536)) rfl hs (by omega) hB.size ?_; intro A3 c3 w3 hO3 hg3 hb3)
  go_ret
  refine ⟨A3, c3, rfl, ?_, hB.grown hg3 hB.size (fun k hk => (hO.lt k hk).1)⟩
  rw [← four_two x hx]
  exact hO3.bs (Nat.le_refl _)

theorem set_two (xs : List Int) (p : Nat) (x y : Int) (h : p + 2 ≤ xs.length) : (xs.set p x).set (p + 1) y = xs.take p ++ [x, y] ++ xs.drop (p + 2) := by
  apply List.ext_getElem?
  intro i
  simp only [List.append_assoc, List.cons_append, List.nil_append]
  rcases Nat.lt_or_ge i p with h1 | h1
  · rw [List.getElem?_append_left (by simp; omega)]
    simp [show ¬ p + 1 = i by omega, show ¬ p = i by omega, h1]
  · rw [List.getElem?_append_right (by simp; omega), List.length_take, Nat.min_eq_left (by omega)]
    rcases Nat.lt_or_ge i (p + 1) with h2 | h2
    · obtain rfl : i = p := by omega
      simp [show i < xs.length by omega]
    · rcases Nat.lt_or_ge i (p + 2) with h3 | h3
      · obtain rfl : i = p + 1 := by omega
        simp [show p + 1 < xs.length by omega]
      · obtain ⟨j, rfl⟩ : ∃ j, i = p + 2 + j := ⟨i - (p + 2), by omega⟩
        rw [show p + 2 + j - p = j + 2 by omega]
        simp [show ¬ p + 1 = p + 2 + j by omega, show ¬ p = p + 2 + j by omega]

end Go.Proofs.Ytheagbgojdlfaaa
