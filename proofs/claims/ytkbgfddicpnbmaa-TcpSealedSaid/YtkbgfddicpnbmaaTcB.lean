/- What tcp.Has, Span and First answer, and the document's Span and First. Condition: numbers are ints. -/
import Derived.Test.YtkbgfddicpnbmaaTcA
namespace Go.Proofs.Ytkbgfddicpnbmaa
open Go.RowKit
set_option linter.unusedVariables false

def hasB (x k : Int) : Bool := bits .and .i64 x k == k
def flagB (x k : Int) : Bool := bits .and .i64 x k != 0
theorem wrap_toInt (v : BitVec 64) : IntKind.i64.wrap (v.toNat : Int) = v.toInt := by
  have h := v.isLt
  rw [BitVec.toInt_eq_toNat_cond, IntKind.wrap_i64]
  split <;> omega
theorem ofInt_toInt {x : Int} (h : i64ok x) : (BitVec.ofInt 64 x).toInt = x := by
  unfold i64ok at h
  rw [BitVec.toInt_ofInt, Int.bmod_def]
  split <;> omega
theorem bits_and (x k : Int) : bits .and .i64 x k = (BitVec.ofInt 64 x &&& BitVec.ofInt 64 k).toInt := by
  rw [← wrap_toInt]; rfl
theorem bits_or (x k : Int) : bits .or .i64 x k = (BitVec.ofInt 64 x ||| BitVec.ofInt 64 k).toInt := by
  rw [← wrap_toInt]; rfl
theorem has_or {x k : Int} (hx : i64ok x) (hk : i64ok k) : hasB x k = (bits .or .i64 x k == x) := by
  have e1 : (bits .and .i64 x k = k) ↔ (BitVec.ofInt 64 x &&& BitVec.ofInt 64 k = BitVec.ofInt 64 k) := by
    rw [bits_and]
    constructor
    · intro h; apply BitVec.eq_of_toInt_eq; rw [h, ofInt_toInt hk]
    · intro h; rw [h, ofInt_toInt hk]
  have e2 : (bits .or .i64 x k = x) ↔ (BitVec.ofInt 64 x ||| BitVec.ofInt 64 k = BitVec.ofInt 64 x) := by
    rw [bits_or]
    constructor
    · intro h; apply BitVec.eq_of_toInt_eq; rw [h, ofInt_toInt hx]
    · intro h; rw [h, ofInt_toInt hx]
  rw [Bool.eq_iff_iff]
  unfold hasB
  simp only [beq_iff_eq]
  rw [e1, e2]
  generalize BitVec.ofInt 64 x = a
  generalize BitVec.ofInt 64 k = b
  constructor
  · intro h
    rw [← h]
    ext i hi
    simp
    exact fun h _ => h
  · intro h
    rw [← h]
    ext i hi
    simp
    exact fun h => .inr h
theorem has_pow (x : Int) (k : Nat) (m : Int) (hm : BitVec.ofInt 64 m = BitVec.twoPow 64 k) (h1 : (BitVec.twoPow 64 k).toInt = m) (h0 : m ≠ 0) : hasB x m = flagB x m := by
  unfold hasB flagB
  rw [bits_and, hm, BitVec.and_twoPow]
  split
  · rw [h1]; simp [h0]
  · simp [Ne.symm h0]
theorem has1 (x : Int) : hasB x 1 = flagB x 1 := has_pow x 0 1 (by decide) (by decide) (by decide)
theorem has2 (x : Int) : hasB x 2 = flagB x 2 := has_pow x 1 2 (by decide) (by decide) (by decide)
theorem has4 (x : Int) : hasB x 4 = flagB x 4 := has_pow x 2 4 (by decide) (by decide) (by decide)
theorem has16 (x : Int) : hasB x 16 = flagB x 16 := has_pow x 4 16 (by decide) (by decide) (by decide)

theorem mhas_any (x k : Int) (w : World) : Calls Try.prog 49 #[.int .i64 x, .int .i64 k] w fun e w' => e = .returned (.bool (hasB x k)) ∧ w' = w := by
  go_enter Try.func49, Try.ntmps49
  go_wp2_with fail
  go_ret
  exact ⟨rfl, rfl⟩
theorem msyn_any (x : Int) (w : World) : Calls Try.prog 44 #[.int .i64 x] w fun e w' => e = .returned (.bool (hasB x 2)) ∧ w' = w := by
  go_enter Try.func44, Try.ntmps44
  go_wp2_with fail
  refine (mhas_any x 2 w).mono ?_
  rintro e w1 ⟨rfl, rfl⟩
  go_wp2_with fail
  go_ret
  exact ⟨rfl, rfl⟩
theorem mfin_any (x : Int) (w : World) : Calls Try.prog 45 #[.int .i64 x] w fun e w' => e = .returned (.bool (hasB x 1)) ∧ w' = w := by
  go_enter Try.func45, Try.ntmps45
  go_wp2_with fail
  refine (mhas_any x 1 w).mono ?_
  rintro e w1 ⟨rfl, rfl⟩
  go_wp2_with fail
  go_ret
  exact ⟨rfl, rfl⟩
theorem mrst_any (x : Int) (w : World) : Calls Try.prog 48 #[.int .i64 x] w fun e w' => e = .returned (.bool (hasB x 4)) ∧ w' = w := by
  go_enter Try.func48, Try.ntmps48
  go_wp2_with fail
  refine (mhas_any x 4 w).mono ?_
  rintro e w1 ⟨rfl, rfl⟩
  go_wp2_with fail
  go_ret
  exact ⟨rfl, rfl⟩
theorem mack_any (x : Int) (w : World) : Calls Try.prog 47 #[.int .i64 x] w fun e w' => e = .returned (.bool (hasB x 16)) ∧ w' = w := by
  go_enter Try.func47, Try.ntmps47
  go_wp2_with fail
  refine (mhas_any x 16 w).mono ?_
  rintro e w1 ⟨rfl, rfl⟩
  go_wp2_with fail
  go_ret
  exact ⟨rfl, rfl⟩
theorem thas_any (t : Sg) (k : Int) (w : World) : Calls Try.prog 22 #[segV t, .int .i64 k] w fun e w' => e = .returned (.bool (hasB t.fl k)) ∧ Below w.heap.size w w' := by
  unfold segV
  go_enter Try.func22, Try.ntmps22
  go_wp2_with ((with_reducible refine wpList_box_seg rfl (.tmp 0) rfl t rfl ?_); intro w1 HB hL hz1; refine Hid.out ?_)
  refine Lib.hid ?_
  obtain ⟨c0, c1, c2, c3, c4, c5, c6, c7, c8, c9⟩ := BlkS.cells HB
  clear HB c0 c1 c2 c3 c5 c6 c7 c8 c9
  go_wp2_with fail
  refine (mhas_any t.fl k w1).mono ?_
  rintro e w2 ⟨rfl, rfl⟩
  go_wp2_with fail
  go_ret
  exact ⟨rfl, hL⟩
theorem flag_any (t : Sg) (k : Int) (w : World) : Calls Try.prog 46 #[segV t, .int .i64 k] w fun e w' => e = .returned (.bool (flagB t.fl k)) ∧ Below w.heap.size w w' := by
  unfold segV
  go_enter Try.func46, Try.ntmps46
  go_wp2_with ((with_reducible refine wpList_box_seg rfl (.tmp 0) rfl t rfl ?_); intro w1 HB hL hz1; refine Hid.out ?_)
  refine Lib.hid ?_
  obtain ⟨c0, c1, c2, c3, c4, c5, c6, c7, c8, c9⟩ := BlkS.cells HB
  clear HB c0 c1 c2 c3 c5 c6 c7 c8 c9
  go_wp2_with fail
  go_ret
  exact ⟨rfl, hL⟩
end Go.Proofs.Ytkbgfddicpnbmaa
