/- Texts joined.
  What cksum.low16, Join, Not and Update, and the document's own answers for them, tell, for any ints. No condition.
  Sums of 16 bits as numbers: what is joined is the whole sum, folded; parts of an even length add up. No condition.
  What cksum.Sum, and the document's own Sum, tell of any bytes. Condition: the slice is at most 2^47 bytes long (less 4096 for the document's).
  What cksum.total tells of lists of bytes: their sums, joined. Conditions: the lists are at most 2^47 bytes long.
  What cksum.Pseudo, whole, Check and Fine tell. Conditions: the addresses are 16 bytes each, numbers are ints, the slice is at most 2^47 bytes long.
  What cksum.whole, Check and Fine tell. Conditions: the addresses are 16 bytes each, numbers are ints, the slice is at most 2^47 bytes long.
  What the document's own Pseudo, Check and Fine tell. Conditions: the addresses are 16 bytes each, numbers are ints, the slice is at most 2^47 - 4096 bytes long.
  What the laws' own small test of layer 2, 'lives', answers: true. No condition.
  Two addresses in one struct: its halves are read whole. And the law of a check that is put in. No condition.
-/
import Derived.Test.YtjafjapnmffohaaGreatDoorJOct
import Derived.Test.YtjafjapnmffohaaGreatDoorVals
import Derived.Test.YtjafjapnmffohaaGreatDoorJReg
import Derived.Laws.Rows
import Derived.Deep.MidRow
set_option maxRecDepth 100000
namespace Go.Proofs.YtjafjapnmffohaaGreatDoor
open Go.RowKit

/-- two joined, what is missing of one, what a check becomes -/
def jn (a b : Int) : Int := if 65535 < a % 65536 + b % 65536 then a % 65536 + b % 65536 - 65535 else a % 65536 + b % 65536
def nt (s : Int) : Int := 65535 - s % 65536
def upd (check was is : Int) : Int := nt (jn (jn (nt check) (nt was)) is)

theorem and65535 (n : Int) : bits .and .i64 n 65535 = n % 65536 := by
  have h : (BitVec.ofInt 64 n &&& BitVec.ofInt 64 65535).toNat = (n % 65536).toNat := by
    rw [BitVec.toNat_and, BitVec.toNat_ofInt, show (BitVec.ofInt 64 65535).toNat = 2 ^ 16 - 1 by decide, Nat.and_two_pow_sub_one_eq_mod]
    omega
  show IntKind.i64.wrap ((BitVec.ofInt 64 n &&& BitVec.ofInt 64 65535).toNat : Int) = _
  rw [h, IntKind.wrap_i64]
  omega

theorem jn_range (a b : Int) : 0 ≤ jn a b ∧ jn a b ≤ 65535 := by unfold jn; split <;> omega
theorem nt_range (s : Int) : 0 ≤ nt s ∧ nt s ≤ 65535 := by unfold nt; omega

set_option maxHeartbeats 400000 in
theorem low16_any (n : Int) (w : World) : Calls Tryz.prog 131 #[.int .i64 n] w fun e w' => e = .returned (.int .i64 (n % 65536)) ∧ w = w' := by
  have h := and65535 n
  go_enter Tryz.func131, Tryz.ntmps131
  go_wp2
  go_ret
  exact ⟨rfl, rfl⟩

set_option maxHeartbeats 400000 in
theorem rmod_any (n : Int) (w : World) : Calls Tryz.prog 57 #[.int .i64 n] w fun e w' => e = .returned (.int .i64 (n % 65536)) ∧ w = w' := by
  have h := and65535 n
  go_enter Tryz.func57, Tryz.ntmps57
  go_wp2
  go_ret
  exact ⟨rfl, rfl⟩

set_option maxHeartbeats 400000 in
theorem ckjoin_any (a b : Int) (w : World) : Calls Tryz.prog 128 #[.int .i64 a, .int .i64 b] w fun e w' => e = .returned (.int .i64 (jn a b)) ∧ w = w' := by
  have ha : 0 ≤ a % 65536 ∧ a % 65536 < 65536 := by omega
  have hb : 0 ≤ b % 65536 ∧ b % 65536 < 65536 := by omega
  by_cases h : 65535 < a % 65536 + b % 65536
  · have he := Lib.hid (show jn a b = a % 65536 + b % 65536 - 65535 by unfold jn; rw [if_pos h])
    go_enter Tryz.func128, Tryz.ntmps128
    go_wp2_with fail
    refine (low16_any a w).mono ?_
    rintro e w1 ⟨rfl, rfl⟩
    go_wp2_with fail
    refine (low16_any b w).mono ?_
    rintro e w1 ⟨rfl, rfl⟩
    generalize a % 65536 = x at *
    generalize b % 65536 = y at *
    go_wp2
    go_ret
    exact ⟨ret_i he.out.symm, rfl⟩
  · have he := Lib.hid (show jn a b = a % 65536 + b % 65536 by unfold jn; rw [if_neg h])
    go_enter Tryz.func128, Tryz.ntmps128
    go_wp2_with fail
    refine (low16_any a w).mono ?_
    rintro e w1 ⟨rfl, rfl⟩
    go_wp2_with fail
    refine (low16_any b w).mono ?_
    rintro e w1 ⟨rfl, rfl⟩
    generalize a % 65536 = x at *
    generalize b % 65536 = y at *
    go_wp2
    go_ret
    exact ⟨ret_i he.out.symm, rfl⟩

set_option maxHeartbeats 400000 in
theorem rjoin_any (a b : Int) (w : World) : Calls Tryz.prog 36 #[.int .i64 a, .int .i64 b] w fun e w' => e = .returned (.int .i64 (jn a b)) ∧ w = w' := by
  have ha : 0 ≤ a % 65536 ∧ a % 65536 < 65536 := by omega
  have hb : 0 ≤ b % 65536 ∧ b % 65536 < 65536 := by omega
  by_cases h : 65535 < a % 65536 + b % 65536
  · have he := Lib.hid (show jn a b = a % 65536 + b % 65536 - 65535 by unfold jn; rw [if_pos h])
    go_enter Tryz.func36, Tryz.ntmps36
    go_wp2_with fail
    refine (rmod_any a w).mono ?_
    rintro e w1 ⟨rfl, rfl⟩
    go_wp2_with fail
    refine (rmod_any b w).mono ?_
    rintro e w1 ⟨rfl, rfl⟩
    generalize a % 65536 = x at *
    generalize b % 65536 = y at *
    go_wp2
    go_ret
    exact ⟨ret_i he.out.symm, rfl⟩
  · have he := Lib.hid (show jn a b = a % 65536 + b % 65536 by unfold jn; rw [if_neg h])
    go_enter Tryz.func36, Tryz.ntmps36
    go_wp2_with fail
    refine (rmod_any a w).mono ?_
    rintro e w1 ⟨rfl, rfl⟩
    go_wp2_with fail
    refine (rmod_any b w).mono ?_
    rintro e w1 ⟨rfl, rfl⟩
    generalize a % 65536 = x at *
    generalize b % 65536 = y at *
    go_wp2
    go_ret
    exact ⟨ret_i he.out.symm, rfl⟩

end Go.Proofs.YtjafjapnmffohaaGreatDoor

namespace Go.Proofs.YtjafjapnmffohaaGreatDoor

/-- all numbers of two bytes together; behind a last byte that is alone a byte 0 is thought -/
def tot : List Int → Int
  | [] => 0
  | [x] => x * 256
  | x :: y :: r => x * 256 + y + tot r
def fold (n : Int) : Int := if n = 0 then 0 else (n - 1) % 65535 + 1
def sumL (xs : List Int) : Int := fold (tot xs)

theorem fold_range (n : Int) : 0 ≤ fold n ∧ fold n ≤ 65535 := by unfold fold; split <;> omega
theorem fold_small {n : Int} (h : 0 ≤ n) (k : n ≤ 65535) : fold n = n := by unfold fold; split <;> omega
theorem jn_fold {a b : Int} (ha : 0 ≤ a) (hb : 0 ≤ b) : jn (fold a) (fold b) = fold (a + b) := by
  have h1 := fold_range a
  have h2 := fold_range b
  unfold jn
  rw [Int.emod_eq_of_lt h1.1 (by omega), Int.emod_eq_of_lt h2.1 (by omega)]
  by_cases h3 : a = 0
  · subst h3
    have e : fold 0 = 0 := rfl
    rw [e, Int.zero_add, Int.zero_add, if_neg (by omega)]
  · by_cases h4 : b = 0
    · subst h4
      have e : fold 0 = 0 := rfl
      rw [e, Int.add_zero, Int.add_zero, if_neg (by omega)]
    · have ea : fold a = (a - 1) % 65535 + 1 := if_neg h3
      have eb : fold b = (b - 1) % 65535 + 1 := if_neg h4
      have es : fold (a + b) = (a + b - 1) % 65535 + 1 := if_neg (by omega)
      rw [ea, eb, es]
      split <;> omega
theorem jn_fold_num {a b : Int} (ha : 0 ≤ a) (hb : 0 ≤ b) (hb2 : b ≤ 65535) : jn (fold a) b = fold (a + b) := by
  have := jn_fold ha hb
  rwa [fold_small hb hb2] at this
theorem jn_mod_right (a b : Int) : jn a (b % 65536) = jn a b := by unfold jn; rw [Int.emod_emod_of_dvd _ (by decide)]
theorem fold_full {a : Int} (h : 0 < a) : fold (a + 65535) = fold a := by unfold fold; rw [if_neg (by omega), if_neg (by omega)]; omega

theorem tot_append : ∀ (xs ys : List Int), xs.length % 2 = 0 → tot (xs ++ ys) = tot xs + tot ys
  | [], ys, _ => by simp [tot]
  | [x], ys, h => by simp at h
  | x :: y :: r, ys, h => by
    have := tot_append r ys (by simp at h; omega)
    simp only [List.cons_append, tot, this]
    omega
theorem tot_nonneg : ∀ (xs : List Int), AllB xs → 0 ≤ tot xs
  | [], _ => by simp [tot]
  | [x], h => by have := h x (by simp); simp only [tot]; omega
  | x :: y :: r, h => by
    have h1 := h x (by simp)
    have h2 := h y (by simp)
    have h3 := tot_nonneg r (fun z hz => h z (by simp [hz]))
    simp only [tot]; omega
theorem tot_zero : ∀ (xs : List Int), AllB xs → zerosB xs = false → 0 < tot xs
  | [], _, h => by simp [zerosB] at h
  | [x], h, k => by have := h x (by simp); simp [zerosB] at k; simp only [tot]; omega
  | x :: y :: r, h, k => by
    have h1 := h x (by simp)
    have h2 := h y (by simp)
    have h3 := tot_nonneg r (fun z hz => h z (by simp [hz]))
    simp only [tot]
    by_cases h4 : zerosB r = false
    · have := tot_zero r (fun z hz => h z (by simp [hz])) h4
      omega
    · simp only [Bool.not_eq_false] at h4
      have : ¬ (x = 0 ∧ y = 0) := by
        rintro ⟨rfl, rfl⟩
        simp only [zerosB, List.all_cons] at k h4
        rw [h4] at k
        simp at k
      omega
theorem tot_last0 : ∀ (xs : List Int), xs.length % 2 = 1 → tot (xs ++ [0]) = tot xs
  | [], h => by simp at h
  | [x], _ => by simp [tot]
  | x :: y :: r, h => by
    have := tot_last0 r (by simp at h; omega)
    simp only [List.cons_append, tot, this]

theorem take_two (xs : List Int) (p : Nat) (h : p + 2 ≤ xs.length) : xs.take (p + 2) = xs.take p ++ [xs.getD p 0, xs.getD (p + 1) 0] := by
  have e0 : xs.getD p 0 = xs[p] := by simp [List.getD, show p < xs.length by omega]
  have e1 : xs.getD (p + 1) 0 = xs[p + 1] := by simp [List.getD, show p + 1 < xs.length by omega]
  rw [show p + 2 = (p + 1) + 1 from rfl, List.take_succ_eq_append_getElem (by omega), List.take_succ_eq_append_getElem (by omega), e0, e1, List.append_assoc]
  rfl
theorem tot_take (xs : List Int) (k : Nat) (h : 2 * k + 2 ≤ xs.length) : tot (xs.take (2 * (k + 1))) = tot (xs.take (2 * k)) + num2 xs (2 * k) := by
  rw [show 2 * (k + 1) = 2 * k + 2 by omega, take_two xs (2 * k) h, tot_append _ _ (by simp; omega)]
  simp [tot, num2]
theorem tot_odd (xs : List Int) (k : Nat) (h : 2 * k + 1 = xs.length) : tot xs = tot (xs.take (2 * k)) + xs.getD (2 * k) 0 * 256 := by
  have e : xs = xs.take (2 * k) ++ [xs.getD (2 * k) 0] := by
    have h1 : xs.take (2 * k + 1) = xs := List.take_of_length_le (by omega)
    have h2 := List.take_succ_eq_append_getElem (l := xs) (i := 2 * k) (by omega)
    rw [h1] at h2
    have h3 : xs.getD (2 * k) 0 = xs[2 * k] := by simp [List.getD, show 2 * k < xs.length by omega]
    rw [h3]; exact h2
  have h4 := congrArg tot e
  rw [tot_append _ _ (by simp; omega)] at h4
  simpa [tot] using h4
theorem num2_range {xs : List Int} (h : AllB xs) (p : Nat) : 0 ≤ num2 xs p ∧ num2 xs p ≤ 65535 := by
  have h1 := h.getD p
  have h2 := h.getD (p + 1)
  unfold num2; omega
theorem num2_last0 (xs : List Int) (p : Nat) : num2 (xs ++ [0]) p = num2 xs p := by
  have e : ∀ i, (xs ++ [0]).getD i 0 = xs.getD i 0 := fun i => by
    simp only [List.getD]
    rcases Nat.lt_or_ge i xs.length with h | h
    · rw [List.getElem?_append_left h]
    · rw [List.getElem?_append_right h, List.getElem?_eq_none h]
      rcases Nat.eq_zero_or_pos (i - xs.length) with h0 | h0
      · rw [h0]; rfl
      · rw [List.getElem?_eq_none (by simp; omega)]
  unfold num2; rw [e, e]

/-- a step of a sum -/
theorem sum_step {xs : List Int} (ha : AllB xs) (k : Nat) (h : 2 * k + 2 ≤ xs.length) : jn (fold (tot (xs.take (2 * k)))) (num2 xs (2 * k)) = fold (tot (xs.take (2 * (k + 1)))) := by
  rw [tot_take xs k h, jn_fold_num (tot_nonneg _ (ha.take _)) (num2_range ha _).1 (num2_range ha _).2]
theorem sum_even {xs : List Int} (k : Nat) (h : xs.length ≤ 2 * k) : fold (tot (xs.take (2 * k))) = sumL xs := by rw [List.take_of_length_le h]; rfl
theorem sum_odd {xs : List Int} (ha : AllB xs) (k : Nat) (h : 2 * k + 1 = xs.length) : jn (fold (tot (xs.take (2 * k)))) (xs.getD (2 * k) 0 * 256) = sumL xs := by
  have h1 := ha.getD (2 * k)
  rw [jn_fold_num (tot_nonneg _ (ha.take _)) (by omega) (by omega), ← tot_odd xs k h]; rfl
theorem sum_append {xs ys : List Int} (hx : AllB xs) (hy : AllB ys) (h : xs.length % 2 = 0) : jn (sumL xs) (sumL ys) = sumL (xs ++ ys) := by
  unfold sumL; rw [jn_fold (tot_nonneg _ hx) (tot_nonneg _ hy), tot_append _ _ h]
theorem sumL_last0 {xs : List Int} (h : xs.length % 2 = 1) : sumL (xs ++ [0]) = sumL xs := by unfold sumL; rw [tot_last0 xs h]
theorem sumL_range (xs : List Int) : 0 ≤ sumL xs ∧ sumL xs ≤ 65535 := fold_range _
theorem sumL_nil : sumL [] = 0 := rfl

/-- two bytes replaced -/
theorem split_two (xs : List Int) (p : Nat) (h : p + 2 ≤ xs.length) : xs = xs.take p ++ [xs.getD p 0, xs.getD (p + 1) 0] ++ xs.drop (p + 2) := by
  rw [← take_two xs p h, List.take_append_drop]
theorem tot_set (xs : List Int) (p : Nat) (x y : Int) (h : p + 2 ≤ xs.length) (he : p % 2 = 0) : tot ((xs.set p x).set (p + 1) y) = tot xs - num2 xs p + (x * 256 + y) := by
  have h1 := congrArg tot (split_two xs p h)
  rw [set_two xs p x y h]
  rw [tot_append _ _ (by simp; omega), tot_append _ _ (by simp; omega)] at h1 ⊢
  simp only [tot, num2] at h1 ⊢
  omega
end Go.Proofs.YtjafjapnmffohaaGreatDoor

namespace Go.Proofs.YtjafjapnmffohaaGreatDoor
open Go.RowKit
set_option linter.unusedVariables false

set_option maxHeartbeats 800000 in
theorem cksum_any (A : Option Addr) (n c : Nat) (xs : List Int) (w : World) (hn : n ≤ 140737488355328) (hb : Bs w w.heap.size A n xs) :
    Calls Tryz.prog 130 #[.slice A n c] w fun e w' => e = .returned (.int .i64 (sumL xs)) ∧ Below w.heap.size w w' := by
  have HA := Lib.hid hb.all
  have HL := Lib.hid hb.len
  go_enter Tryz.func130, Tryz.ntmps130
  go_wp2
  go_loopw [3, 10] (fun s i wr => ∃ k : Nat, 2 * k ≤ n ∧ i = .int .i64 k ∧ s = .int .i64 (fold (tot (xs.take (2 * k)))) ∧ Below w.heap.size w wr) (fun _ i _ => n - (intOf i).toNat)
  case atStart => exact ⟨0, Nat.zero_le _, rfl, rfl, Below.refl _ _⟩
  case round =>
    obtain ⟨k, hk, rfl, rfl, hB⟩ := hrel
    by_cases hlt : 2 * k + 2 ≤ n
    · have HS := Lib.hid (sum_step HA.out k (by rw [HL.out]; exact hlt))
      have hlt' : (k : Int) < (n : Int) / 2 := by omega
      generalize fold (tot (xs.take (2 * k))) = s at *
      go_wp2_with fail
      refine (u16_yes A n c (2 * (k : Int)) (2 * k) xs wr hn (hb.below' hB hB.size) (by omega) (by omega)).mono ?_
      rintro e w1 ⟨rfl, j, rfl⟩
      go_wp2_with fail
      refine (ckjoin_any _ _ _).mono ?_
      rintro e w2 ⟨rfl, rfl⟩
      rw [HS.out]
      have hB2 := below_drewN hB j
      clear hB
      generalize wr.drewN j = w3 at *
      go_wp2
      go_roundw
      case rel => exact ⟨k + 1, by omega, by go_num, rfl, hB2⟩
      case measure => simp [intOf]; omega
    · have hge : ¬ (k : Int) < (n : Int) / 2 := by omega
      by_cases ho : n = 2 * k
      · have HS := Lib.hid (sum_even (xs := xs) k (by rw [HL.out]; omega))
        rw [HS.out]
        have hr : (n : Int) % 2 = 0 := by omega
        go_wp2
        go_ret
        exact ⟨rfl, hB⟩
      · have ho' : 2 * k + 1 = n := by omega
        have HS := Lib.hid (sum_odd HA.out k (by rw [HL.out]; exact ho'))
        have hr : (n : Int) % 2 = 1 := by omega
        obtain ⟨b, o, rfl, hbw, hc⟩ := hb.mem (by omega)
        have h0 := hc (2 * k) (by omega)
        rw [← hB.cell (p := ⟨b, o + 2 * k, none⟩) hbw] at h0
        have r0 := hb.nonneg (2 * k)
        clear hc ho hlt
        subst ho'
        generalize fold (tot (xs.take (2 * k))) = s at *
        generalize xs.getD (2 * k) 0 = x at *
        go_wp2_with fail
        refine (ckjoin_any _ _ _).mono ?_
        rintro e w2 ⟨rfl, rfl⟩
        go_wp2
        go_ret
        exact ⟨ret_i HS.out, hB⟩

set_option maxHeartbeats 800000 in
theorem rsum_even (A : Option Addr) (n c : Nat) (xs : List Int) (w : World) (hn : n ≤ 140737488351232) (hb : Bs w w.heap.size A n xs) (he : n % 2 = 0) :
    Calls Tryz.prog 38 #[.slice A n c] w fun e w' => e = .returned (.int .i64 (sumL xs)) ∧ Below w.heap.size w w' := by
  have HA := Lib.hid hb.all
  have HL := Lib.hid hb.len
  have hr : (n : Int) % 2 = 0 := by omega
  go_enter Tryz.func38, Tryz.ntmps38
  go_wp2
  clear hr
  go_loopw [3, 4] (fun s i wr => ∃ k : Nat, 2 * k ≤ n ∧ i = .int .i64 (2 * k : Int) ∧ s = .int .i64 (fold (tot (xs.take (2 * k)))) ∧ Below w.heap.size w wr) (fun _ i _ => n - (intOf i).toNat)
  case atStart => exact ⟨0, Nat.zero_le _, rfl, rfl, Below.refl _ _⟩
  case round =>
    obtain ⟨k, hk, rfl, rfl, hB⟩ := hrel
    by_cases hlt : 2 * k + 2 ≤ n
    · have HS := Lib.hid (sum_step HA.out k (by rw [HL.out]; exact hlt))
      have hlt' : 2 * (k : Int) < (n : Int) := by omega
      generalize fold (tot (xs.take (2 * k))) = s at *
      go_wp2_with fail
      refine (r16_yes A n c (2 * (k : Int)) (2 * k) xs wr (by omega) (hb.below' hB hB.size) (by omega) (by omega)).mono ?_
      rintro e w1 ⟨rfl, j, rfl⟩
      go_wp2_with fail
      refine (rjoin_any _ _ _).mono ?_
      rintro e w2 ⟨rfl, rfl⟩
      rw [HS.out]
      have hB2 := below_drewN hB j
      clear hB
      generalize wr.drewN j = w3 at *
      go_wp2
      go_roundw
      case rel => exact ⟨k + 1, by omega, by congr 1, rfl, hB2⟩
      case measure => simp [intOf]; omega
    · have hge : ¬ 2 * (k : Int) < (n : Int) := by omega
      have HS := Lib.hid (sum_even (xs := xs) k (by rw [HL.out]; omega))
      rw [HS.out]
      go_wp2
      go_ret
      exact ⟨rfl, hB⟩

set_option maxHeartbeats 800000 in
theorem rsum_odd (A : Option Addr) (n c : Nat) (xs : List Int) (w : World) (hn : n ≤ 140737488351232) (hb : Bs w w.heap.size A n xs) (he : n % 2 = 1) :
    Calls Tryz.prog 38 #[.slice A n c] w fun e w' => e = .returned (.int .i64 (sumL xs)) ∧ Below w.heap.size w w' := by
  obtain ⟨i0, hi, hz0, hz1, hz2⟩ := info_parts info5
  have HI := Lib.hid hi
  have HZ0 := Lib.hid hz0
  have HZ1 := Lib.hid hz1
  have HZ2 := Lib.hid hz2
  clear hi hz0 hz1 hz2
  have HX := Lib.hid (sumL_last0 (xs := xs) (by rw [hb.len]; exact he))
  have hr : (n : Int) % 2 = 1 := by omega
  rw [← HX.out]
  have hB0 : Below w.heap.size w (w.alloc (.cells #[] 5)) := (Below.refl _ _).alloc (Nat.le_refl _) _
  have hO := OwnB.fresh (base := w.heap.size) w 5 (Nat.le_refl _)
  have hs1 := hb.below hB0
  go_enter Tryz.func38, Tryz.ntmps38
  go_wp2_with (first
    | (at_builtin; refine wpList_append_bs rfl (.tmp 11) (.tmp 12) _ rfl w.heap.size 5 i0 Tryz.underlying22 HI.out HZ0.out HZ1.out HZ2.out _ 0 0 [] rfl hO _ _ _ w.heap.size xs rfl hs1 (by omega) hB0.size ?_; intro A1 c1 w1 hO1 hg1 hb1
       rw [Nat.zero_add, List.nil_append] at hO1
       have hB1 : Below w.heap.size w w1 := hB0.grown hg1 hB0.size (fun k hk => (hO.lt k hk).1)
       have hB2 := hB1.alloc hB1.size (.cells #[.int .u8 0] 5)
       have hO2 := hO1.below (Below.alloc (Below.refl _ _) (Nat.le_refl _) (.cells #[.int .u8 0] 5))
       have hk2 : Blk (w1.alloc (.cells #[.int .u8 0] 5)) 5 w1.heap.size [0] := Blk.new w1 5 [0]
       have hs2 := hk2.bs (B := w1.heap.size + 1) (.cons (by omega) (by omega) .nil) (by omega) rfl)
    | (at_builtin; refine wpList_append_bs rfl (.tmp 13) (.tmp 14) _ rfl w.heap.size 5 i0 Tryz.underlying22 HI.out HZ0.out HZ1.out HZ2.out _ n c1 xs rfl hO2 _ _ _ _ [0] rfl hs2 (by omega) hB2.size ?_; intro A3 c3 w3 hO3 hg3 hb3
       have hB3 : Below w.heap.size w w3 := hB2.grown hg3 hB2.size (fun k hk => (hO2.lt k hk).1)))
  have hb3 := hO3.bs (B := w3.heap.size) (Nat.le_refl _)
  have HA := Lib.hid hb3.all
  have HL := Lib.hid hb3.len
  clear hr HX hO3 hg3 hO2 hO1 hg1 hb1 hB1 hB2 hs2 hk2 hs1 hO hB0 hb
  obtain ⟨ys, hys⟩ : ∃ ys, ys = xs ++ [0] := ⟨_, rfl⟩
  rw [← hys] at HA HL hb3
  have HY := Lib.hid (congrArg sumL hys)
  clear hys
  go_loopw [3, 4] (fun s i wr => ∃ k : Nat, 2 * k ≤ n + 1 ∧ i = .int .i64 (2 * k : Int) ∧ s = .int .i64 (fold (tot (ys.take (2 * k)))) ∧ Below w3.heap.size w3 wr) (fun _ i _ => n + 1 - (intOf i).toNat)
  case atStart => exact ⟨0, Nat.zero_le _, rfl, rfl, Below.refl _ _⟩
  case round =>
    obtain ⟨k, hk, rfl, rfl, hB⟩ := hrel
    by_cases hlt : 2 * k + 2 ≤ n + 1
    · have HS := Lib.hid (sum_step HA.out k (by rw [HL.out]; exact hlt))
      have hlt' : 2 * (k : Int) < (n : Int) + 1 := by omega
      generalize fold (tot (ys.take (2 * k))) = s at *
      go_wp2_with fail
      refine (r16_yes A3 (n + 1) c3 (2 * (k : Int)) (2 * k) ys wr (by omega) (hb3.below' hB hB.size) (by omega) (by omega)).mono ?_
      rintro e w4 ⟨rfl, j, rfl⟩
      go_wp2_with fail
      refine (rjoin_any _ _ _).mono ?_
      rintro e w5 ⟨rfl, rfl⟩
      rw [HS.out]
      have hB4 := below_drewN hB j
      clear hB
      generalize wr.drewN j = w6 at *
      go_wp2
      go_roundw
      case rel => exact ⟨k + 1, by omega, by congr 1, rfl, hB4⟩
      case measure => simp [intOf]; omega
    · have hge : ¬ 2 * (k : Int) < (n : Int) + 1 := by omega
      have HS := Lib.hid (sum_even (xs := ys) k (by rw [HL.out]; omega))
      rw [HS.out]
      go_wp2
      go_ret
      exact ⟨ret_i HY.out, hB3.trans (hB.mono hB3.size)⟩

theorem rsum_any (A : Option Addr) (n c : Nat) (xs : List Int) (w : World) (hn : n ≤ 140737488351232) (hb : Bs w w.heap.size A n xs) :
    Calls Tryz.prog 38 #[.slice A n c] w fun e w' => e = .returned (.int .i64 (sumL xs)) ∧ Below w.heap.size w w' := by
  by_cases h : n % 2 = 0
  · exact rsum_even A n c xs w hn hb h
  · exact rsum_odd A n c xs w hn hb (by omega)
end Go.Proofs.YtjafjapnmffohaaGreatDoor

namespace Go.Proofs.YtjafjapnmffohaaGreatDoor
open Go.RowKit
set_option linter.unusedVariables false

theorem Row.four {w : World} {g : Nat} {t : TypeId} {a0 a1 a2 a3 : Option Addr} {n0 c0 n1 c1 n2 c2 n3 c3 : Nat} {xs ys zs us : List Int}
    (hg : w.heap[g]? = some (.cells #[.slice a0 n0 c0, .slice a1 n1 c1, .slice a2 n2 c2, .slice a3 n3 c3] t (0, 0))) (h0 : Bs w w.heap.size a0 n0 xs) (h1 : Bs w w.heap.size a1 n1 ys) (h2 : Bs w w.heap.size a2 n2 zs) (h3 : Bs w w.heap.size a3 n3 us) :
    Row w (some ⟨g, 0, none⟩) [(a0, n0, c0), (a1, n1, c1), (a2, n2, c2), (a3, n3, c3)] [xs, ys, zs, us] := by
  refine ⟨rfl, fun i hi => ?_, fun _ => ⟨g, 0, rfl, (Array.getElem?_eq_some_iff.1 hg).1, fun i hi => ?_⟩⟩
  · match i, hi with
    | 0, _ => exact h0
    | 1, _ => exact h1
    | 2, _ => exact h2
    | 3, _ => exact h3
  · rw [cell_of_row w g _ _ _ _ hg]
    match i, hi with
    | 0, _ => rfl
    | 1, _ => rfl
    | 2, _ => rfl
    | 3, _ => rfl

/-- sums of lists, joined from 0 on -/
def jnAll (yss : List (List Int)) : Int := yss.foldl (fun s ys => jn s (sumL ys)) 0
theorem jnAll_succ (yss : List (List Int)) (k : Nat) (h : k < yss.length) : jnAll (yss.take (k + 1)) = jn (jnAll (yss.take k)) (sumL (yss.getD k [])) := by
  unfold jnAll
  rw [List.take_succ_eq_append_getElem h, List.foldl_append]
  simp [List.getD, h]
theorem jn_zero_sum (xs : List Int) : jn 0 (sumL xs) = sumL xs := by
  have := sumL_range xs
  unfold jn
  rw [if_neg (by omega)]
  omega
theorem jnAll_four {xs ys zs us : List Int} (hx : AllB xs) (hy : AllB ys) (hz : AllB zs) (hu : AllB us) (h0 : xs.length % 2 = 0) (h1 : ys.length % 2 = 0) (h2 : zs.length % 2 = 0) :
    jnAll [xs, ys, zs, us] = sumL (xs ++ ys ++ zs ++ us) := by
  show jn (jn (jn (jn 0 (sumL xs)) (sumL ys)) (sumL zs)) (sumL us) = _
  rw [jn_zero_sum, sum_append hx hy h0, sum_append (hx.append hy) hz (by rw [List.length_append]; omega), sum_append ((hx.append hy).append hz) hu (by rw [List.length_append, List.length_append]; omega)]

set_option maxHeartbeats 800000 in
theorem total_any (A : Option Addr) (m c : Nat) (vs : List (Option Addr × Nat × Nat)) (yss : List (List Int)) (w : World) (hm : vs.length = m) (hm2 : m ≤ 140737488355328) (hr : Row w A vs yss)
    (hv : ∀ i, i < m → (vs.getD i (none, 0, 0)).2.1 ≤ 140737488355328) :
    Calls Tryz.prog 132 #[.slice A m c] w fun e w' => e = .returned (.int .i64 (jnAll yss)) ∧ Below w.heap.size w w' := by
  have HM := Lib.hid hm
  have HV := Lib.hid hv
  clear hm hv
  go_enter Tryz.func132, Tryz.ntmps132
  go_wp2
  go_loopw [3, 8] (fun s i wr => ∃ k : Nat, k ≤ m ∧ i = .int .i64 k ∧ s = .int .i64 (jnAll (yss.take k)) ∧ Below w.heap.size w wr) (fun _ i _ => m - (intOf i).toNat)
  case atStart => exact ⟨0, Nat.zero_le _, rfl, rfl, Below.refl _ _⟩
  case round =>
    obtain ⟨k, hk, rfl, rfl, hB⟩ := hrel
    by_cases hlt : k < m
    · have hr2 := hr.below hB
      have HS := Lib.hid (jnAll_succ yss k (by rw [hr.len, HM.out]; exact hlt))
      obtain ⟨b, o, rfl, _, hc⟩ := hr2.mem (by rw [HM.out]; omega)
      obtain ⟨a, n, cc, hve⟩ : ∃ a n cc, vs.getD k (none, 0, 0) = (a, n, cc) := ⟨_, _, _, rfl⟩
      have h0 := hc k (by rw [HM.out]; omega)
      have hb := hr2.each k (by rw [HM.out]; omega)
      have hn := HV.out k hlt
      rw [hve] at h0 hb hn
      dsimp only at h0 hb hn
      clear hc hr2 hve
      generalize yss.getD k [] = ys at *
      go_wp2_with fail
      refine (cksum_any a n cc ys wr hn hb).mono ?_
      rintro e w1 ⟨rfl, hB1⟩
      have hB2 := hB.trans (hB1.mono hB.size)
      clear hB1 hb h0 hB
      go_wp2_with fail
      refine (ckjoin_any _ _ _).mono ?_
      rintro e w2 ⟨rfl, rfl⟩
      rw [← HS.out]
      go_wp2
      go_roundw
      case rel => exact ⟨k + 1, by omega, by go_num, rfl, hB2⟩
      case measure => simp [intOf]; omega
    · obtain rfl : k = m := by omega
      have HT := Lib.hid (show yss.take k = yss from List.take_of_length_le (by rw [hr.len, HM.out]; omega))
      go_wp2
      go_ret
      exact ⟨ret_i (by rw [HT.out]), hB⟩
end Go.Proofs.YtjafjapnmffohaaGreatDoor

namespace Go.Proofs.YtjafjapnmffohaaGreatDoor
open Go.RowKit
set_option linter.unusedVariables false

/-- what is thought ahead -/
def pseudoL (s d : List Int) (len next : Int) : List Int := s ++ d ++ four (len % 4294967296) ++ [0, 0, 0, next % 256]

set_option maxHeartbeats 800000 in
theorem pseudo_any (s d : List Int) (len next : Int) (w : World) (hs : s.length = 16) (hd : d.length = 16) (vs : AllB s) (vd : AllB d) (hl : i64ok len) (hx : i64ok next) :
    Calls Tryz.prog 129 #[addrV s, addrV d, .int .i64 len, .int .i64 next] w fun e w' => e = .returned (.int .i64 (sumL (pseudoL s d len next))) ∧ Below w.heap.size w w' := by
  unfold i64ok at hl hx
  unfold addrV
  have HS := Lib.hid hs
  have HD := Lib.hid hd
  clear hs hd
  go_enter Tryz.func129, Tryz.ntmps129
  have hL : Low w ((w.alloc (.cells (cellsB s).toArray 24)).alloc (.cells (cellsB d).toArray 24)) := (Low.alloc w _).trans (Low.alloc _ _)
  have hS : Bs ((w.alloc (.cells (cellsB s).toArray 24)).alloc (.cells (cellsB d).toArray 24)) (w.heap.size + 1 + 1) (some ⟨w.heap.size, 0, none⟩) 16 s :=
    ((Blk.new w 24 s).alloc _).bs vs (by omega) HS.out
  have hD : Bs ((w.alloc (.cells (cellsB s).toArray 24)).alloc (.cells (cellsB d).toArray 24)) (w.heap.size + 1 + 1) (some ⟨w.heap.size + 1, 0, none⟩) 16 d := by
    have := Blk.new (w.alloc (.cells (cellsB s).toArray 24)) 24 d
    rw [show (w.alloc (.cells (cellsB s).toArray 24)).heap.size = w.heap.size + 1 by simp] at this
    exact this.bs vd (by omega) HD.out
  have hz : ((w.alloc (.cells (cellsB s).toArray 24)).alloc (.cells (cellsB d).toArray 24)).heap.size = w.heap.size + 1 + 1 := by simp
  rw [← hz] at hS hD
  clear hz
  go_wp2_with fail
  generalize (w.alloc (.cells (cellsB s).toArray 24)).alloc (.cells (cellsB d).toArray 24) = w1 at *
  refine wp_region_plan (.rd 0 (.rd 1 (.rd 2 (.rd 3 (.rd 5 (.rd 6 (.fork 4 (.act 7 (.act 8 (.act 9 (.rd 10 .done)))) 7 (.act 4 (.act 8 (.act 9 (.rd 10 .done)))))))))))
    (by kernel_rfl) (by kernel_rfl) (fun _ _ d _ _ h => by cases d <;> exact h) (by kernel_rfl) ?_
  replace hL := hL.trans (Below.drew (Below.refl w1.heap.size w1))
  replace hS : Bs w1.drew w1.drew.heap.size (some ⟨w.heap.size, 0, none⟩) 16 s := hS.drew
  replace hD : Bs w1.drew w1.drew.heap.size (some ⟨w.heap.size + 1, 0, none⟩) 16 d := hD.drew
  generalize w1.drew = w2 at *
  generalize w.heap.size = gs at *
  iterate 6 (refine walkP_read (v := _) rfl (by rfl) (by intro y hy; go_simp; try rfl) ?_; simp only [Act.put, List.setIfInBounds_toArray, List.set_cons_zero, List.set_cons_succ])
  rw [show IntKind.u32.wrap len = len % 4294967296 by simp [IntKind.wrap, IntKind.bits, IntKind.signed], show IntKind.u8.wrap next = next % 256 by simp [IntKind.wrap, IntKind.bits, IntKind.signed]]
  have hl2 : 0 ≤ len % 4294967296 ∧ len % 4294967296 < 4294967296 := by omega
  have hx2 : 0 ≤ next % 256 ∧ next % 256 < 256 := by omega
  have HP := Lib.hid (show pseudoL s d len next = s ++ d ++ four (len % 4294967296) ++ [0, 0, 0, next % 256] from rfl)
  generalize len % 4294967296 = l4 at *
  generalize next % 256 = x1 at *
  refine walkP_fork ?one ?two
  case' one =>
    refine walkP_act rfl (by rfl) (fun K hK => ?_)
    go_simp
    refine (put32_any none 0 0 l4 [] w2 (by omega) hl2 (Bs.nil _ _ _)).mono ?_
    rintro e w3 ⟨v, rfl, g3, rfl, hg3, hk3, hl3, ha3, hl⟩
    go_simp
    refine hK _ _ hl ?_
    clear hK K
    replace hL := hL.trans hl
    replace hS := hS.below' hl hl.size
    replace hD := hD.below' hl hl.size
    have hb3 := hk3.bs ha3 hk3.lt hl3
    clear hl hk3 ha3 hl3 hg3
    refine walkP_act rfl (by rfl) (fun K hK => ?_)
    go_simp
    refine hK _ _ (Low.alloc _ _) ?_
    clear hK K
    have hl := Low.alloc w3 (.cells #[.int .u8 0, .int .u8 0, .int .u8 0, .int .u8 x1] 5)
    have hk4 := Blk.new w3 5 [0, 0, 0, x1]
    replace hk4 : Blk (w3.alloc (.cells #[.int .u8 0, .int .u8 0, .int .u8 0, .int .u8 x1] 5)) 5 w3.heap.size [0, 0, 0, x1] := hk4
    replace hL := hL.trans hl
    replace hS := hS.below' hl hl.size
    replace hD := hD.below' hl hl.size
    replace hb3 := hb3.below' hl hl.size
    have hb4 := hk4.bs (.cons (by omega) (by omega) (.cons (by omega) (by omega) (.cons (by omega) (by omega) (.cons hx2.1 hx2.2 .nil)))) hk4.lt rfl
    clear hl hk4
    generalize w3.alloc (.cells #[.int .u8 0, .int .u8 0, .int .u8 0, .int .u8 x1] 5) = w5 at *
    generalize w3.heap.size = g4 at *
  case' two =>
    refine walkP_act rfl (by rfl) (fun K hK => ?_)
    go_simp
    refine hK _ _ (Low.alloc _ _) ?_
    clear hK K
    have hl := Low.alloc w2 (.cells #[.int .u8 0, .int .u8 0, .int .u8 0, .int .u8 x1] 5)
    have hk4 := Blk.new w2 5 [0, 0, 0, x1]
    replace hk4 : Blk (w2.alloc (.cells #[.int .u8 0, .int .u8 0, .int .u8 0, .int .u8 x1] 5)) 5 w2.heap.size [0, 0, 0, x1] := hk4
    replace hL := hL.trans hl
    replace hS := hS.below' hl hl.size
    replace hD := hD.below' hl hl.size
    have hb4 := hk4.bs (.cons (by omega) (by omega) (.cons (by omega) (by omega) (.cons (by omega) (by omega) (.cons hx2.1 hx2.2 .nil)))) hk4.lt rfl
    clear hl hk4
    generalize w2.alloc (.cells #[.int .u8 0, .int .u8 0, .int .u8 0, .int .u8 x1] 5) = w4 at *
    generalize w2.heap.size = g4 at *
    refine walkP_act rfl (by rfl) (fun K hK => ?_)
    go_simp
    refine (put32_any none 0 0 l4 [] w4 (by omega) hl2 (Bs.nil _ _ _)).mono ?_
    rintro e w5 ⟨v, rfl, g3, rfl, hg3, hk3, hl3, ha3, hl⟩
    go_simp
    refine hK _ _ hl ?_
    clear hK K
    replace hL := hL.trans hl
    replace hS := hS.below' hl hl.size
    replace hD := hD.below' hl hl.size
    replace hb4 := hb4.below' hl hl.size
    have hb3 := hk3.bs ha3 hk3.lt hl3
    clear hl hk3 ha3 hl3 hg3
  all_goals
    refine walkP_act rfl (by rfl) (fun K hK => ?_)
    go_simp
    refine hK _ _ (Low.alloc _ _) ?_
    clear hK K
    replace hb3 : Bs w5 w5.heap.size (some ⟨g3, 0, none⟩) 4 (four l4) := hb3
    replace hb4 : Bs w5 w5.heap.size (some ⟨g4, 0, none⟩) 4 [0, 0, 0, x1] := hb4
    have hl := Low.alloc w5 (.cells #[.slice (some ⟨gs, 0, none⟩) 16 16, .slice (some ⟨gs + 1, 0, none⟩) 16 16, .slice (some ⟨g3, 0, none⟩) 4 4, .slice (some ⟨g4, 0, none⟩) 4 4] 22)
    have hrow := heap_alloc_new w5 (.cells #[.slice (some ⟨gs, 0, none⟩) 16 16, .slice (some ⟨gs + 1, 0, none⟩) 16 16, .slice (some ⟨g3, 0, none⟩) 4 4, .slice (some ⟨g4, 0, none⟩) 4 4] 22 (0, 0))
    replace hL := hL.trans hl
    replace hS := hS.below' hl hl.size
    replace hD := hD.below' hl hl.size
    replace hb3 := hb3.below' hl hl.size
    replace hb4 := hb4.below' hl hl.size
    clear hl
    generalize w5.alloc (.cells #[.slice (some ⟨gs, 0, none⟩) 16 16, .slice (some ⟨gs + 1, 0, none⟩) 16 16, .slice (some ⟨g3, 0, none⟩) 4 4, .slice (some ⟨g4, 0, none⟩) 4 4] 22) = w6 at *
    generalize w5.heap.size = g6 at *
    have hR := Row.four hrow hS hD hb3 hb4
    have HQ := Lib.hid (jnAll_four hS.all hD.all hb3.all hb4.all (by rw [HS.out]) (by rw [HD.out]) (by simp [four]))
    rw [← HP.out] at HQ
    clear hrow hS hD hb3 hb4
    refine walkP_act rfl (by rfl) (fun K hK => ?_)
    go_simp
    refine (total_any _ 4 4 _ _ w6 rfl (by omega) hR (fun i hi => by match i, hi with | 0, _ => exact (by decide : 16 ≤ 140737488355328) | 1, _ => exact (by decide : 16 ≤ 140737488355328) | 2, _ => exact (by decide : 4 ≤ 140737488355328) | 3, _ => exact (by decide : 4 ≤ 140737488355328))).mono ?_
    rintro e w7 ⟨rfl, hl⟩
    go_simp
    refine hK _ _ hl ?_
    clear hK K hR
    replace hL := hL.trans hl
    clear hl
    iterate 1 (refine walkP_read (v := _) rfl (by rfl) (by intro y hy; go_simp; try rfl) ?_; simp only [Act.put, List.setIfInBounds_toArray, List.set_cons_zero, List.set_cons_succ])
    unfold walkP
    go_wp2
    go_ret
    exact ⟨ret_i HQ.out, hL⟩
end Go.Proofs.YtjafjapnmffohaaGreatDoor

namespace Go.Proofs.YtjafjapnmffohaaGreatDoor
open Go.RowKit
set_option linter.unusedVariables false

set_option maxHeartbeats 800000 in
theorem whole_any (s d : List Int) (next : Int) (A : Option Addr) (n c : Nat) (xs : List Int) (w : World) (hs : s.length = 16) (hd : d.length = 16) (vs : AllB s) (vd : AllB d) (hx : i64ok next) (hn : n ≤ 140737488355328) (hb : Bs w w.heap.size A n xs) :
    Calls Tryz.prog 126 #[addrV s, addrV d, .int .i64 next, .slice A n c] w fun e w' => e = .returned (.int .i64 (jn (sumL (pseudoL s d n next)) (sumL xs))) ∧ Below w.heap.size w w' := by
  unfold addrV
  have HS := Lib.hid hs
  have HD := Lib.hid hd
  have HB0 := Lib.hid (box_first w s d 24 24)
  have HB1 := Lib.hid (box_second w s d 24 24)
  have hL : Low w ((w.alloc (.cells (cellsB s).toArray 24)).alloc (.cells (cellsB d).toArray 24)) := (Low.alloc w _).trans (Low.alloc _ _)
  clear hs hd
  go_enter Tryz.func126, Tryz.ntmps126
  go_wp2_with (first
    | (with_reducible refine wpList_load_addr rfl (.tmp 4) rfl w.heap.size rfl _ s HB0.out HS.out ?_)
    | (with_reducible refine wpList_load_addr rfl (.tmp 5) rfl (w.heap.size + 1) rfl _ d HB1.out HD.out ?_))
  clear HB0 HB1
  generalize (w.alloc (.cells (cellsB s).toArray 24)).alloc (.cells (cellsB d).toArray 24) = w1 at *
  refine (pseudo_any s d n next w1 HS.out HD.out vs vd (by unfold i64ok; omega) hx).mono ?_
  rintro e w2 ⟨rfl, hl⟩
  replace hL := hL.trans hl
  clear hl
  go_wp2_with fail
  refine (cksum_any A n c xs w2 hn (hb.below' hL hL.size)).mono ?_
  rintro e w3 ⟨rfl, hl⟩
  replace hL := hL.trans hl
  clear hl
  go_wp2_with fail
  refine (ckjoin_any _ _ _).mono ?_
  rintro e w4 ⟨rfl, rfl⟩
  go_wp2
  go_ret
  exact ⟨rfl, hL⟩

/-- the check of bytes -/
def chk (s d : List Int) (next : Int) (xs : List Int) : Int := jn (sumL (pseudoL s d xs.length next)) (sumL xs)

def fineB (s d : List Int) (next : Int) (xs : List Int) : Bool := chk s d next xs == 65535
set_option maxHeartbeats 800000 in
theorem fine_any (s d : List Int) (next : Int) (A : Option Addr) (n c : Nat) (xs : List Int) (w : World) (hs : s.length = 16) (hd : d.length = 16) (vs : AllB s) (vd : AllB d) (hx : i64ok next) (hn : n ≤ 140737488355328) (hb : Bs w w.heap.size A n xs) :
    Calls Tryz.prog 115 #[addrV s, addrV d, .int .i64 next, .slice A n c] w fun e w' => e = .returned (.bool (fineB s d next xs)) ∧ Below w.heap.size w w' := by
  have HC := Lib.hid (show fineB s d next xs = (jn (sumL (pseudoL s d n next)) (sumL xs) == 65535) by unfold fineB chk; rw [hb.len])
  unfold addrV
  have HS := Lib.hid hs
  have HD := Lib.hid hd
  have HB0 := Lib.hid (box_first w s d 24 24)
  have HB1 := Lib.hid (box_second w s d 24 24)
  have hL : Low w ((w.alloc (.cells (cellsB s).toArray 24)).alloc (.cells (cellsB d).toArray 24)) := (Low.alloc w _).trans (Low.alloc _ _)
  clear hs hd
  go_enter Tryz.func115, Tryz.ntmps115
  go_wp2_with (first
    | (with_reducible refine wpList_load_addr rfl (.tmp 4) rfl w.heap.size rfl _ s HB0.out HS.out ?_)
    | (with_reducible refine wpList_load_addr rfl (.tmp 5) rfl (w.heap.size + 1) rfl _ d HB1.out HD.out ?_))
  clear HB0 HB1
  generalize (w.alloc (.cells (cellsB s).toArray 24)).alloc (.cells (cellsB d).toArray 24) = w1 at *
  refine (whole_any s d next A n c xs w1 HS.out HD.out vs vd hx hn (hb.below' hL hL.size)).mono ?_
  rintro e w2 ⟨rfl, hl⟩
  replace hL := hL.trans hl
  clear hl
  generalize jn (sumL (pseudoL s d n next)) (sumL xs) = z at *
  go_wp2
  go_ret
  exact ⟨ret_bool (by rw [HC.out]), hL⟩
end Go.Proofs.YtjafjapnmffohaaGreatDoor

namespace Go.Proofs.YtjafjapnmffohaaGreatDoor
open Go.RowKit
set_option linter.unusedVariables false

/-- k bytes of src lie behind pre, in a row of the call's own -/
def GrowRel (t : TypeId) (B m : Nat) (w2 : World) (pre src : List Int) (b i : Value) (wr : World) : Prop :=
  ∃ (k q : Nat) (A : Option Addr) (c : Nat), q = m + k ∧ k ≤ 16 ∧ i = .int .i64 k ∧ b = .slice A q c ∧ OwnB t wr B A q c (pre ++ src.take k) ∧ Below B w2 wr
theorem take_one (xs : List Int) (k : Nat) (h : k < xs.length) : xs.take (k + 1) = xs.take k ++ [xs.getD k 0] := by
  rw [List.take_succ_eq_append_getElem h]
  simp [List.getD, h]
set_option maxRecDepth 100000 in
set_option maxHeartbeats 1000000 in
theorem rpseudo_any (s d : List Int) (len next : Int) (w : World) (hs : s.length = 16) (hd : d.length = 16) (vs : AllB s) (vd : AllB d) (hl : i64ok len) (hx : i64ok next) :
    Calls Tryz.prog 37 #[addrV s, addrV d, .int .i64 len, .int .i64 next] w fun e w' => e = .returned (.int .i64 (sumL (pseudoL s d len next))) ∧ Below w.heap.size w w' := by
  obtain ⟨i0, hi, hz0, hz1, hz2⟩ := info_parts info5
  have HI := Lib.hid hi
  have HZ0 := Lib.hid hz0
  have HZ1 := Lib.hid hz1
  have HZ2 := Lib.hid hz2
  clear hi hz0 hz1 hz2
  unfold i64ok at hl hx
  unfold addrV
  have HS := Lib.hid hs
  have HD := Lib.hid hd
  have HB0 := Lib.hid (box_first w s d 24 24)
  have HB1 := Lib.hid (box_second w s d 24 24)
  have hL : Low w ((w.alloc (.cells (cellsB s).toArray 24)).alloc (.cells (cellsB d).toArray 24)) := (Low.alloc w _).trans (Low.alloc _ _)
  clear hs hd
  go_enter Tryz.func37, Tryz.ntmps37
  go_wp2_with fail
  generalize (w.alloc (.cells (cellsB s).toArray 24)).alloc (.cells (cellsB d).toArray 24) = w2 at *
  go_loopw [9, 10] (fun b i wr => GrowRel 5 w2.heap.size 0 w2 [] s b i wr) (fun _ i _ => 16 - (intOf i).toNat)
  case atStart => exact ⟨0, 0, none, 0, rfl, Nat.zero_le _, rfl, rfl, OwnB.none_ _ _ _, Below.refl _ _⟩
  case round =>
    obtain ⟨k, q, A, c, hq, hk, rfl, rfl, hO, hB⟩ := hrel
    have HQ := Lib.hid hq
    have hqk : q ≤ k := by omega
    clear hq
    by_cases hlt : k < 16
    · have h0 := (HB0.out.below hB HB0.out.lt).cell k
      rw [cellsB_get (by rw [HS.out]; exact hlt)] at h0
      have HT := Lib.hid (take_one s k (by rw [HS.out]; exact hlt))
      have hv := vs.getD k
      generalize s.getD k 0 = x at *
      have hlB := Low.alloc wr (.cells #[.int .u8 x] 5)
      have hB1 := hB.trans (hlB.mono hB.size)
      have hO1 := hO.below hlB
      have hk1 : Blk (wr.alloc (.cells #[.int .u8 x] 5)) 5 wr.heap.size [x] := Blk.new wr 5 [x]
      have hs1 := hk1.bs (B := wr.heap.size + 1) (.cons hv.1 hv.2 .nil) (by omega) rfl
      clear hO hB hlB hk1
      go_wp2_with (at_builtin; refine wpList_append_bs rfl (.tmp 16) (.tmp 20) _ rfl w2.heap.size 5 i0 Tryz.underlying22 HI.out HZ0.out HZ1.out HZ2.out _ q c _ rfl hO1 _ 1 _ _ [x] rfl hs1 (by omega) hB1.size ?_; intro A3 c3 w3 hO3 hg3 hb3)
      have hB3 : Below w2.heap.size w2 w3 := hB1.grown hg3 hB1.size (fun k hk => (hO1.lt k hk).1)
      rw [List.append_assoc, ← HT.out] at hO3
      go_roundw
      case rel => exact ⟨k + 1, q + 1, A3, c3, by rw [HQ.out]; rfl, by omega, by go_num, rfl, hO3, hB3⟩
      case measure => simp [intOf]; omega
    · obtain rfl : k = 16 := by omega
      have HT := Lib.hid (show s.take 16 = s from List.take_of_length_le (by rw [HS.out]; omega))
      rw [HT.out, List.nil_append] at hO
      obtain rfl : q = 16 := HQ.out
      go_wp2_with fail
      go_loopw [9, 11] (fun b i wr => GrowRel 5 w2.heap.size 16 w2 s d b i wr) (fun _ i _ => 16 - (intOf i).toNat)
      case atStart => exact ⟨0, 16, A, c, rfl, Nat.zero_le _, rfl, rfl, by rw [List.take_zero, List.append_nil]; exact hO, hB⟩
      case round =>
        clear hO hB HT
        obtain ⟨k, q, A, c, hq, hk, rfl, rfl, hO, hB⟩ := hrel
        have HQ := Lib.hid hq
        have hqk : q ≤ 16 + k := by omega
        clear hq
        by_cases hlt : k < 16
        · have h0 := (HB1.out.below hB HB1.out.lt).cell k
          rw [cellsB_get (by rw [HD.out]; exact hlt)] at h0
          have HT := Lib.hid (take_one d k (by rw [HD.out]; exact hlt))
          have hv := vd.getD k
          generalize d.getD k 0 = x at *
          rename_i wr0 wr
          have hlB := Low.alloc wr (.cells #[.int .u8 x] 5)
          have hB1 := hB.trans (hlB.mono hB.size)
          have hO1 := hO.below hlB
          have hk1 : Blk (wr.alloc (.cells #[.int .u8 x] 5)) 5 wr.heap.size [x] := Blk.new wr 5 [x]
          have hs1 := hk1.bs (B := wr.heap.size + 1) (.cons hv.1 hv.2 .nil) (by omega) rfl
          clear hO hB hlB hk1
          go_wp2_with (at_builtin; refine wpList_append_bs rfl (.tmp 26) (.tmp 30) _ rfl w2.heap.size 5 i0 Tryz.underlying22 HI.out HZ0.out HZ1.out HZ2.out _ q c _ rfl hO1 _ 1 _ _ [x] rfl hs1 (by omega) hB1.size ?_; intro A3 c3 w3 hO3 hg3 hb3)
          have hB3 : Below w2.heap.size w2 w3 := hB1.grown hg3 hB1.size (fun k hk => (hO1.lt k hk).1)
          rw [List.append_assoc, ← HT.out] at hO3
          go_roundw
          case rel => exact ⟨k + 1, q + 1, A3, c3, by rw [HQ.out]; rfl, by omega, by go_num, rfl, hO3, hB3⟩
          case measure => simp [intOf]; omega
        · obtain rfl : k = 16 := by omega
          have HT := Lib.hid (show d.take 16 = d from List.take_of_length_le (by rw [HD.out]; omega))
          rw [HT.out] at hO
          obtain rfl : q = 32 := HQ.out
          clear HQ HT hqk hlt hk
          have hl4 : 0 ≤ len % 4294967296 ∧ len % 4294967296 < 4294967296 := by omega
          have hx1 : 0 ≤ next % 256 ∧ next % 256 < 256 := by omega
          go_wp2_with fail
          have HP := Lib.hid (show pseudoL s d len next = s ++ d ++ four (len % 4294967296) ++ [0, 0, 0, next % 256] from rfl)
          generalize len % 4294967296 = l4 at *
          refine (rfour_any l4 wr hl4).mono ?_
          rintro e w3 ⟨A3, c3, rfl, hb3, hl3⟩
          have hB1 := hB.trans (hl3.mono hB.size)
          have hO1 := hO.below hl3
          clear hO hB hl3
          go_wp2_with (first
            | (at_builtin; refine wpList_append_bs rfl (.tmp 32) (.tmp 35) _ rfl w2.heap.size 5 i0 Tryz.underlying22 HI.out HZ0.out HZ1.out HZ2.out _ 32 c _ rfl hO1 _ 4 _ _ (four l4) rfl hb3 (by omega) hB1.size ?_; intro A4 c4 w4 hO4 hg4 hb4
               have hB4 : Below w2.heap.size w2 w4 := hB1.grown hg4 hB1.size (fun k hk => (hO1.lt k hk).1)
               have hlB := Low.alloc w4 (.cells #[.int .u8 0, .int .u8 0, .int .u8 0, .int .u8 (next % 256)] 5)
               have hB5 := hB4.trans (hlB.mono hB4.size)
               have hO5 := hO4.below hlB
               have hk5 : Blk (w4.alloc (.cells #[.int .u8 0, .int .u8 0, .int .u8 0, .int .u8 (next % 256)] 5)) 5 w4.heap.size [0, 0, 0, next % 256] := Blk.new w4 5 [0, 0, 0, next % 256]
               have hs5 := hk5.bs (B := w4.heap.size + 1) (.cons (by omega) (by omega) (.cons (by omega) (by omega) (.cons (by omega) (by omega) (.cons hx1.1 hx1.2 .nil)))) (by omega) rfl
               clear hO1 hb3 hB1 hO4 hg4 hb4 hB4 hlB hk5)
            | (at_builtin; refine wpList_append_bs rfl (.tmp 37) (.tmp 40) _ rfl w2.heap.size 5 i0 Tryz.underlying22 HI.out HZ0.out HZ1.out HZ2.out _ 36 c4 _ rfl hO5 _ 4 _ _ [0, 0, 0, next % 256] rfl hs5 (by omega) hB5.size ?_; intro A6 c6 w6 hO6 hg6 hb6
               have hB6 : Below w2.heap.size w2 w6 := hB5.grown hg6 hB5.size (fun k hk => (hO5.lt k hk).1)))
          have hL6 := hL.trans hB6
          have hb7 := hO6.bs (B := w6.heap.size) (Nat.le_refl _)
          rw [← HP.out] at hb7
          clear hO6 hg6 hb6 hB6 hO5 hs5 hB5 HP hx1 hl4
          refine (rsum_any A6 40 c6 _ w6 (by omega) hb7).mono ?_
          rintro e w7 ⟨rfl, hl7⟩
          go_wp2
          go_ret
          exact ⟨rfl, hL6.trans hl7⟩

set_option maxHeartbeats 800000 in
theorem rfine_any (s d : List Int) (next : Int) (A : Option Addr) (n c : Nat) (xs : List Int) (w : World) (hs : s.length = 16) (hd : d.length = 16) (vs : AllB s) (vd : AllB d) (hx : i64ok next) (hn : n ≤ 140737488351232) (hb : Bs w w.heap.size A n xs) :
    Calls Tryz.prog 19 #[addrV s, addrV d, .int .i64 next, .slice A n c] w fun e w' => e = .returned (.bool (fineB s d next xs)) ∧ Below w.heap.size w w' := by
  have HC := Lib.hid (show fineB s d next xs = (jn (sumL (pseudoL s d n next)) (sumL xs) == 65535) by unfold fineB chk; rw [hb.len])
  unfold addrV
  have HS := Lib.hid hs
  have HD := Lib.hid hd
  have HB0 := Lib.hid (box_first w s d 24 24)
  have HB1 := Lib.hid (box_second w s d 24 24)
  have hL : Low w ((w.alloc (.cells (cellsB s).toArray 24)).alloc (.cells (cellsB d).toArray 24)) := (Low.alloc w _).trans (Low.alloc _ _)
  clear hs hd
  go_enter Tryz.func19, Tryz.ntmps19
  go_wp2_with (first
    | (with_reducible refine wpList_load_addr rfl (.tmp 4) rfl w.heap.size rfl _ s HB0.out HS.out ?_)
    | (with_reducible refine wpList_load_addr rfl (.tmp 5) rfl (w.heap.size + 1) rfl _ d HB1.out HD.out ?_))
  clear HB0 HB1
  generalize (w.alloc (.cells (cellsB s).toArray 24)).alloc (.cells (cellsB d).toArray 24) = w1 at *
  refine (rpseudo_any s d n next w1 HS.out HD.out vs vd (by unfold i64ok; omega) hx).mono ?_
  rintro e w2 ⟨rfl, hl⟩
  replace hL := hL.trans hl
  clear hl
  go_wp2_with fail
  refine (rsum_any A n c xs w2 hn (hb.below' hL hL.size)).mono ?_
  rintro e w3 ⟨rfl, hl⟩
  replace hL := hL.trans hl
  clear hl
  go_wp2_with fail
  refine (rjoin_any _ _ _).mono ?_
  rintro e w4 ⟨rfl, rfl⟩
  generalize jn (sumL (pseudoL s d n next)) (sumL xs) = z at *
  go_wp2
  go_ret
  exact ⟨ret_bool (by rw [HC.out]), hL⟩
end Go.Proofs.YtjafjapnmffohaaGreatDoor

namespace Go.Proofs.YtjafjapnmffohaaGreatDoor
open Go.RowKit
set_option linter.unusedVariables false

def z16 : List Int := [0, 0, 0, 0, 0, 0, 0, 0, 0, 0, 0, 0, 0, 0, 0, 0]
theorem z16_all : AllB z16 := fun x hx => by simp [z16] at hx; omega

end Go.Proofs.YtjafjapnmffohaaGreatDoor

namespace Go.Proofs.YtjafjapnmffohaaGreatDoor
open Go.RowKit
set_option linter.unusedVariables false

/-- two addresses by value -/
def endsV (s d : List Int) : Value := .agg (cellsB (s ++ d)).toArray
theorem Blk.half1 {w : World} {t : TypeId} {g : Nat} {s d : List Int} (h : Blk w t g (s ++ d)) : w.rangeAt g 0 (cellsB s) := fun j v hv => by
  have hj : j < (cellsB s).length := (List.getElem?_eq_some_iff.1 hv).1
  rw [Nat.zero_add, h.cell j, cellsB_append, List.getElem?_append_left hj]
  exact hv
theorem Blk.half2 {w : World} {t : TypeId} {g : Nat} {s d : List Int} (h : Blk w t g (s ++ d)) (hs : s.length = 16) : w.rangeAt g 16 (cellsB d) := fun j v hv => by
  rw [h.cell (16 + j), cellsB_append, List.getElem?_append_right (by rw [cellsB_length, hs]; omega), cellsB_length, hs, show 16 + j - 16 = j by omega]
  exact hv
theorem wpList_load_half1 {ops : Array Oper} {rest : List Oper} {o : Oper} {a : Act} {w : World} {Q : Exit → Act → World → Prop} (hgd : o.guard = none) (x : Operand) (ho : o.op = .load 24 x)
    (g : Nat) (hx : a.eval x = .pointer (some ⟨g, 0, none⟩)) (t : TypeId) (s d : List Int) (h : Blk w t g (s ++ d)) (hs : s.length = 16)
    (hk : wpList Tryz.prog ops Q rest (a.put o.dst (.agg (cellsB s).toArray)) w) : wpList Tryz.prog ops Q (o :: rest) a w :=
  wpList_load_mid hgd 24 x ho g 0 hx (cellsB s) _ h.half1 Tryz.underlying24 rfl (by rw [addr_size]; simp [cellsB_length, hs]) hk
theorem wpList_load_half2 {ops : Array Oper} {rest : List Oper} {o : Oper} {a : Act} {w : World} {Q : Exit → Act → World → Prop} (hgd : o.guard = none) (x : Operand) (ho : o.op = .load 24 x)
    (g : Nat) (hx : a.eval x = .pointer (some ⟨g, 16, none⟩)) (t : TypeId) (s d : List Int) (h : Blk w t g (s ++ d)) (hs : s.length = 16) (hd : d.length = 16)
    (hk : wpList Tryz.prog ops Q rest (a.put o.dst (.agg (cellsB d).toArray)) w) : wpList Tryz.prog ops Q (o :: rest) a w :=
  wpList_load_mid hgd 24 x ho g 16 hx (cellsB d) _ (h.half2 hs) Tryz.underlying24 rfl (by rw [addr_size]; simp [cellsB_length, hd]) hk

theorem wpList_load_half1_g {ops : Array Oper} {rest : List Oper} {o : Oper} {a : Act} {w : World} {Q : Exit → Act → World → Prop} (hw : Region.wanted o (yielded ops a.tmps) = true) (x : Operand) (ho : o.op = .load 24 x)
    (g : Nat) (hx : a.eval x = .pointer (some ⟨g, 0, none⟩)) (t : TypeId) (s d : List Int) (h : Blk w t g (s ++ d)) (hs : s.length = 16)
    (hk : wpList Tryz.prog ops Q rest (a.put o.dst (.agg (cellsB s).toArray)) w) : wpList Tryz.prog ops Q (o :: rest) a w :=
  wpList_step fun K hK => by
    simp only [hw, if_true]
    exact wp_load_mid 24 x ho g 0 hx (cellsB s) _ h.half1 Tryz.underlying24 rfl (by rw [addr_size]; simp [cellsB_length, hs]) (hK _ _ hk)
theorem wpList_load_half2_g {ops : Array Oper} {rest : List Oper} {o : Oper} {a : Act} {w : World} {Q : Exit → Act → World → Prop} (hw : Region.wanted o (yielded ops a.tmps) = true) (x : Operand) (ho : o.op = .load 24 x)
    (g : Nat) (hx : a.eval x = .pointer (some ⟨g, 16, none⟩)) (t : TypeId) (s d : List Int) (h : Blk w t g (s ++ d)) (hs : s.length = 16) (hd : d.length = 16)
    (hk : wpList Tryz.prog ops Q rest (a.put o.dst (.agg (cellsB d).toArray)) w) : wpList Tryz.prog ops Q (o :: rest) a w :=
  wpList_step fun K hK => by
    simp only [hw, if_true]
    exact wp_load_mid 24 x ho g 16 hx (cellsB d) _ (h.half2 hs) Tryz.underlying24 rfl (by rw [addr_size]; simp [cellsB_length, hd]) (hK _ _ hk)
theorem exec_half1 {f : Operand → Value} {dd : Option Tmp} {x : Operand} {ty : TypeId} {pos : String} {gd : Option (Nat × Bool)} {w : World} {t : TypeId} {g : Nat} {s d : List Int} (hx : f x = .pointer (some ⟨g, 0, none⟩)) (h : Blk w t g (s ++ d)) (hs : s.length = 16) :
    (execOp f ⟨dd, .load 24 x, ty, pos, #[], gd⟩).run Tryz.prog w = .ok (.value (.agg (cellsB s).toArray)) w := by
  unfold execOp
  simp only [hx, Instr.loadAt, Instr.sureAddr, Sem.run_bind, Sem.run_pure, Result.andThen_ok, run_loadVar_mid w g 0 24 (cellsB s) _ h.half1 Tryz.underlying24 rfl (by rw [addr_size]; simp [cellsB_length, hs])]
theorem exec_half2 {f : Operand → Value} {dd : Option Tmp} {x : Operand} {ty : TypeId} {pos : String} {gd : Option (Nat × Bool)} {w : World} {t : TypeId} {g : Nat} {s d : List Int} (hx : f x = .pointer (some ⟨g, 16, none⟩)) (h : Blk w t g (s ++ d)) (hs : s.length = 16) (hd : d.length = 16) :
    (execOp f ⟨dd, .load 24 x, ty, pos, #[], gd⟩).run Tryz.prog w = .ok (.value (.agg (cellsB d).toArray)) w := by
  unfold execOp
  simp only [hx, Instr.loadAt, Instr.sureAddr, Sem.run_bind, Sem.run_pure, Result.andThen_ok, run_loadVar_mid w g 16 24 (cellsB d) _ (h.half2 hs) Tryz.underlying24 rfl (by rw [addr_size]; simp [cellsB_length, hd])]

theorem pseudoL_all {s d : List Int} (vs : AllB s) (vd : AllB d) (len next : Int) : AllB (pseudoL s d len next) :=
  ((vs.append vd).append (four_all _ (by omega))).append (.cons (by omega) (by omega) (.cons (by omega) (by omega) (.cons (by omega) (by omega) (.cons (by omega) (by omega) .nil))))
theorem chk_fold {s d xs : List Int} (vs : AllB s) (vd : AllB d) (vx : AllB xs) (next : Int) : chk s d next xs = fold (tot (pseudoL s d xs.length next) + tot xs) :=
  jn_fold (tot_nonneg _ (pseudoL_all vs vd _ _)) (tot_nonneg _ vx)
theorem fine_law {s d xs : List Int} (vs : AllB s) (vd : AllB d) (vx : AllB xs) (next : Int) (p : Nat) (h : p + 2 ≤ xs.length) (he : p % 2 = 0) (h0 : xs.getD p 0 = 0) (h1 : xs.getD (p + 1) 0 = 0) :
    fineB s d next ((xs.set p (nt (chk s d next xs) / 256 % 256)).set (p + 1) (nt (chk s d next xs) % 256)) = true := by
  have hn := nt_range (chk s d next xs)
  have ha : AllB ((xs.set p (nt (chk s d next xs) / 256 % 256)).set (p + 1) (nt (chk s d next xs) % 256)) := (vx.set p (by omega) (by omega)).set (p + 1) (by omega) (by omega)
  have ht := tot_set xs p (nt (chk s d next xs) / 256 % 256) (nt (chk s d next xs) % 256) h he
  have hz : num2 xs p = 0 := by unfold num2; rw [h0, h1]; rfl
  rw [hz] at ht
  unfold fineB
  rw [chk_fold vs vd ha, List.length_set, List.length_set, ht]
  have hP := tot_nonneg _ (pseudoL_all vs vd xs.length next)
  have hX := tot_nonneg _ vx
  have e : nt (chk s d next xs) = 65535 - chk s d next xs := by
    rw [chk_fold vs vd vx]
    have := fold_range (tot (pseudoL s d xs.length next) + tot xs)
    unfold nt; omega
  have hf := fold_range (tot (pseudoL s d xs.length next) + tot xs)
  rw [chk_fold vs vd vx] at e hn ⊢
  generalize tot (pseudoL s d xs.length next) = a at *
  generalize tot xs = b at *
  have hj := jn_fold_num (a := a + b) (by omega) hn.1 hn.2
  rw [show a + (b - 0 + (nt (fold (a + b)) / 256 % 256 * 256 + nt (fold (a + b)) % 256)) = a + b + nt (fold (a + b)) by omega, ← hj, e]
  unfold jn
  rw [if_neg (by omega)]
  simp
  omega
end Go.Proofs.YtjafjapnmffohaaGreatDoor
