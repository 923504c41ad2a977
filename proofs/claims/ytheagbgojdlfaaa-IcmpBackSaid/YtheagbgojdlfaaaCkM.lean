/- Sums of 16 bits as numbers: what is joined is the whole sum, folded; parts of an even length add up. No condition. -/
import Derived.Test.YtheagbgojdlfaaaCkA
import Derived.Test.YtheagbgojdlfaaaRefA
namespace Go.Proofs.Ytheagbgojdlfaaa

/-- all numbers of two bytes together; behind a last byte that is alone a byte 0 is thought -/
def tot : List Int → Int
  | [] => 0
  | [x] => x * 256
  | x :: y :: r => x * 256 + y + tot r
def fold (n : Int) : Int := if n = 0 then 0 else (n - 1) % 65535 + 1
def sumL (xs : List Int) : Int := fold (tot xs)

theorem fold_range (n : Int) : 0 ≤ fold n ∧ fold n ≤ 65535 := by unfold fold; split <;> omega
theorem fold_small {n : Int} (h : 0 ≤ n) (k : n ≤ 65535) : fold n = n := by unfold fold; split <;> omega
theorem jn_fold {a b : Int} (ha : 0 ≤ a) (hb : 0 ≤ b) : jn (fold a) (fold b) = fold (a + b) := by
  have h1 := fold_range a
  have h2 := fold_range b
  unfold jn
  rw [Int.emod_eq_of_lt h1.1 (by omega), Int.emod_eq_of_lt h2.1 (by omega)]
  by_cases h3 : a = 0
  · subst h3
    have e : fold 0 = 0 := rfl
    rw [e, Int.zero_add, Int.zero_add, if_neg (by omega)]
  · by_cases h4 : b = 0
    · subst h4
      have e : fold 0 = 0 := rfl
      rw [e, Int.add_zero, Int.add_zero, if_neg (by omega)]
    · have ea : fold a = (a - 1) % 65535 + 1 := if_neg h3
      have eb : fold b = (b - 1) % 65535 + 1 := if_neg h4
      have es : fold (a + b) = (a + b - 1) % 65535 + 1 := if_neg (by omega)
      rw [ea, eb, es]
      split <;> omega
theorem jn_fold_num {a b : Int} (ha : 0 ≤ a) (hb : 0 ≤ b) (hb2 : b ≤ 65535) : jn (fold a) b = fold (a + b) := by
  have := jn_fold ha hb
  rwa [fold_small hb hb2] at this
theorem jn_mod_right (a b : Int) : jn a (b % 65536) = jn a b := by unfold jn; rw [Int.emod_emod_of_dvd _ (by decide)]
theorem fold_full {a : Int} (h : 0 < a) : fold (a + 65535) = fold a := by unfold fold; rw [if_neg (by omega), if_neg (by omega)]; omega

theorem tot_append : ∀ (xs ys : List Int), xs.length % 2 = 0 → tot (xs ++ ys) = tot xs + tot ys
  | [], ys, _ => by simp [tot]
  | [x], ys, h => by simp at h
  | x :: y :: r, ys, h => by
    have := tot_append r ys (by simp at h; omega)
    simp only [List.cons_append, tot, this]
    omega
theorem tot_nonneg : ∀ (xs : List Int), AllB xs → 0 ≤ tot xs
  | [], _ => by simp [tot]
  | [x], h => by have := h x (by simp); simp only [tot]; omega
  | x :: y :: r, h => by
    have h1 := h x (by simp)
    have h2 := h y (by simp)
    have h3 := tot_nonneg r (fun z hz => h z (by simp [hz]))
    simp only [tot]; omega
theorem tot_zero : ∀ (xs : List Int), AllB xs → zerosB xs = false → 0 < tot xs
  | [], _, h => by simp [zerosB] at h
  | [x], h, k => by have := h x (by simp); simp [zerosB] at k; simp only [tot]; omega
  | x :: y :: r, h, k => by
    have h1 := h x (by simp)
    have h2 := h y (by simp)
    have h3 := tot_nonneg r (fun z hz => h z (by simp [hz]))
    simp only [tot]
    by_cases h4 : zerosB r = false
    · have := tot_zero r (fun z hz => h z (by simp [hz])) h4
      omega
    · simp only [Bool.not_eq_false] at h4
      have : ¬ (x = 0 ∧ y = 0) := by
        rintro ⟨rfl, rfl⟩
        simp only [zerosB, List.all_cons] at k h4
        rw [h4] at k
        simp at k
      omega
theorem tot_last0 : ∀ (xs : List Int), xs.length % 2 = 1 → tot (xs ++ [0]) = tot xs
  | [], h => by simp at h
  | [x], _ => by simp [tot]
  | x :: y :: r, h => by
    have := tot_last0 r (by simp at h; omega)
    simp only [List.cons_append, tot, this]

theorem take_two (xs : List Int) (p : Nat) (h : p + 2 ≤ xs.length) : xs.take (p + 2) = xs.take p ++ [xs.getD p 0, xs.getD (p + 1) 0] := by
  have e0 : xs.getD p 0 = xs[p] := by simp [List.getD, show p < xs.length by omega]
  have e1 : xs.getD (p + 1) 0 = xs[p + 1] := by simp [List.getD, show p + 1 < xs.length by omega]
  rw [show p + 2 = (p + 1) + 1 from rfl, List.take_succ_eq_append_getElem (by omega), List.take_succ_eq_append_getElem (by omega), e0, e1, List.append_assoc]
  rfl
theorem tot_take (xs : List Int) (k : Nat) (h : 2 * k + 2 ≤ xs.length) : tot (xs.take (2 * (k + 1))) = tot (xs.take (2 * k)) + num2 xs (2 * k) := by
  rw [show 2 * (k + 1) = 2 * k + 2 by omega, take_two xs (2 * k) h, tot_append _ _ (by simp; omega)]
  simp [tot, num2]
theorem tot_odd (xs : List Int) (k : Nat) (h : 2 * k + 1 = xs.length) : tot xs = tot (xs.take (2 * k)) + xs.getD (2 * k) 0 * 256 := by
  have e : xs = xs.take (2 * k) ++ [xs.getD (2 * k) 0] := by
    have h1 : xs.take (2 * k + 1) = xs := List.take_of_length_le (by omega)
    have h2 := List.take_succ_eq_append_getElem (l := xs) (i := 2 * k) (by omega)
    rw [h1] at h2
    have h3 : xs.getD (2 * k) 0 = xs[2 * k] := by simp [List.getD, show 2 * k < xs.length by omega]
    rw [h3]; exact h2
  have h4 := congrArg tot e
  rw [tot_append _ _ (by simp; omega)] at h4
  simpa [tot] using h4
theorem num2_range {xs : List Int} (h : AllB xs) (p : Nat) : 0 ≤ num2 xs p ∧ num2 xs p ≤ 65535 := by
  have h1 := h.getD p
  have h2 := h.getD (p + 1)
  unfold num2; omega
theorem num2_last0 (xs : List Int) (p : Nat) : num2 (xs ++ [0]) p = num2 xs p := by
  have e : ∀ i, (xs ++ [0]).getD i 0 = xs.getD i 0 := fun i => by
    simp only [List.getD]
    rcases Nat.lt_or_ge i xs.length with h | h
    · rw [List.getElem?_append_left h]
    · rw [List.getElem?_append_right h, List.getElem?_eq_none h]
      rcases Nat.eq_zero_or_pos (i - xs.length) with h0 | h0
      · rw [h0]; rfl
      · rw [List.getElem?_eq_none (by simp; omega)]
  unfold num2; rw [e, e]

/-- a step of a sum -/
theorem sum_step {xs : List Int} (ha : AllB xs) (k : Nat) (h : 2 * k + 2 ≤ xs.length) : jn (fold (tot (xs.take (2 * k)))) (num2 xs (2 * k)) = fold (tot (xs.take (2 * (k + 1)))) := by
  rw [tot_take xs k h, jn_fold_num (tot_nonneg _ (ha.take _)) (num2_range ha _).1 (num2_range ha _).2]
theorem sum_even {xs : List Int} (k : Nat) (h : xs.length ≤ 2 * k) : fold (tot (xs.take (2 * k))) = sumL xs := by rw [List.take_of_length_le h]; rfl
theorem sum_odd {xs : List Int} (ha : AllB xs) (k : Nat) (h : 2 * k + 1 = xs.length) : jn (fold (tot (xs.take (2 * k)))) (xs.getD (2 * k) 0 * 256) = sumL xs := by
  have h1 := ha.getD (2 * k)
  rw [jn_fold_num (tot_nonneg _ (ha.take _)) (by omega) (by omega), ← tot_odd xs k h]; rfl
theorem sum_append {xs ys : List Int} (hx : AllB xs) (hy : AllB ys) (h : xs.length % 2 = 0) : jn (sumL xs) (sumL ys) = sumL (xs ++ ys) := by
  unfold sumL; rw [jn_fold (tot_nonneg _ hx) (tot_nonneg _ hy), tot_append _ _ h]
theorem sumL_last0 {xs : List Int} (h : xs.length % 2 = 1) : sumL (xs ++ [0]) = sumL xs := by unfold sumL; rw [tot_last0 xs h]
theorem sumL_range (xs : List Int) : 0 ≤ sumL xs ∧ sumL xs ≤ 65535 := fold_range _
theorem sumL_nil : sumL [] = 0 := rfl

/-- two bytes replaced -/
theorem split_two (xs : List Int) (p : Nat) (h : p + 2 ≤ xs.length) : xs = xs.take p ++ [xs.getD p 0, xs.getD (p + 1) 0] ++ xs.drop (p + 2) := by
  rw [← take_two xs p h, List.take_append_drop]
theorem tot_set (xs : List Int) (p : Nat) (x y : Int) (h : p + 2 ≤ xs.length) (he : p % 2 = 0) : tot ((xs.set p x).set (p + 1) y) = tot xs - num2 xs p + (x * 256 + y) := by
  have h1 := congrArg tot (split_two xs p h)
  rw [set_two xs p x y h]
  rw [tot_append _ _ (by simp; omega), tot_append _ _ (by simp; omega)] at h1 ⊢
  simp only [tot, num2] at h1 ⊢
  omega
end Go.Proofs.Ytheagbgojdlfaaa
