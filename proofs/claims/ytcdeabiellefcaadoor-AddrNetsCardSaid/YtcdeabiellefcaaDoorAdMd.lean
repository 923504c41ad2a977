/- Plain mathematics of layer 3: the first bits of addresses. Condition: they are 16 bytes. -/
import Derived.Test.YtcdeabiellefcaaDoorAdMc
namespace Go.Proofs.YtcdeabiellefcaaDoor

def bt (x : Int) (j : Nat) : Bool := x / 2 ^ (7 - j) % 2 == 1
def sumB (f : Nat → Bool) : Nat → Int
  | 0 => 0
  | k + 1 => sumB f k + if f k then 2 ^ (7 - k) else 0
theorem sumB_congr {f g : Nat → Bool} : ∀ k, (∀ j, j < k → f j = g j) → sumB f k = sumB g k
  | 0, _ => rfl
  | k + 1, h => by rw [sumB, sumB, sumB_congr k (fun j hj => h j (by omega)), h k (by omega)]
theorem pre_tab : ∀ x : Fin 256, ∀ k : Fin 9, pre8 (x.val : Int) k.val = sumB (bt (x.val : Int)) k.val ∧ pre8 (pre8 (x.val : Int) k.val) k.val = pre8 (x.val : Int) k.val ∧ 0 ≤ pre8 (x.val : Int) k.val ∧ pre8 (x.val : Int) k.val < 256 := by decide +kernel
theorem pre_bits : ∀ x : Fin 256, ∀ k : Fin 9, ∀ j : Fin 8, j.val < k.val → bt (pre8 (x.val : Int) k.val) j.val = bt (x.val : Int) j.val := by decide +kernel
section
variable {x y : Int} {k : Nat}
theorem pre_facts (h0 : 0 ≤ x) (h1 : x < 256) (hk : k ≤ 8) : pre8 x k = sumB (bt x) k ∧ pre8 (pre8 x k) k = pre8 x k ∧ 0 ≤ pre8 x k ∧ pre8 x k < 256 := by
  have h := pre_tab ⟨x.toNat, by omega⟩ ⟨k, by omega⟩
  simp only [Int.toNat_of_nonneg h0] at h
  exact h
theorem pre_bit (h0 : 0 ≤ x) (h1 : x < 256) (hk : k ≤ 8) {j : Nat} (hj : j < k) : bt (pre8 x k) j = bt x j := by
  have h := pre_bits ⟨x.toNat, by omega⟩ ⟨k, by omega⟩ ⟨j, by omega⟩ hj
  simp only [Int.toNat_of_nonneg h0] at h
  exact h
theorem pre_iff (h0 : 0 ≤ x) (h1 : x < 256) (g0 : 0 ≤ y) (g1 : y < 256) (hk : k ≤ 8) : pre8 x k = pre8 y k ↔ ∀ j, j < k → bt x j = bt y j := by
  constructor
  · intro h j hj
    rw [← pre_bit h0 h1 hk hj, ← pre_bit g0 g1 hk hj, h]
  · intro h
    rw [(pre_facts h0 h1 hk).1, (pre_facts g0 g1 hk).1]
    exact sumB_congr k h
theorem pre_full (x : Int) : pre8 x 8 = x := by
  unfold pre8
  simp
end

theorem bitB_bt (s : List Int) (i : Nat) : bitB s i = bt (s.getD (i / 8) 0) (i % 8) := rfl
theorem keep_le (n : Int) (i : Nat) : keepN n i ≤ 8 := by unfold keepN; omega
theorem clamp_eq (n : Int) : clampN n = ((min n.toNat 128 : Nat) : Int) := by unfold clampN; split <;> (try split) <;> omega
theorem keep_iff (n : Int) (i j : Nat) (hj : j < 8) : j < keepN (clampN n) i ↔ 8 * i + j < min n.toNat 128 := by
  rw [clamp_eq]; unfold keepN; omega
theorem pref_all {s : List Int} (vs : AllB s) (n : Int) : AllB (prefL s n) := fun x hx => by
  obtain ⟨i, _, rfl⟩ := List.mem_map.1 hx
  have v := vs.getD i
  have := pre_facts v.1 v.2 (keep_le (clampN n) i)
  exact ⟨this.2.2.1, this.2.2.2⟩
theorem pref_ext {s d : List Int} {n m : Int} (h : ∀ i, i < 16 → (prefL s n).getD i 0 = (prefL d m).getD i 0) : prefL s n = prefL d m := by
  apply List.ext_getElem?
  intro i
  by_cases hi : i < 16
  · have := h i hi
    simp only [List.getD] at this
    have h1 : i < (prefL s n).length := by rw [prefL_length]; exact hi
    have h2 : i < (prefL d m).length := by rw [prefL_length]; exact hi
    rw [List.getElem?_eq_getElem h1, List.getElem?_eq_getElem h2] at this ⊢
    exact congrArg some this
  · rw [List.getElem?_eq_none (by rw [prefL_length]; omega), List.getElem?_eq_none (by rw [prefL_length]; omega)]
theorem pref_iff {s d : List Int} (vs : AllB s) (vd : AllB d) (n : Int) : prefL s n = prefL d n ↔ ∀ m, m < min n.toNat 128 → bitB s m = bitB d m := by
  constructor
  · intro h m hm
    have hi : m / 8 < 16 := by omega
    have e := congrArg (fun l => l.getD (m / 8) 0) h
    simp only [prefL_getD _ _ _ hi] at e
    have v := vs.getD (m / 8)
    have u := vd.getD (m / 8)
    exact (pre_iff v.1 v.2 u.1 u.2 (keep_le _ _)).1 e (m % 8) ((keep_iff n (m / 8) (m % 8) (by omega)).2 (by omega))
  · intro h
    refine pref_ext fun i hi => ?_
    rw [prefL_getD _ _ _ hi, prefL_getD _ _ _ hi]
    have v := vs.getD i
    have u := vd.getD i
    refine (pre_iff v.1 v.2 u.1 u.2 (keep_le _ _)).2 fun j hj => ?_
    have hj8 : j < 8 := Nat.lt_of_lt_of_le hj (keep_le _ _)
    have := h (8 * i + j) ((keep_iff n i j hj8).1 hj)
    rw [bitB_bt, bitB_bt, show (8 * i + j) / 8 = i by omega, show (8 * i + j) % 8 = j by omega] at this
    exact this
theorem in_same {s d : List Int} (vs : AllB s) (vd : AllB d) (n : Int) : inB s d n = rinB s d n := by
  unfold inB rinB
  rw [Bool.eq_iff_iff, beq_iff_eq, pref_iff vs vd n, List.all_eq_true]
  simp
theorem pref_again {s : List Int} (vs : AllB s) (n : Int) : prefL (prefL s n) n = prefL s n := by
  refine pref_ext fun i hi => ?_
  rw [prefL_getD _ _ _ hi, prefL_getD _ _ _ hi]
  have v := vs.getD i
  exact (pre_facts v.1 v.2 (keep_le _ _)).2.1
theorem pref_self {s : List Int} (vs : AllB s) (n : Int) : rinB (prefL s n) s n = true := by
  rw [← in_same (pref_all vs n) vs n]
  unfold inB
  rw [pref_again vs n]
  simp
theorem pref_whole {s : List Int} (h : s.length = 16) : prefL s 128 = s := by
  apply List.ext_getElem?
  intro i
  by_cases hi : i < 16
  · have e : (prefL s 128)[i]? = some ((prefL s 128).getD i 0) := by
      have h1 : i < (prefL s 128).length := by rw [prefL_length]; exact hi
      simp only [List.getD]
      rw [List.getElem?_eq_getElem h1]; rfl
    have e2 : s[i]? = some (s.getD i 0) := by simp [List.getD, show i < s.length by omega]
    rw [e, e2, prefL_getD _ _ _ hi, show keepN (clampN 128) i = 8 by rw [clamp_eq]; unfold keepN; omega, pre_full]
  · rw [List.getElem?_eq_none (by rw [prefL_length]; omega), List.getElem?_eq_none (by omega)]
theorem zero_all : AllB zero16 := fun x hx => by
  obtain rfl : x = 0 := by simpa [zero16] using hx
  omega
theorem pref_zero (n : Int) : prefL zero16 n = zero16 := by
  apply List.ext_getElem?
  intro i
  by_cases hi : i < 16
  · have e : (prefL zero16 n)[i]? = some ((prefL zero16 n).getD i 0) := by
      have h1 : i < (prefL zero16 n).length := by rw [prefL_length]; exact hi
      simp only [List.getD]
      rw [List.getElem?_eq_getElem h1]; rfl
    have h3 : ∀ j : Fin 16, zero16[j.val]? = some 0 := by decide
    have h4 : zero16.getD i 0 = 0 := by simp only [List.getD]; rw [h3 ⟨i, hi⟩]; rfl
    rw [e, h3 ⟨i, hi⟩, prefL_getD _ _ _ hi, h4]
    unfold pre8
    simp
  · rw [List.getElem?_eq_none (by rw [prefL_length]; omega), List.getElem?_eq_none (by show (16 : Nat) ≤ i; omega)]
theorem in_zero {s : List Int} (vs : AllB s) (n : Int) : inB (prefL s n) zero16 128 = rinB s zero16 n := by
  rw [← in_same vs zero_all n]
  unfold inB
  rw [pref_whole (prefL_length s n), pref_zero, pref_zero]
end Go.Proofs.YtcdeabiellefcaaDoor
