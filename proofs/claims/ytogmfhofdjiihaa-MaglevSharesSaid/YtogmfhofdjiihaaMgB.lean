/- Stage 17: turns one behind the other, over and over, till no slot is free; how many slots each member has; shares. No program here; no condition. -/
import Derived.Test.YtogmfhofdjiihaaMgA
set_option maxRecDepth 100000
namespace Go.Proofs.Ytogmfhofdjiihaa
set_option linter.unusedVariables false

/-- whose turn the k-th one is -/
def cycP (seq : List Int) (k : Nat) : Int := seq.getD (k % seq.length) 0
def stepP (o : Int → List Int) (seq : List Int) (t : List Int) (i : Nat) : List Int := turnP (o (cycP seq i)) t (cycP seq i)
/-- the table after k turns -/
def afterP (o : Int → List Int) (seq : List Int) (M k : Nat) : List Int := (List.range k).foldl (stepP o seq) (List.replicate M 0)
/-- how many of the first k turns are n's -/
def numP (seq : List Int) (n : Int) : Nat → Nat
  | 0 => 0
  | k + 1 => numP seq n k + (if cycP seq k = n then 1 else 0)
/-- all have turns in orders of M slots; none is nobody -/
structure TurnsP (o : Int → List Int) (seq : List Int) (M : Nat) : Prop where
  some : 0 < seq.length
  ord : ∀ n ∈ seq, OrderP M (o n)
  node : ∀ n ∈ seq, n ≠ 0
section
variable {o : Int → List Int} {seq : List Int} {M : Nat}
theorem cycP_mem (h : 0 < seq.length) (k : Nat) : cycP seq k ∈ seq := by
  have h1 : k % seq.length < seq.length := Nat.mod_lt _ h
  unfold cycP
  simp [List.getD, h1]
theorem afterP_succ (k : Nat) : afterP o seq M (k + 1) = stepP o seq (afterP o seq M k) k := by
  unfold afterP
  rw [List.range_succ, List.foldl_append]
  rfl
theorem afterP_len : ∀ k, (afterP o seq M k).length = M
  | 0 => by simp [afterP]
  | k + 1 => by
    rw [afterP_succ]
    unfold stepP
    rw [turnP_len, afterP_len k]
/-- as long as slots are free each turn takes one -/
theorem afterP_count (h : TurnsP o seq M) : ∀ k, k ≤ M → (afterP o seq M k).count 0 = M - k ∧ ∀ n : Int, n ≠ 0 → (afterP o seq M k).count n = numP seq n k
  | 0, _ => by
    refine ⟨by simp [afterP], fun n hn => ?_⟩
    have : ((0 : Int) == n) = false := by simpa using fun e => hn e.symm
    simp [afterP, numP, List.count_replicate, this]
  | k + 1, hk => by
    obtain ⟨h0, h1⟩ := afterP_count h k (by omega)
    have hm := cycP_mem h.some k
    have hc := turnP_count (h.ord _ hm) (afterP_len (o := o) (seq := seq) (M := M) k) (h.node _ hm) (by omega)
    rw [afterP_succ]
    unfold stepP
    refine ⟨?_, fun n hn => ?_⟩
    · rw [hc 0, if_pos rfl, h0]
      omega
    · rw [hc n, if_neg hn, h1 n hn]
      rfl
theorem afterP_full (h : TurnsP o seq M) : ∀ k, M ≤ k → afterP o seq M k = afterP o seq M M ∧ (afterP o seq M k).count 0 = 0
  | 0, hk => by
    obtain rfl : M = 0 := by omega
    exact ⟨rfl, by simp [afterP]⟩
  | k + 1, hk => by
    by_cases e : M = k + 1
    · refine ⟨by rw [e], ?_⟩
      rw [(afterP_count h (k + 1) (by omega)).1]
      omega
    · obtain ⟨h0, h1⟩ := afterP_full h k (by omega)
      have hm := cycP_mem h.some k
      have hs : afterP o seq M (k + 1) = afterP o seq M k := by
        rw [afterP_succ]
        exact turnP_full (h.ord _ hm) (afterP_len k) h1
      exact ⟨hs.trans h0, by rw [hs]; exact h1⟩
/-- full just where as many turns are over as there are slots -/
theorem afterP_iff (h : TurnsP o seq M) (k : Nat) : fullP (afterP o seq M k) = true ↔ M ≤ k := by
  rw [fullP_iff]
  constructor
  · intro h0
    rcases Nat.lt_or_ge k M with h1 | h1
    · rw [(afterP_count h k (by omega)).1] at h0
      omega
    · exact h1
  · exact fun h1 => (afterP_full h k h1).2

theorem take_oneP (l : List Int) (k : Nat) (h : k < l.length) : l.take (k + 1) = l.take k ++ [l.getD k 0] := by
  rw [List.take_succ_eq_append_getElem h]
  simp [List.getD, h]
theorem div_modP (W q r : Nat) (h : r < W) : (W * q + r) / W = q ∧ (W * q + r) % W = r := by
  have hW : 0 < W := by omega
  refine ⟨?_, ?_⟩
  · rw [Nat.mul_add_div hW, Nat.div_eq_of_lt h, Nat.add_zero]
  · rw [Nat.mul_add_mod, Nat.mod_eq_of_lt h]
/-- whole sweeps, and what is left of one -/
theorem numP_eq (h : 0 < seq.length) (n : Int) : ∀ k, numP seq n k = (k / seq.length) * seq.count n + (seq.take (k % seq.length)).count n
  | 0 => by simp [numP]
  | k + 1 => by
    have ih := numP_eq h n k
    have hr := Nat.mod_lt k h
    have hk := Nat.div_add_mod k seq.length
    have hc : (seq.take (k % seq.length + 1)).count n = (seq.take (k % seq.length)).count n + (if cycP seq k = n then 1 else 0) := by
      rw [take_oneP _ _ hr, List.count_append]
      unfold cycP
      simp [List.count_singleton]
    unfold numP
    rw [ih]
    generalize k / seq.length = q at *
    generalize k % seq.length = r at *
    by_cases h1 : r + 1 < seq.length
    · have h2 := div_modP seq.length q (r + 1) h1
      rw [show k + 1 = seq.length * q + (r + 1) by omega, h2.1, h2.2, hc]
      omega
    · have h3 : r + 1 = seq.length := by omega
      have h2 := div_modP seq.length (q + 1) 0 h
      have h4 : k + 1 = seq.length * (q + 1) + 0 := by rw [Nat.mul_add]; omega
      rw [h4, h2.1, h2.2, List.take_zero, List.count_nil, Nat.add_zero, Nat.add_mul, Nat.one_mul]
      rw [h3, List.take_length] at hc
      omega
theorem take_count_le (l : List Int) (r : Nat) (n : Int) : (l.take r).count n ≤ l.count n := (List.take_sublist r l).count_le n
/-- shares: of two members the numbers, each times the weight of the other one, differ by no more than both weights multiplied -/
theorem share_le (q a b x y : Nat) (hx : x ≤ a) : (q * a + x) * b ≤ (q * b + y) * a + a * b := by
  have h1 : x * b ≤ a * b := Nat.mul_le_mul_right _ hx
  have h2 : (q * a + x) * b = q * a * b + x * b := Nat.add_mul _ _ _
  have h3 : (q * b + y) * a = q * b * a + y * a := Nat.add_mul _ _ _
  have h4 : q * b * a = q * a * b := by rw [Nat.mul_assoc, Nat.mul_comm b a, ← Nat.mul_assoc]
  omega
theorem numP_share (h : 0 < seq.length) (n m : Int) (k : Nat) : numP seq n k * seq.count m ≤ numP seq m k * seq.count n + seq.count n * seq.count m := by
  rw [numP_eq h, numP_eq h]
  exact share_le _ _ _ _ _ (take_count_le _ _ _)
theorem numP_none (h : 0 < seq.length) (n : Int) (h0 : seq.count n = 0) (k : Nat) : numP seq n k = 0 := by
  have := take_count_le seq (k % seq.length) n
  rw [numP_eq h, h0]
  omega
/-- of the first k turns each is somebody's -/
theorem numP_all (h : 0 < seq.length) (ns : List Int) (hd : ns.Nodup) (hs : ∀ n ∈ seq, n ∈ ns) : ∀ k, (ns.map fun n => numP seq n k).sum = k
  | 0 => by
    have : ∀ l : List Int, (l.map fun n => numP seq n 0).sum = 0 := by
      intro l
      induction l with
      | nil => rfl
      | cons a r ih => rw [List.map_cons, List.sum_cons, ih]; rfl
    exact this ns
  | k + 1 => by
    have ih := numP_all h ns hd hs k
    have hm := hs _ (cycP_mem h k)
    have key : ∀ (l : List Int), (l.map fun n => numP seq n (k + 1)).sum = (l.map fun n => numP seq n k).sum + l.count (cycP seq k) := by
      intro l
      induction l with
      | nil => rfl
      | cons a r ih2 =>
        have e : numP seq a (k + 1) = numP seq a k + (if cycP seq k = a then 1 else 0) := rfl
        rw [List.map_cons, List.sum_cons, List.map_cons, List.sum_cons, ih2, e, List.count_cons]
        by_cases h5 : cycP seq k = a
        · rw [if_pos h5, if_pos (by simp [h5])]
          omega
        · rw [if_neg h5, if_neg (by simpa using fun e2 => h5 e2.symm)]
          omega
    rw [key, ih, hd.count, if_pos hm]
end
end Go.Proofs.Ytogmfhofdjiihaa
