/- Stage 16: prime numbers and orders of slots as the page says them, as functions of numbers; that of a prime number each slot is there once. No program here; no condition. -/
import Derived.Test.YtogmfhofdjiihaaKdA
import Derived.Test.YtogmfhofdjiihaaJOct
set_option maxRecDepth 100000
namespace Go.Proofs.Ytogmfhofdjiihaa
open Go.RowKit
set_option linter.unusedVariables false

theorem bits_range_u64 (op : BinOp) (x y : Int) : 0 ≤ bits op .u64 x y ∧ bits op .u64 x y < 18446744073709551616 := by
  unfold bits
  rw [IntKind.wrap_u64]
  omega
theorem sumK_range (a b : Int) (xs : List Int) : 0 ≤ sumK a b xs ∧ sumK a b xs < 18446744073709551616 := bits_range_u64 .xor _ _

/-- the hash of two numbers -/
def pairK (a b p q : Int) : Int := sumK a b (four (p % 4294967296) ++ four (q % 4294967296))
def pairN (a b p q : Int) : Nat := (pairK a b p q).toNat
theorem pairK_nat (a b p q : Int) : pairK a b p q = pairN a b p q := by
  have := (sumK_range a b (four (p % 4294967296) ++ four (q % 4294967296))).1
  unfold pairN pairK
  omega
theorem pairN_lt (a b p q : Int) : pairN a b p q < 18446744073709551616 := by
  have := sumK_range a b (four (p % 4294967296) ++ four (q % 4294967296))
  unfold pairN pairK
  omega
def offP (a b node : Int) (m : Nat) : Nat := pairN a b node 1 % m
def skipP (a b node : Int) (m : Nat) : Nat := pairN a b node 2 % (m - 1) + 1
/-- the i-th slot -/
def atP (a b node : Int) (m i : Nat) : Nat := (offP a b node m + i * skipP a b node m) % m
def tableB (m : Int) : Bool := decide (2 ≤ m ∧ m ≤ 1000)
def ordP (a b node m : Int) : List Int := if tableB m then (List.range m.toNat).map fun i => (atP a b node m.toNat i : Int) else []
def offQ (a b node m : Int) : Int := if tableB m then (offP a b node m.toNat : Int) else 0
def skipQ (a b node m : Int) : Int := if tableB m then (skipP a b node m.toNat : Int) else 0

theorem skipP_range (a b node : Int) (m : Nat) (h : 2 ≤ m) : 1 ≤ skipP a b node m ∧ skipP a b node m < m := by
  have := Nat.mod_lt (pairN a b node 2) (show 0 < m - 1 by omega)
  unfold skipP
  omega
theorem offP_range (a b node : Int) (m : Nat) (h : 2 ≤ m) : offP a b node m < m := Nat.mod_lt _ (by omega)
theorem atP_range (a b node : Int) (m i : Nat) (h : 2 ≤ m) : atP a b node m i < m := Nat.mod_lt _ (by omega)
theorem atP_zero (a b node : Int) (m : Nat) (h : 2 ≤ m) : atP a b node m 0 = offP a b node m := by
  unfold atP
  rw [Nat.zero_mul, Nat.add_zero, Nat.mod_eq_of_lt (offP_range a b node m h)]
theorem atP_succ (a b node : Int) (m i : Nat) : atP a b node m (i + 1) = (atP a b node m i + skipP a b node m) % m := by
  unfold atP
  rw [Nat.mod_add_mod, Nat.add_mul, Nat.one_mul, Nat.add_assoc]
theorem ordP_none {a b node m : Int} (h : tableB m = false) : ordP a b node m = [] := by unfold ordP; rw [h]; rfl
theorem ordP_some {a b node m : Int} (h : tableB m = true) : ordP a b node m = (List.range m.toNat).map fun i => (atP a b node m.toNat i : Int) := by unfold ordP; rw [h]; rfl
theorem ordP_len {a b node m : Int} (h : tableB m = true) : (ordP a b node m).length = m.toNat := by rw [ordP_some h]; simp
theorem ordP_get {a b node m : Int} (h : tableB m = true) {i : Nat} (hi : i < m.toNat) : (ordP a b node m).getD i 0 = (atP a b node m.toNat i : Int) := by
  rw [ordP_some h]
  simp [List.getD, hi]
theorem ordP_small (a b node m : Int) : (ordP a b node m).length ≤ 1000 := by
  unfold ordP tableB
  by_cases h : 2 ≤ m ∧ m ≤ 1000
  · simp [h]
  · simp [h]

/-- is n a prime number (of n up to 1000000)? -/
def primeB (n : Int) : Bool := decide (2 ≤ n ∧ n ≤ 1000000 ∧ ∀ d : Nat, d < 1001 → 2 ≤ d → (d : Int) < n → ¬ n % (d : Int) = 0)
theorem primeB_no {n : Int} (h : n < 2 ∨ 1000000 < n) : primeB n = false := decide_eq_false (by omega)
theorem primeB_cut {n : Int} {d : Nat} (h0 : 2 ≤ d) (h1 : d ≤ 1000) (h2 : (d : Int) < n) (h3 : n % (d : Int) = 0) : primeB n = false :=
  decide_eq_false fun h => h.2.2 d (by omega) h0 h2 h3
theorem primeB_yes {n : Int} (h0 : 2 ≤ n) (h1 : n ≤ 1000000) (h : ∀ d : Nat, 2 ≤ d → d ≤ 1000 → (d : Int) < n → ¬ n % (d : Int) = 0) : primeB n = true :=
  decide_eq_true ⟨h0, h1, fun d hd h2 h3 => h d h2 (by omega) h3⟩
theorem primeB_two {n : Int} (h : primeB n = true) : 2 ≤ n := (of_decide_eq_true h).1
theorem primeB_small {n : Int} (h : primeB n = true) (hn : n ≤ 1000) (d : Nat) (h2 : 2 ≤ d) (hd : d < n.toNat) : ¬ d ∣ n.toNat := fun ⟨k, hk⟩ => by
  obtain ⟨h0, _, h1⟩ := of_decide_eq_true h
  refine h1 d (by omega) h2 (by omega) ?_
  have e : n = (d : Int) * (k : Int) := by
    have : ((n.toNat : Nat) : Int) = ((d * k : Nat) : Int) := by rw [hk]
    rw [Int.toNat_of_nonneg (by omega), Int.natCast_mul] at this
    exact this
  rw [e]
  exact Int.mul_emod_right _ _
/-- what divides no number but itself has nothing in common with a smaller one -/
theorem coprime_of_prime {m s : Nat} (h : ∀ d, 2 ≤ d → d < m → ¬ d ∣ m) (h0 : 0 < s) (hs : s < m) : Nat.Coprime m s := by
  have h1 : Nat.gcd m s ∣ m := Nat.gcd_dvd_left _ _
  have h2 : Nat.gcd m s ∣ s := Nat.gcd_dvd_right _ _
  have h3 := Nat.le_of_dvd h0 h2
  have h4 : 0 < Nat.gcd m s := Nat.gcd_pos_of_pos_right _ h0
  by_cases h5 : Nat.gcd m s = 1
  · exact h5
  · exact absurd h1 (h _ (by omega) (by omega))
/-- each slot once -/
theorem atP_once {a b node m : Int} (hp : primeB m = true) (hm : m ≤ 1000) {i j : Nat} (hij : i < j) (hj : j < m.toNat) : atP a b node m.toNat i ≠ atP a b node m.toNat j := by
  intro e
  have h2 := primeB_two hp
  have hr := skipP_range a b node m.toNat (by omega)
  have hc := coprime_of_prime (primeB_small hp hm) hr.1 hr.2
  unfold atP at e
  generalize skipP a b node m.toNat = s at *
  generalize offP a b node m.toNat = o at *
  generalize m.toNat = n at *
  have hs : i * s ≤ j * s := Nat.mul_le_mul_right _ (Nat.le_of_lt hij)
  have h1 : n ∣ (o + j * s) - (o + i * s) := Nat.dvd_of_mod_eq_zero (Nat.sub_mod_eq_zero_of_mod_eq e.symm)
  rw [Nat.add_sub_add_left, ← Nat.sub_mul] at h1
  have h3 : n ∣ j - i := hc.dvd_of_dvd_mul_right h1
  have h4 := Nat.le_of_dvd (by omega) h3
  omega
end Go.Proofs.Ytogmfhofdjiihaa
