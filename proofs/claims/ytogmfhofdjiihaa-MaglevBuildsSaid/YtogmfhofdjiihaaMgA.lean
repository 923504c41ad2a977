/- Stage 17: tables of slots as the page builds them, as functions of numbers: a turn takes the first free slot in an order; as many turns as slots fill the table; how many each has. No program here; no condition. -/
import Derived.Test.YtogmfhofdjiihaaPmA
set_option maxRecDepth 100000
namespace Go.Proofs.Ytogmfhofdjiihaa
set_option linter.unusedVariables false

/-- M distinct numbers below M are all of them -/
theorem all_of_distinct : ∀ (M : Nat) (l : List Nat), l.Nodup → (∀ x ∈ l, x < M) → l.length = M → ∀ x, x < M → x ∈ l
  | 0, _, _, _, _, x, hx => by omega
  | M + 1, l, hd, hl, hn, x, hx => by
    by_cases hM : M ∈ l
    · by_cases hxM : x = M
      · rw [hxM]; exact hM
      · have h1 : (l.erase M).Nodup := hd.erase _
        have h2 : (l.erase M).length = M := by rw [List.length_erase_of_mem hM, hn]; rfl
        have h3 : ∀ y ∈ l.erase M, y < M := fun y hy => by
          have h4 := (hd.mem_erase_iff).1 hy
          have h5 := hl y h4.2
          have h6 := h4.1
          omega
        exact List.mem_of_mem_erase (all_of_distinct M _ h1 h3 h2 x (by omega))
    · match l, hd, hl, hn, hM with
      | y :: r, hd, hl, hn, hM =>
        have h1 : ∀ z ∈ y :: r, z < M := fun z hz => by
          have h2 := hl z hz
          have h3 : z ≠ M := fun e => hM (e ▸ hz)
          omega
        have hr := all_of_distinct M r (List.nodup_cons.1 hd).2 (fun z hz => h1 z (List.mem_cons_of_mem _ hz)) (by simpa using hn)
        exact absurd (hr y (h1 y List.mem_cons_self)) (List.nodup_cons.1 hd).1

/-- an order of M slots: each below M is in it, and no other -/
def OrderP (M : Nat) (o : List Int) : Prop := (∀ s ∈ o, 0 ≤ s ∧ s < (M : Int)) ∧ ∀ x, x < M → (x : Int) ∈ o
theorem ordP_order {a b node m : Int} (hp : primeB m = true) (hm : m ≤ 1000) : OrderP m.toNat (ordP a b node m) := by
  have hT : tableB m = true := decide_eq_true ⟨primeB_two hp, hm⟩
  have h2 := primeB_two hp
  rw [ordP_some hT]
  refine ⟨fun s hs => ?_, fun x hx => ?_⟩
  · obtain ⟨i, hi, rfl⟩ := List.mem_map.1 hs
    have := atP_range a b node m.toNat i (by omega)
    omega
  · have h := all_of_distinct m.toNat ((List.range m.toNat).map (atP a b node m.toNat)) ?_ ?_ (by simp) x hx
    · obtain ⟨i, hi, e⟩ := List.mem_map.1 h
      exact List.mem_map.2 ⟨i, hi, by rw [e]⟩
    · refine List.pairwise_map.2 (List.Pairwise.imp_of_mem (R := fun i j => i < j) ?_ List.pairwise_lt_range)
      intro i j hi hj hij
      exact atP_once hp hm hij (List.mem_range.1 hj)
    · intro y hy
      obtain ⟨i, hi, rfl⟩ := List.mem_map.1 hy
      exact atP_range a b node m.toNat i (by omega)

/-- a turn: the first free slot in the order is taken -/
def turnP (o : List Int) (t : List Int) (node : Int) : List Int :=
  match o.find? (fun s => t.getD s.toNat 0 == 0) with
  | none => t
  | some s => t.set s.toNat node
theorem turnP_len (o t : List Int) (node : Int) : (turnP o t node).length = t.length := by
  unfold turnP
  split
  · rfl
  · rw [List.length_set]
def fullP (t : List Int) : Bool := !t.contains 0
theorem fullP_iff {t : List Int} : fullP t = true ↔ t.count 0 = 0 := by
  unfold fullP
  rw [List.count_eq_zero]
  simp
theorem turnP_full {M : Nat} {o t : List Int} {node : Int} (ho : OrderP M o) (ht : t.length = M) (hf : t.count 0 = 0) : turnP o t node = t := by
  unfold turnP
  have h : o.find? (fun s => t.getD s.toNat 0 == 0) = none := by
    rw [List.find?_eq_none]
    intro s hs
    have h1 := ho.1 s hs
    have h2 : s.toNat < t.length := by omega
    have h3 : t.getD s.toNat 0 = t[s.toNat] := by simp [List.getD, h2]
    rw [h3]
    have h4 := List.count_eq_zero.1 hf
    intro e
    have e2 : t[s.toNat] = 0 := by simpa using e
    exact h4 (e2 ▸ List.getElem_mem h2)
  rw [h]
/-- a turn at a table that has a free slot: one less is free, the member has one more, no other one -/
theorem turnP_count {M : Nat} {o t : List Int} {node : Int} (ho : OrderP M o) (ht : t.length = M) (hn : node ≠ 0) (hf : t.count 0 ≠ 0) (n : Int) :
    (turnP o t node).count n = if n = 0 then t.count 0 - 1 else t.count n + (if node = n then 1 else 0) := by
  have hmem : (0 : Int) ∈ t := List.count_pos_iff.1 (by omega)
  obtain ⟨x, hx, e⟩ := List.mem_iff_getElem.1 hmem
  unfold turnP
  cases hfd : o.find? (fun s => t.getD s.toNat 0 == 0) with
  | none =>
    rw [List.find?_eq_none] at hfd
    have := hfd (x : Int) (ho.2 x (by omega))
    simp [List.getD, hx, e] at this
  | some s =>
    have h1 := List.find?_some hfd
    have h2 := List.mem_of_find?_eq_some hfd
    have h3 := ho.1 s h2
    have h4 : s.toNat < t.length := by omega
    have h5 : t[s.toNat] = 0 := by simpa [List.getD, h4] using h1
    simp only []
    rw [List.count_set h4, h5]
    by_cases hn0 : n = 0
    · subst hn0
      have h6 : (node == (0 : Int)) = false := by simpa using hn
      simp [h6]
    · have h6 : ((0 : Int) == n) = false := by simpa using fun e => hn0 e.symm
      simp [h6, hn0]
end Go.Proofs.Ytogmfhofdjiihaa
