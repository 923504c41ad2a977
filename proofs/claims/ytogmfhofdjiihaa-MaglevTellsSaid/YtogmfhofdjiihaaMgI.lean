/- Stage 17: whose turn it is, where the first free slot is. No program here; no condition. -/
import Derived.Test.YtogmfhofdjiihaaMgD
set_option maxRecDepth 100000
namespace Go.Proofs.Ytogmfhofdjiihaa
set_option linter.unusedVariables false

theorem turnP_at {o t : List Int} {node : Int} {j : Nat} (hj : j < o.length) (hb : ∀ i, i < j → t.getD (o.getD i 0).toNat 0 ≠ 0) (h0 : t.getD (o.getD j 0).toNat 0 = 0) : turnP o t node = t.set (o.getD j 0).toNat node := by
  have hf : o.find? (fun s => t.getD s.toNat 0 == 0) = some (o.getD j 0) := by
    have e : o = o.take j ++ o.getD j 0 :: o.drop (j + 1) := by
      have h1 := (List.take_append_drop j o).symm
      rw [List.drop_eq_getElem_cons hj] at h1
      simp only [List.getD, List.getElem?_eq_getElem hj, Option.getD_some]
      exact h1
    rw [e, List.find?_append]
    have h1 : (o.take j).find? (fun s => t.getD s.toNat 0 == 0) = none := by
      rw [List.find?_eq_none]
      intro s hs
      obtain ⟨i, hi, rfl⟩ := List.mem_take_iff_getElem.1 hs
      have h2 := hb i (by omega)
      have h3 : o.getD i 0 = o[i] := by simp [List.getD, show i < o.length by omega]
      rw [h3] at h2
      simpa using h2
    rw [h1]
    have e2 : (o.take j ++ o.getD j 0 :: o.drop (j + 1)).getD j 0 = o.getD j 0 := by rw [← e]
    rw [e2]
    have h4 : (t.getD (o.getD j 0).toNat 0 == 0) = true := by simpa using h0
    simp only [List.find?_cons, h4, Option.none_or]
  unfold turnP
  rw [hf]
theorem turnP_none {o t : List Int} {node : Int} (hb : ∀ i, i < o.length → t.getD (o.getD i 0).toNat 0 ≠ 0) : turnP o t node = t := by
  have hf : o.find? (fun s => t.getD s.toNat 0 == 0) = none := by
    rw [List.find?_eq_none]
    intro s hs
    obtain ⟨i, hi, rfl⟩ := List.mem_iff_getElem.1 hs
    have h2 := hb i hi
    have h3 : o.getD i 0 = o[i] := by simp [List.getD, hi]
    rw [h3] at h2
    simpa using h2
  unfold turnP
  rw [hf]
/-- the turns ahead of the i-th member's, in a sweep -/
def preM (S : List Mbr) (i : Nat) : Nat := (seqM (S.take i)).length
theorem preM_zero (S : List Mbr) : preM S 0 = 0 := rfl
theorem preM_succ (S : List Mbr) (i : Nat) (h : i < S.length) : preM S (i + 1) = preM S i + (S.getD i zeroMbr).w.toNat := by
  unfold preM
  rw [List.take_succ_eq_append_getElem h, getD_memM S i h]
  have : ∀ a b : List Mbr, seqM (a ++ b) = seqM a ++ seqM b := fun a b => by simp [seqM]
  rw [this, List.length_append]
  simp [seqM]
theorem preM_all (S : List Mbr) : preM S S.length = (seqM S).length := by
  unfold preM
  rw [List.take_length]
theorem seqM_at (S : List Mbr) (i j : Nat) (h : i < S.length) (hj : j < (S.getD i zeroMbr).w.toNat) : (seqM S).getD (preM S i + j) 0 = (S.getD i zeroMbr).n ∧ preM S i + j < (seqM S).length := by
  have ha : ∀ a b : List Mbr, seqM (a ++ b) = seqM a ++ seqM b := fun a b => by simp [seqM]
  have e : seqM S = seqM (S.take i) ++ (List.replicate (S.getD i zeroMbr).w.toNat (S.getD i zeroMbr).n ++ seqM (S.drop (i + 1))) := by
    have h1 := (List.take_append_drop i S).symm
    rw [List.drop_eq_getElem_cons h, ← getD_memM S i h] at h1
    have h2 := congrArg seqM h1
    rw [ha, seqM_cons] at h2
    exact h2
  have hp : (seqM (S.take i)).length = preM S i := rfl
  constructor
  · rw [e]
    unfold List.getD
    rw [List.getElem?_append_right (by omega), hp, Nat.add_sub_cancel_left, List.getElem?_append_left (by rw [List.length_replicate]; exact hj), List.getElem?_replicate]
    have hj2 : j < (S[i]?.getD zeroMbr).w.toNat := hj
    rw [if_pos hj2]
    rfl
  · rw [e, List.length_append, List.length_append, List.length_replicate, hp]
    omega
/-- whose turn it is in the q-th sweep -/
theorem cycP_at (S : List Mbr) (q i j : Nat) (h : i < S.length) (hj : j < (S.getD i zeroMbr).w.toNat) : cycP (seqM S) (q * (seqM S).length + preM S i + j) = (S.getD i zeroMbr).n := by
  obtain ⟨h1, h2⟩ := seqM_at S i j h hj
  unfold cycP
  rw [Nat.add_assoc, Nat.mul_comm, Nat.mul_add_mod, Nat.mod_eq_of_lt h2, h1]
end Go.Proofs.Ytogmfhofdjiihaa
