/- What the document's own Parse answers: the options of bytes. Condition: at most 40 bytes where they are gone over. -/
import Derived.Test.YtnfiijbnfmcpjaaTpJ
import Derived.Test.YtnfiijbnfmcpjaaReg3
namespace Go.Proofs.Ytnfiijbnfmcpjaa
open Go.RowKit
set_option linter.unusedVariables false

section
variable {P : Program} {ops : Array Oper} {Q : Exit → Act → World → Prop} {S : World → Prop}
/-- an operation that comes up alone, by its run -/
theorem walkS_run {i : Nat} {r : Plan} {d : Option Tmp} {op : Op} {t : TypeId} {pos : String} {aft : Array Edge} {g : Option (Nat × Bool)} {v : Value} {a : Act} {w w' : World} (hi : ops[i]? = some ⟨d, op, t, pos, aft, g⟩)
    (hw : Region.wanted ⟨d, op, t, pos, #[], g⟩ (yielded ops a.tmps) = true)
    (hv : (execOp a.eval ⟨d, op, t, pos, #[], g⟩).run P w = .ok (.value v) w') (hS : S w') (h : walkS P ops Q S r (a.put d v) w') : walkS P ops Q S (.act i r) a w :=
  walkS_act hi hw fun K hK => by
    unfold Oper.wp
    rw [hv]
    exact hK _ _ hS h
/-- one that stores -/
theorem walkS_put {i : Nat} {r : Plan} {d : Option Tmp} {op : Op} {t : TypeId} {pos : String} {aft : Array Edge} {g : Option (Nat × Bool)} {a : Act} {w w' : World} (hi : ops[i]? = some ⟨d, op, t, pos, aft, g⟩)
    (hw : Region.wanted ⟨d, op, t, pos, #[], g⟩ (yielded ops a.tmps) = true)
    (hv : (execOp a.eval ⟨d, op, t, pos, #[], g⟩).run P w = .ok .skip w') (hS : S w') (h : walkS P ops Q S r (a.put d undef) w') : walkS P ops Q S (.act i r) a w :=
  walkS_act hi hw fun K hK => by
    unfold Oper.wp
    rw [hv]
    exact hK _ _ hS h
end
theorem getD_drop (xs : List Int) (p i : Nat) : (xs.drop p).getD i 0 = xs.getD (p + i) 0 := by simp [List.getD, List.getElem?_drop]
theorem zeros_drop_false {xs : List Int} {p k : Nat} (hp : p ≤ k) (hk : k < xs.length) (h : xs.getD k 0 ≠ 0) : zerosB (xs.drop p) = false :=
  zerosB_false (k := k - p) (by rw [List.length_drop]; omega) (by rw [getD_drop, show p + (k - p) = k by omega]; exact h)
theorem zeros_drop_true {xs : List Int} {p : Nat} (h : ∀ k, p ≤ k → k < xs.length → xs.getD k 0 = 0) : zerosB (xs.drop p) = true :=
  zerosB_true fun j hj => by rw [getD_drop]; rw [List.length_drop] at hj; exact h _ (by omega) (by omega)

section
variable (A : Option Addr) (n c : Nat) (xs : List Int) (w : World)

/-- what takeO says of the bytes from a place on -/
theorem take_at (p : Nat) (hl : xs.length = n) (hp : p < n) : takeO (xs.drop p) =
    if xs.getD p 0 = 1 then ((1, []), 1, 0)
    else if p = n - 1 then (zeroB, 0, 3)
    else if xs.getD (p + 1) 0 < 2 then (zeroB, 0, 5)
    else if (n : Int) - p < xs.getD (p + 1) 0 then (zeroB, 0, 3)
    else if fitsO (xs.getD p 0) ((xs.getD (p + 1) 0).toNat - 2) = false then (zeroB, 0, 5)
    else ((xs.getD p 0, (xs.drop (p + 2)).take ((xs.getD (p + 1) 0).toNat - 2)), (xs.getD (p + 1) 0).toNat, 0) := by
  unfold takeO
  rw [getD_drop, getD_drop, List.length_drop, hl, List.drop_drop]
  by_cases h1 : xs.getD p 0 = 1
  · rw [if_pos h1, if_pos (by simpa using h1)]
  · rw [if_neg h1, if_neg (by simpa using h1)]
    by_cases h2 : p = n - 1
    · rw [if_pos h2, if_pos (by omega)]
    · rw [if_neg h2, if_neg (by omega)]
      by_cases h3 : xs.getD (p + 1) 0 < 2
      · rw [if_pos h3, if_pos h3]
      · rw [if_neg h3, if_neg h3]
        by_cases h4 : (n : Int) - p < xs.getD (p + 1) 0
        · rw [if_pos h4, if_pos (by omega)]
        · rw [if_neg h4, if_neg (by omega), Nat.add_zero]

end
end Go.Proofs.Ytnfiijbnfmcpjaa
