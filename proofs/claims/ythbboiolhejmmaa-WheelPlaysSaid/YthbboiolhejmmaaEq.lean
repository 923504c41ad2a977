/- Two arrays of integers, by value, are equal just where the numbers are. No condition. -/
import Derived.Test.YthbboiolhejmmaaBytes
import Derived.Laws.StructEq
import Derived.ChangeKeysEq
set_option maxRecDepth 100000
namespace Go.Proofs.Ythbboiolhejmmaa
open Go.RowKit

theorem all_range_eqI : ∀ (xs ys : List Int), xs.length = ys.length → ((List.range xs.length).all fun i => xs.getD i 0 == ys.getD i 0) = (xs == ys)
  | [], [], _ => rfl
  | x :: xs, y :: ys, h => by
    have ih := all_range_eqI xs ys (by simpa using h)
    rw [List.length_cons, List.range_succ_eq_map, List.all_cons, List.all_map]
    simp only [List.getD_cons_zero, Function.comp_def, List.getD_cons_succ, ih]
    simp [List.cons_beq_cons]
  | [], _ :: _, h => by simp at h
  | _ :: _, [], h => by simp at h

section
variable {P : Program} (w : World)
theorem run_equalIn_ints (κ : IntKind) (d : Nat) (t e : TypeId) (n : Nat) (i0 : TypeInfo) (ht : P.underlying t = some (.array n e)) (he : P.underlying e = some (.int κ)) (hi : P.info? e = some i0) (hsz : i0.size = 1)
    (xs ys : List Int) (hx : xs.length = n) (hy : ys.length = n) :
    (Op.equalIn (d + 2) t (.agg (xs.map (Value.int κ)).toArray) (.agg (ys.map (Value.int κ)).toArray)).run P w = .ok (xs == ys) w := by
  rw [run_equalIn_array w (d + 1) _ _ ht hi, ← all_range_eqI xs ys (hx.trans hy.symm), hx]
  have hc : P.cellsOf e = 1 := by simp [Program.cellsOf, hi, hsz]
  rw [hc]
  have hl : ∀ i ∈ List.range n, i < n := fun i hi => by simpa using hi
  generalize List.range n = l at hl ⊢
  induction l with
  | nil => simp [Op.eqItems]
  | cons i l ih =>
    have hi : i < n := hl i (by simp)
    have px : (part e (xs.map (Value.int κ)).toArray (i * 1)).run P w = .ok (.int κ (xs.getD i 0)) w := by
      simp [part, isAgg, run_underlying he, List.getD, List.getElem?_eq_getElem (show i < xs.length by omega)]
    have py : (part e (ys.map (Value.int κ)).toArray (i * 1)).run P w = .ok (.int κ (ys.getD i 0)) w := by
      simp [part, isAgg, run_underlying he, List.getD, List.getElem?_eq_getElem (show i < ys.length by omega)]
    have pe : (Op.equalIn (d + 1) e (.int κ (xs.getD i 0)) (.int κ (ys.getD i 0))).run P w = .ok (xs.getD i 0 == ys.getD i 0) w := run_equalIn_int w d e κ κ _ _ he
    simp only [Op.eqItems, Sem.run_bind, px, py, pe, Result.andThen_ok, List.all_cons]
    cases hb : (xs.getD i 0 == ys.getD i 0)
    · simp
    · simp only [Bool.not_true, Bool.false_eq_true, if_false, Bool.true_and]
      exact ih fun j hj => hl j (by simp [hj])
end
theorem info_sized {P : Program} {t : TypeId} {n : Nat} (h : (P.info? t).map (·.size) = some n) : ∃ i, P.info? t = some i ∧ i.size = n := by
  cases hq : P.info? t with
  | none => simp [hq] at h
  | some i => exact ⟨i, rfl, by simpa [hq] using h⟩
theorem eqFields_step {P : Program} {d : Nat} {xs ys : Array Value} {nm : String} {t : TypeId} {off : Nat} {eb : Bool} {tg pk : String} {bo : Nat} {fs : List Field} {va vb : Value} {r : Bool} {w : World} (hn : (nm = "_") = False)
    (h1 : (part t xs off).run P w = .ok va w) (h2 : (part t ys off).run P w = .ok vb w) (h3 : (Op.equalIn d t va vb).run P w = .ok r w) :
    (Op.eqFields d xs ys (⟨nm, t, off, eb, tg, pk, bo⟩ :: fs)).run P w = if r = true then (Op.eqFields d xs ys fs).run P w else .ok false w := by
  simp only [Op.eqFields, ne_eq, hn, not_false_eq_true, if_true, Sem.run_bind, h1, h2, h3, Result.andThen_ok, Sem.run_ite]
  cases r <;> simp
end Go.Proofs.Ythbboiolhejmmaa
