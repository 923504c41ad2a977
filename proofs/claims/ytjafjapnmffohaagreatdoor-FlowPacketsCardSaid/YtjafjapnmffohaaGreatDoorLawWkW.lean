/- harrierlaw05.WalkWhole: the walk. Condition: at most 2^47 bytes. -/
import Derived.Test.YtjafjapnmffohaaGreatDoorJWk
set_option maxRecDepth 100000
namespace Go.Proofs.YtjafjapnmffohaaGreatDoor
open Go.RowKit
set_option linter.unusedVariables false

section
variable (xs : List Int)
theorem walkR_some (f : Nat) (nx : Int) (a : Nat) (h : (walkR xs f nx a).2 = 0) : (walkR xs f nx a).1 ≠ [] := by
  revert h
  cases f with
  | zero => unfold walkR; (repeat' split) <;> simp
  | succ f => unfold walkR; (repeat' split) <;> simp_all
theorem walkR_inv (f : Nat) (nx : Int) (a : Nat) (p : Pt) (rest : List Pt) (h : walkR xs f nx a = (p :: rest, 0)) :
    (rest = [] ∧ p = ⟨nx, a, (xs.length : Int) - a⟩ ∧ nx ≠ 0 ∧ nx ≠ 43 ∧ nx ≠ 60) ∨
    (∃ f', (nx = 0 ∨ nx = 43 ∨ nx = 60) ∧ p = ⟨nx, a, (hsz xs a : Nat)⟩ ∧ a + 2 ≤ xs.length ∧ a + hsz xs a ≤ xs.length ∧ rest ≠ [] ∧ walkR xs f' (xs.getD a 0) (a + hsz xs a) = (rest, 0)) := by
  by_cases h1 : nx = 44
  · rw [h1, walkR_frag] at h; simp at h
  · by_cases h2 : nx ≠ 0 ∧ nx ≠ 43 ∧ nx ≠ 60
    · rw [walkR_last xs f nx a h1 h2.1 h2.2.1 h2.2.2] at h
      simp only [Prod.mk.injEq, List.cons.injEq, and_true] at h
      exact .inl ⟨h.2.symm, h.1.symm, h2⟩
    · have hk : nx = 0 ∨ nx = 43 ∨ nx = 60 := by omega
      cases f with
      | zero =>
        by_cases h3 : nx = 0
        · rw [h3, walkR_form xs 0 a (by omega)] at h; simp at h
        · rw [walkR_many xs nx a (by omega)] at h; simp at h
      | succ f =>
        by_cases h3 : nx = 0 ∧ f ≠ 7
        · rw [h3.1, walkR_form xs (f + 1) a (by omega)] at h; simp at h
        · by_cases h4 : a + 2 ≤ xs.length ∧ a + hsz xs a ≤ xs.length
          · rw [walkR_more xs f nx a (by omega) h4] at h
            have hs := walkR_some xs f (xs.getD a 0) (a + hsz xs a)
            obtain ⟨r, hr⟩ : ∃ r, r = walkR xs f (xs.getD a 0) (a + hsz xs a) := ⟨_, rfl⟩
            rw [← hr] at h hs
            obtain ⟨l, e⟩ := r
            unfold joinPs at h
            by_cases he : e = 0
            · subst he
              simp only [if_true, Prod.mk.injEq, and_true, List.cons_append, List.nil_append, List.cons.injEq] at h
              exact .inr ⟨f, hk, h.1.symm, h4.1, h4.2, by rw [← h.2]; exact hs rfl, by rw [← hr, h.2]⟩
            · simp only [if_neg he, Prod.mk.injEq] at h
              exact absurd h.2 he
          · rw [walkR_short xs f nx a (by omega) h4] at h; simp at h
end
theorem walkL_ok (xs : List Int) (next at_ : Int) (h : (walkL xs next at_).2 = 0) : ∃ a : Nat, at_ = a ∧ a ≤ xs.length ∧ walkL xs next at_ = walkR xs 8 next a ∧ (walkL xs next at_).1 ≠ [] := by
  unfold walkL at h ⊢
  by_cases hc : at_ < 0 ∨ (xs.length : Int) < at_
  · rw [if_pos hc] at h; simp at h
  · rw [if_neg hc] at h ⊢
    exact ⟨at_.toNat, by omega, by omega, rfl, walkR_some xs 8 next _ h⟩
theorem walkL_no (xs : List Int) (next at_ : Int) (h : (walkL xs next at_).2 ≠ 0) : (walkL xs next at_).1 = [] := by
  unfold walkL at h ⊢
  split
  · rfl
  · rename_i hc
    rw [if_neg hc] at h
    rcases walkR_or xs 8 next at_.toNat with h1 | h1
    · exact absurd h1 h
    · exact h1
theorem drop_pt (ps : List Pt) (k : Nat) (h : k < ps.length) : ps.drop k = ps.getD k zeroP :: ps.drop (k + 1) := by
  rw [List.drop_eq_getElem_cons h]
  simp [List.getD, h]

/-- where the law's loop stands -/
def WhRel (w2 : World) (n q : Nat) (xs : List Int) (ps : List Pt) (v1 v2 v9 : Value) (wr : World) : Prop :=
  ∃ (nx : Int) (a m : Nat), v1 = .int .i64 nx ∧ v2 = .int .i64 a ∧ v9 = .int .i64 m ∧ m ≤ q ∧ a ≤ n ∧ Hid ((∃ f, walkR xs f nx a = (ps.drop m, 0)) ∨ (m = q ∧ a = n)) ∧ Low w2 wr

end Go.Proofs.YtjafjapnmffohaaGreatDoor
