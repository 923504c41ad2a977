/- How long the data of a kind must be: what topt.fits and the document's own Long answer. Condition: the kind is an int. -/
import Derived.Test.YtnfiijbnfmcpjaaTpB
import Derived.Maps.OwnSet
namespace Go.Proofs.Ytnfiijbnfmcpjaa
open Go.RowKit Go.MapKept Go.ChangeMaps
set_option linter.unusedVariables false

/-- the map of lengths, as data -/
def ask0 : DataW Unit := .map []
def ask1 := ask0.put (.int .i64 1) (.lit (.int .i64 0))
def ask2 := ask1.put (.int .i64 2) (.lit (.int .i64 2))
def ask3 := ask2.put (.int .i64 3) (.lit (.int .i64 1))
def ask4 := ask3.put (.int .i64 4) (.lit (.int .i64 0))
def ask5 := ask4.put (.int .i64 8) (.lit (.int .i64 8))
theorem ask_eq : ask5 = .map [(.int .i64 1, .lit (.int .i64 0)), (.int .i64 2, .lit (.int .i64 2)), (.int .i64 3, .lit (.int .i64 1)), (.int .i64 4, .lit (.int .i64 0)), (.int .i64 8, .lit (.int .i64 8))] := by rfl
theorem ask_dec (n : Nat) (c : Int) : ((n : Int) == c) = decide (c = n) := by
  by_cases h : c = n
  · simp [h]
  · have h2 : ¬ (n : Int) = c := fun e => h e.symm
    simp [h, h2]
theorem ask_fits {k c : Int} {n : Nat} (h : ask5.atKey (.int .i64 k) (.lit (.int .i64 0)) = .lit (.int .i64 c)) : (!Maps.has ask5 (.int .i64 k) || (n : Int) == c) = fitsO k n := by
  rw [ask_eq] at h ⊢
  simp only [Maps.has, DataW.atKey, List.any_cons, List.any_nil, List.find?_cons, List.find?_nil, Lit.sameKey, true_and] at h ⊢
  unfold fitsO longR
  by_cases h1 : k = 1
  · subst h1; simp at h ⊢; rw [← h]; exact ask_dec _ _
  · by_cases h2 : k = 2
    · subst h2; simp at h ⊢; rw [← h]; exact ask_dec _ _
    · by_cases h3 : k = 3
      · subst h3; simp at h ⊢; rw [← h]; exact ask_dec _ _
      · by_cases h4 : k = 4
        · subst h4; simp at h ⊢; rw [← h]; exact ask_dec _ _
        · by_cases h8 : k = 8
          · subst h8; simp at h ⊢; rw [← h]; exact ask_dec _ _
          · have e1 : ¬ (1 : Int) = k := fun e => h1 e.symm
            have e2 : ¬ (2 : Int) = k := fun e => h2 e.symm
            have e3 : ¬ (3 : Int) = k := fun e => h3 e.symm
            have e4 : ¬ (4 : Int) = k := fun e => h4 e.symm
            have e8 : ¬ (8 : Int) = k := fun e => h8 e.symm
            simp [h1, h2, h3, h4, h8, e1, e2, e3, e4, e8]

theorem i64_wf {a : Int} (h : i64ok a) : (Lit.int .i64 a).wf = true := by
  unfold i64ok at h
  have h1 : IntKind.i64.min ≤ a := h.1
  have h2 : a ≤ IntKind.i64.max := h.2
  simp only [Lit.wf, Bool.and_eq_true, decide_eq_true_eq]
  exact ⟨h1, h2⟩

end Go.Proofs.Ytnfiijbnfmcpjaa
