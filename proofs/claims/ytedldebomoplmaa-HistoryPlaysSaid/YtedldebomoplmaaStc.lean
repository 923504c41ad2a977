/- One cell of an element of a row of the call's own is stored anew. No program here; no condition. -/
import Derived.Test.YtedldebomoplmaaEl
set_option maxRecDepth 100000
namespace Go.Proofs.Ytedldebomoplmaa
open Go.RowKit
set_option linter.unusedVariables false

theorem ownsRow_setE {w : World} {base k n c g : Nat} {t : TypeId} {xs : List Value} (h : w.ownsRow base t k (.slice (some ⟨g, 0, none⟩) n c) n xs) (i : Nat) (u : Value) (hi : i < xs.length) : (w.setCell ⟨g, i, none⟩ u).ownsRow base t k (.slice (some ⟨g, 0, none⟩) n c) n (xs.set i u) := by
  obtain ⟨h1, h2⟩ := h
  refine ⟨by rw [List.length_set]; exact h1, ?_⟩
  rcases h2 with ⟨e, h0⟩ | ⟨g', cap, cur, hv, hbg, hg, hnc, hcm, hsz, htk⟩
  · cases e
  · injection hv with hA hn' hc'
    injection hA with hA
    injection hA with hA _ _
    subst hA hc'
    refine .inr ⟨g, c, cur.setIfInBounds i u, rfl, hbg, ?_, hnc, hcm, by simpa using hsz, ?_⟩
    · simp [World.setCell, Array.getElem?_modify, hg]
    · rw [← htk]
      simp [List.take_set]
theorem Elt.flat_set {α : Type} {E : Elt α} {x : α} {j : Nat} {v : Value} : ∀ (l : List α) (i : Nat), E.all l → i < l.length → j < E.k → E.cells x = (E.cells (l.getD i E.zero)).set j v → E.flat (l.set i x) = (E.flat l).set (i * E.k + j) v
  | [], i, _, hi, _, _ => by simp at hi
  | a :: l, 0, ha, _, hj, hx => by
    have h1 := E.len a (ha a List.mem_cons_self)
    simp only [List.set_cons_zero, Elt.flat_cons, Nat.zero_mul, Nat.zero_add]
    rw [List.set_append_left _ _ (by omega)]
    exact congrArg (· ++ E.flat l) hx
  | a :: l, i + 1, ha, hi, hj, hx => by
    have h1 := E.len a (ha a List.mem_cons_self)
    have ih := Elt.flat_set (x := x) (j := j) (v := v) l i (fun y hy => ha y (List.mem_cons_of_mem _ hy)) (by simpa using hi) hj (by simpa using hx)
    simp only [List.set_cons_succ, Elt.flat_cons]
    rw [ih, List.set_append_right _ _ (by rw [h1, Nat.add_mul]; omega), h1]
    congr 2
    rw [Nat.add_mul]
    omega
theorem Elt.all_set {α : Type} {E : Elt α} {l : List α} (h : E.all l) (i : Nat) {x : α} (hx : E.ok x) : E.all (l.set i x) := fun y hy => by
  rcases List.mem_or_eq_of_mem_set hy with h1 | h1
  · exact h y h1
  · rw [h1]; exact hx
/-- one cell of one element -/
theorem OwnE.setAt {α : Type} {E : Elt α} {t : TypeId} {w : World} {base n c g : Nat} {l : List α} (h : OwnE E t w base (some ⟨g, 0, none⟩) n c l) {i j : Nat} {v : Value} {x : α} (hi : i < n) (hj : j < E.k) (hok : E.ok x) (hx : E.cells x = (E.cells (l.getD i E.zero)).set j v) :
    OwnE E t (w.setCell ⟨g, i * E.k + j, none⟩ v) base (some ⟨g, 0, none⟩) n c (l.set i x) := by
  obtain ⟨h1, h2, h3⟩ := h
  have hl : i * E.k + j < (E.flat l).length := by
    rw [Elt.flat_len h2, h3]
    have : (i + 1) * E.k ≤ n * E.k := Nat.mul_le_mul_right _ hi
    rw [Nat.add_mul] at this
    omega
  have h4 := ownsRow_setE h1 (i * E.k + j) v hl
  rw [← Elt.flat_set l i h2 (by omega) hj hx] at h4
  exact ⟨h4, Elt.all_set h2 i hok, by rw [List.length_set]; exact h3⟩
theorem OwnE.formE {α : Type} {E : Elt α} {t : TypeId} {w : World} {base n c : Nat} {A : Option Addr} {l : List α} (h : OwnE E t w base A n c l) (hn : 0 < n) : ∃ g, A = some ⟨g, 0, none⟩ ∧ base ≤ g ∧ g < w.heap.size ∧ ∃ cs, w.heap[g]? = some (.cells cs t (0, 0)) := by
  rcases h.1.2 with ⟨_, h0⟩ | ⟨g, cap, cur, e, hbg, hg, _⟩
  · omega
  · injection e with e _ _
    exact ⟨g, e, hbg, (Array.getElem?_eq_some_iff.1 hg).1, cur, hg⟩
theorem OwnE.inCell {α : Type} {E : Elt α} {t : TypeId} {w : World} {base n c g : Nat} {l : List α} (h : OwnE E t w base (some ⟨g, 0, none⟩) n c l) {i : Nat} (hi : i < n * E.k) : ∃ u, w.cell? ⟨g, i, none⟩ = some u := by
  have hl : i < (E.flat l).length := by rw [Elt.flat_len h.2.1, h.2.2]; exact hi
  have := World.ownsRow.cells h.1 (g := g) rfl i _ (List.getElem?_eq_getElem hl)
  exact ⟨_, by simpa [Addr.add_lit] using this⟩
end Go.Proofs.Ytedldebomoplmaa
