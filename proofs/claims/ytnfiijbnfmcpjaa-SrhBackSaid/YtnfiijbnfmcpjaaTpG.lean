/- What topt.Put answers: the bytes of options. Condition: at most 2^47 options. -/
import Derived.Test.YtnfiijbnfmcpjaaTpE
namespace Go.Proofs.Ytnfiijbnfmcpjaa
open Go.RowKit
set_option linter.unusedVariables false
attribute [local go_sem] Oper.semAt_some

section
variable {t : TypeId} {w w' : World} {base n c : Nat} {A : Option Addr} {ys : List Int}
theorem OwnB.far (h : OwnB t w base A n c ys) {p : Addr} (hp : p.block < base) (u : Value) : OwnB t (w.setCell p u) base A n c ys := by
  refine ⟨⟨h.1.1, ?_⟩, h.2⟩
  rcases h.1.2 with e | ⟨g, cap, cur, e, hbg, hg, r⟩
  · exact .inl e
  · exact .inr ⟨g, cap, cur, e, hbg, (Below.heap_setCell w p u g (by omega)).trans hg, r⟩
theorem OwnB.kept {row : Option Nat} (h : OwnB t w base A n c ys) (hg : w.grownBy w' row) (hr : ∀ r, row = some r → ∃ o : Obj, w.heap[r]? = some o ∧ o.isCells = false) : OwnB t w' base A n c ys := by
  refine ⟨⟨h.1.1, ?_⟩, h.2⟩
  rcases h.1.2 with e | ⟨g, cap, cur, e, hbg, hgg, r⟩
  · exact .inl e
  · exact .inr ⟨g, cap, cur, e, hbg, (grownBy_keeps_cells hg hr hgg rfl).trans hgg, r⟩
theorem OwnB.row (h : OwnB t w base A n c ys) : ∀ k, (Value.slice A n c).ownBlock = some k → ∃ cs z, w.heap[k]? = some (.cells cs t z) := fun k hk => by
  rcases h.1.2 with ⟨e, _⟩ | ⟨g, cap, cur, e, hbg, hg, r⟩
  · injection e with e1
    subst e1
    cases hk
  · injection e with e1
    subst e1
    have : g = k := by simpa [Value.ownBlock] using hk
    subst this
    exact ⟨_, _, hg⟩
end

/-- a list of bytes is handed back, and a number -/
def GivesBE (w : World) (ys : List Int) (x : Int) (e : Ending) (w' : World) : Prop :=
  ∃ A c, e = .returned (.tuple #[.slice A ys.length c, .int .i64 x]) ∧ Bs w' w'.heap.size A ys.length ys ∧ (ys.length ≤ c ∧ c ≤ 9223372036854775807) ∧ Below w.heap.size w w'
/-- between two parts: the bytes so far -/
def PutI (w : World) (q : Nat) (ps : List (List Int)) (j : Nat) (W : World) : Prop :=
  (∃ A c, BlkV W 28 q [.slice A (upto ps j).length c] ∧ OwnB 5 W (q + 1) A (upto ps j).length c (upto ps j)) ∧ Below w.heap.size w W
/-- how long the slice in a variable is -/
def lenAt (q : Nat) (w : World) : Nat := match w.cell? ⟨q, 0, none⟩ with
  | some (.slice _ n _) => n
  | _ => 0
theorem lenAt_eq {w : World} {q n c : Nat} {A : Option Addr} (h : w.cell? ⟨q, 0, none⟩ = some (.slice A n c)) : lenAt q w = n := by unfold lenAt; rw [h]

end Go.Proofs.Ytnfiijbnfmcpjaa
