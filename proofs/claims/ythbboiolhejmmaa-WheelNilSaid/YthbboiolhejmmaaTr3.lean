/- Three numbers each, in a slice. No condition. -/
import Derived.Test.YthbboiolhejmmaaSlB
import Derived.Test.YthbboiolhejmmaaObj
set_option maxRecDepth 100000
namespace Go.Proofs.Ythbboiolhejmmaa
open Go.RowKit
set_option linter.unusedVariables false

/-- three numbers each, in a slice -/
def tr3E : Elt (Int × Int × Int) := ⟨fun x => [.int .i64 x.1, .int .i64 x.2.1, .int .i64 x.2.2], fun x => i64ok x.1 ∧ i64ok x.2.1 ∧ i64ok x.2.2, 3, by decide, fun _ _ => rfl, fun a u hu => by
  simp only [List.mem_cons, List.not_mem_nil, or_false] at hu
  rcases hu with rfl | rfl | rfl <;> rfl, (0, 0, 0), by unfold i64ok; simp⟩
theorem tr3_at {w : World} {B n : Nat} {A : Option Addr} {l : List (Int × Int × Int)} (h : Es tr3E w B A n l) {i : Nat} (hi : i < n) : ∃ b o, A = some ⟨b, o, none⟩ ∧ b < B ∧ w.cell? ⟨b, o + i * 3, none⟩ = some (.int .i64 (l.getD i (0, 0, 0)).1) ∧ w.cell? ⟨b, o + i * 3 + 1, none⟩ = some (.int .i64 (l.getD i (0, 0, 0)).2.1) ∧
    w.cell? ⟨b, o + i * 3 + 2, none⟩ = some (.int .i64 (l.getD i (0, 0, 0)).2.2) ∧ i64ok (l.getD i (0, 0, 0)).1 ∧ i64ok (l.getD i (0, 0, 0)).2.1 ∧ i64ok (l.getD i (0, 0, 0)).2.2 := by
  obtain ⟨b, o, rfl, hb, _⟩ := h.mem (by omega)
  have h1 := (h.at_ hi).2
  exact ⟨b, o, rfl, hb, h1 0 _ rfl, h1 1 _ rfl, h1 2 _ rfl, Elt.all_getD (E := tr3E) h.all i⟩

end Go.Proofs.Ythbboiolhejmmaa
