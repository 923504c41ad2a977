/- Objects that there are not, or that no call made: a nil pointer, or a pointer to fresh cells of their type. No condition. -/
import Derived.Test.YthbboiolhejmmaaObj
set_option maxRecDepth 100000
namespace Go.Proofs.Ythbboiolhejmmaa
open Go.RowKit
set_option linter.unusedVariables false

/-- these cells are the fresh ones of a type -/
def IsZero (T : TypeId) (cs : Array Value) : Prop := ((Try.prog.info? T).bind (·.zero)).map (fun z => z.cells) = some cs
/-- there is none, or no call made it -/
def NoOb (T : TypeId) (w : World) (v : Value) : Prop := v = .pointer none ∨ ∃ g cs, v = .pointer (some ⟨g, 0, none⟩) ∧ IsZero T cs ∧ w.heap[g]? = some (.cells cs T (0, 0))
theorem NoOb.none_ (T : TypeId) (w : World) : NoOb T w (.pointer none) := .inl rfl
theorem NoOb.low {T : TypeId} {w w' : World} {v : Value} (h : NoOb T w v) (hl : Low w w') : NoOb T w' v := by
  rcases h with h | ⟨g, cs, h, hz, hb⟩
  · exact .inl h
  · exact .inr ⟨g, cs, h, hz, (hl.block g (Array.getElem?_eq_some_iff.1 hb).1).trans hb⟩
theorem NoOb.out {T : TypeId} {F : Nat → Prop} {w w' : World} {v : Value} (h : NoOb T w v) (hF : ∀ g, v = .pointer (some ⟨g, 0, none⟩) → ¬ F g) (hO : Out F w w') : NoOb T w' v := by
  rcases h with h | ⟨g, cs, h, hz, hb⟩
  · exact .inl h
  · exact .inr ⟨g, cs, h, hz, (hO.block g (Array.getElem?_eq_some_iff.1 hb).1 (hF g h)).trans hb⟩
theorem NoOb.new {T : TypeId} (w : World) {cs : Array Value} (h : IsZero T cs) : NoOb T (w.alloc (.cells cs T)) (.pointer (some ⟨w.heap.size, 0, none⟩)) := .inr ⟨_, cs, rfl, h, heap_alloc_new w _⟩
end Go.Proofs.Ythbboiolhejmmaa
