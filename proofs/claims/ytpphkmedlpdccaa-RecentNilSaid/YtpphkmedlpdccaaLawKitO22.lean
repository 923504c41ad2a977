/- Arguments opened: a slice of calls (two ints each). No condition. -/
import Derived.Test.YtpphkmedlpdccaaLawKitE
import Derived.Test.YtpphkmedlpdccaaSlB
set_option maxRecDepth 100000
namespace Go.Proofs.Ytpphkmedlpdccaa
open Go.ChangeShapes Go.WideShapes Go.ChangeAt Go.RowKit
set_option linter.unusedVariables false

theorem open_ops22 {H : Type} {enc : TypeId × Value → H} {W : World} {v : Value} {base : Nat} {d : DataW H} {p : List MemPlace} (hval : Value.okWide Try.prog W .any base 22 v) (h0 : DataW.Trod enc Try.prog W 0 (fun _ => true) true 22 v d p) (hw : ∀ x ∈ d.weights Try.prog 22, x ≤ reachBytes) :
    ∃ (A : Option Addr) (n c : Nat) (l : List (Int × Int)), v = .slice A n c ∧ n ≤ c ∧ c ≤ 140737488351232 ∧ Es prE W W.heap.size A n l := by
  refine open_es prE Try.underlying22 (by kernel_rfl) (by decide +kernel) (fun W fuel cs x hl ht => ?_) hval h0 hw
  have hci : Try.prog.cellsOf 3 = 1 := by kernel_rfl
  obtain ⟨xs, n, _, _, _, hlen, hq⟩ := DataW.trod_struct Try.underlying28 ht
  have hx : xs.length = 2 := hlen
  have q0 := hq 0 _ rfl
  have q1 := hq 1 _ rfl
  rw [List.getElem?_eq_getElem (by omega)] at q0 q1
  obtain ⟨a0, e0, -, k0⟩ := DataW.trod_int Try.underlying3 q0
  obtain ⟨a1, e1, -, k1⟩ := DataW.trod_int Try.underlying3 q1
  replace e0 : List.take (Try.prog.cellsOf 3) (List.drop 0 cs) = [.int .i64 a0] := e0
  replace e1 : List.take (Try.prog.cellsOf 3) (List.drop 1 cs) = [.int .i64 a1] := e1
  rw [hci] at e0 e1
  match cs, hl with
  | [c0, c1], _ =>
    refine ⟨⟨a0, a1⟩, ?_, i64ok_wf k0, i64ok_wf k1⟩
    simp at e0 e1
    simp [prE, e0, e1]
end Go.Proofs.Ytpphkmedlpdccaa
