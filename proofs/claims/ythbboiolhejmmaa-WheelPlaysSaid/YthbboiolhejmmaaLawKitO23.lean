/- Arguments opened: a slice of calls (three ints each). No condition. -/
import Derived.Test.YthbboiolhejmmaaLawKitE
import Derived.Test.YthbboiolhejmmaaTr3
set_option maxRecDepth 100000
namespace Go.Proofs.Ythbboiolhejmmaa
open Go.ChangeShapes Go.WideShapes Go.ChangeAt Go.RowKit
set_option linter.unusedVariables false

theorem open_ops23 {H : Type} {enc : TypeId × Value → H} {W : World} {v : Value} {base : Nat} {d : DataW H} {p : List MemPlace} (hval : Value.okWide Try.prog W .any base 22 v) (h0 : DataW.Trod enc Try.prog W 0 (fun _ => true) true 22 v d p) (hw : ∀ x ∈ d.weights Try.prog 22, x ≤ reachBytes) :
    ∃ (A : Option Addr) (n c : Nat) (l : List (Int × Int × Int)), v = .slice A n c ∧ n ≤ c ∧ c ≤ 140737488351232 ∧ Es tr3E W W.heap.size A n l := by
  refine open_es tr3E Try.underlying22 (by kernel_rfl) (by decide +kernel) (fun W fuel cs x hl ht => ?_) hval h0 hw
  have hci : Try.prog.cellsOf 3 = 1 := by kernel_rfl
  obtain ⟨xs, n, _, _, _, hlen, hq⟩ := DataW.trod_struct Try.underlying27 ht
  have hx : xs.length = 3 := hlen
  have q0 := hq 0 _ rfl
  have q1 := hq 1 _ rfl
  have q2 := hq 2 _ rfl
  rw [List.getElem?_eq_getElem (by omega)] at q0 q1 q2
  obtain ⟨a0, e0, -, k0⟩ := DataW.trod_int Try.underlying3 q0
  obtain ⟨a1, e1, -, k1⟩ := DataW.trod_int Try.underlying3 q1
  obtain ⟨a2, e2, -, k2⟩ := DataW.trod_int Try.underlying3 q2
  replace e0 : List.take (Try.prog.cellsOf 3) (List.drop 0 cs) = [.int .i64 a0] := e0
  replace e1 : List.take (Try.prog.cellsOf 3) (List.drop 1 cs) = [.int .i64 a1] := e1
  replace e2 : List.take (Try.prog.cellsOf 3) (List.drop 2 cs) = [.int .i64 a2] := e2
  rw [hci] at e0 e1 e2
  match cs, hl with
  | [c0, c1, c2], _ =>
    refine ⟨⟨a0, a1, a2⟩, ?_, i64ok_wf k0, i64ok_wf k1, i64ok_wf k2⟩
    simp at e0 e1 e2
    simp [tr3E, e0, e1, e2]
end Go.Proofs.Ythbboiolhejmmaa
