/- Arguments opened: a slice of pushes (a tick and a table). No condition. -/
import Derived.Test.YtedldebomoplmaaLawKitP
import Derived.Test.YtedldebomoplmaaHiG
set_option maxRecDepth 100000
namespace Go.Proofs.Ytedldebomoplmaa
open Go.ChangeShapes Go.WideShapes Go.ChangeAt Go.RowKit
set_option linter.unusedVariables false
section
variable {H : Type} {enc : TypeId × Value → H}
theorem open_sts {W : World} {v : Value} {base : Nat} {d : DataW H} {p : List MemPlace} (hval : Value.okWide Try.prog W .any base 22 v) (h0 : DataW.Trod enc Try.prog W 0 (fun _ => true) true 22 v d p) (hw : ∀ x ∈ d.weights Try.prog 22, x ≤ reachBytes) :
    ∃ (A : Option Addr) (n c : Nat) (l : List Pd), v = .slice A n c ∧ n ≤ c ∧ c ≤ 140737488351232 ∧ Sts W W.heap.size A n l := by
  have hci : Try.prog.cellsOf 3 = 1 := by kernel_rfl
  have hcs : Try.prog.cellsOf 27 = 1 := by kernel_rfl
  obtain ⟨A, n, c, l, e, h1, h2, h3, h4⟩ := open_esP stepE (fun W x => Ns W W.heap.size x.A x.k x.t ∧ x.k ≤ x.c ∧ x.k ≤ 17592186044416) Try.underlying22 (by kernel_rfl) (by decide +kernel) (fun W fuel cs x hl ht => by
    obtain ⟨xs, n, _, rfl, _, hlen, hq⟩ := DataW.trod_struct Try.underlying29 ht
    have hx : xs.length = 2 := hlen
    have q0 := hq 0 _ rfl
    have q1 := hq 1 _ rfl
    rw [List.getElem?_eq_getElem (by omega)] at q0 q1
    obtain ⟨a0, e0, -, k0⟩ := DataW.trod_int Try.underlying3 q0
    obtain ⟨A, m, c, ys, e1, hmc, hw, hb⟩ := trod_nsP q1
    replace e0 : List.take (Try.prog.cellsOf 3) (List.drop 0 cs) = [.int .i64 a0] := e0
    replace e1 : List.take (Try.prog.cellsOf 27) (List.drop 1 cs) = [.slice A m c] := e1
    rw [hci] at e0
    rw [hcs] at e1
    match cs, hl, xs, hx with
    | [c0, c1], _, [x0, x1], _ =>
      refine ⟨⟨a0, A, m, c, ys⟩, ?_, i64ok_wf k0, fun hy => ⟨hb, hmc, ?_⟩⟩
      · simp at e0 e1
        simp [stepE, e0, e1]
      · have hm : m ≤ 17592186043904 := hw fun y h => hy y (by
          simp only [DataW.weights, Try.underlying29, List.map_cons, List.map_nil, DataW.weightsEach]
          exact List.mem_append_right _ (List.mem_append_left _ h))
        show m ≤ _
        omega) hval h0 hw
  exact ⟨A, n, c, l, e, h1, h2, h3, h4⟩
end
end Go.Proofs.Ytedldebomoplmaa
