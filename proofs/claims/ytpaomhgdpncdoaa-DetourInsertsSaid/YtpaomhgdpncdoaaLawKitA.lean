/- A slice of addresses that comes in is opened. No condition. -/
import Derived.Test.YtpaomhgdpncdoaaLawKitR
namespace Go.Proofs.Ytpaomhgdpncdoaa
open Go.RowKit Go.ChangeShapes Go.WideShapes
section
variable {H : Type} {enc : TypeId × Value → H}
theorem open_addrs {W : World} {v : Value} {base : Nat} {d : DataW H} {p : List MemPlace} (hval : Value.okWide Try.prog W .any base 23 v) (h0 : DataW.Trod enc Try.prog W 0 (fun _ => true) true 23 v d p) (hwt : ∀ x ∈ d.weights Try.prog 23, x ≤ reachBytes) :
    ∃ (A : Option Addr) (n c : Nat) (l : List (List Int)), v = .slice A n c ∧ n ≤ 140737488351232 ∧ As W W.heap.size A n l := by
  obtain ⟨A, n, c, rfl⟩ : ∃ A n c, v = .slice A n c := by
    cases v <;> simp [Value.okWide, Cell.okWide, Cell.ok, Try.underlying23] at hval
    exact ⟨_, _, _, rfl⟩
  obtain ⟨fuel, hf⟩ := h0
  obtain ⟨A', n', c', l, hcs, hbig, hos⟩ := trod_addrs hf hwt
  simp [Value.cells] at hcs
  obtain ⟨rfl, rfl, rfl⟩ := hcs
  exact ⟨A, n, c, l, rfl, hbig, hos⟩
end
end Go.Proofs.Ytpaomhgdpncdoaa
