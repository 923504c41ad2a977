/- A slice of addresses that comes in is opened. No condition. -/
import Derived.Test.YtdpbhhoabnmbpaaGreatLawKitR
set_option maxRecDepth 100000
namespace Go.Proofs.YtdpbhhoabnmbpaaGreat
open Go.RowKit Go.ChangeShapes Go.WideShapes
section
variable {H : Type} {enc : TypeId × Value → H}
theorem open_addrs {W : World} {v : Value} {base : Nat} {d : DataW H} {p : List MemPlace} (hval : Value.okWide Tryz.prog W .any base 27 v) (h0 : DataW.Trod enc Tryz.prog W 0 (fun _ => true) true 27 v d p) (hwt : ∀ x ∈ d.weights Tryz.prog 27, x ≤ reachBytes) :
    ∃ (A : Option Addr) (n c : Nat) (l : List (List Int)), v = .slice A n c ∧ n ≤ 140737488351232 ∧ As W W.heap.size A n l := by
  obtain ⟨A, n, c, rfl⟩ : ∃ A n c, v = .slice A n c := by
    cases v <;> simp [Value.okWide, Cell.okWide, Cell.ok, Tryz.underlying27] at hval
    exact ⟨_, _, _, rfl⟩
  obtain ⟨fuel, hf⟩ := h0
  obtain ⟨A', n', c', l, hcs, hbig, hos⟩ := trod_addrs hf hwt
  simp [Value.cells] at hcs
  obtain ⟨rfl, rfl, rfl⟩ := hcs
  exact ⟨A, n, c, l, rfl, hbig, hos⟩
end
end Go.Proofs.YtdpbhhoabnmbpaaGreat
