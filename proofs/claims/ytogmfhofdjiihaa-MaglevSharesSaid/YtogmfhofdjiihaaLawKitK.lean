/- Arguments opened: a key of the hash. No condition. -/
import Derived.Test.YtogmfhofdjiihaaJKit
import Derived.Test.YtogmfhofdjiihaaKdE
import Derived.Test.YtogmfhofdjiihaaRows
set_option maxRecDepth 100000
namespace Go.Proofs.Ytogmfhofdjiihaa
open Go.ChangeShapes Go.WideShapes Go.ChangeAt Go.RowKit

section
variable {H : Type} {enc : TypeId × Value → H}
theorem open_key {W : World} {v : Value} {base : Nat} {d : DataW H} {p : List MemPlace} (hval : Value.okWide Try.prog W .any base 24 v) (h0 : DataW.Trod enc Try.prog W 0 (fun _ => true) true 24 v d p) :
    ∃ a b : Int, v = keyV a b := by
  have hc2 : Try.prog.cellsOf 24 = 2 := by kernel_rfl
  have hci : Try.prog.cellsOf 22 = 1 := by kernel_rfl
  unfold Value.okWide at hval
  rw [Try.underlying24] at hval
  obtain ⟨⟨cs⟩, rfl, hs, _⟩ := hval
  rw [hc2] at hs
  obtain ⟨fuel, hf⟩ := h0
  obtain ⟨xs, n, _, _, hl, hlen, hq⟩ := DataW.trod_struct (cs := cs) Try.underlying24 hf
  have hx : xs.length = 2 := hlen
  have q0 := hq 0 _ rfl
  have q1 := hq 1 _ rfl
  rw [List.getElem?_eq_getElem (by omega)] at q0 q1
  obtain ⟨a, e0, -, k0⟩ := DataW.trod_int Try.underlying22 q0
  obtain ⟨b, e1, -, k1⟩ := DataW.trod_int Try.underlying22 q1
  replace e0 : List.take (Try.prog.cellsOf 22) (List.drop 0 cs) = [.int .u64 a] := e0
  replace e1 : List.take (Try.prog.cellsOf 22) (List.drop 1 cs) = [.int .u64 b] := e1
  rw [hci] at e0 e1
  refine ⟨a, b, ?_⟩
  have hs2 : cs.length = 2 := hs
  match cs, hs2 with
  | [x, y], _ =>
    simp at e0 e1
    rw [e0, e1]
    rfl
end
end Go.Proofs.Ytogmfhofdjiihaa
