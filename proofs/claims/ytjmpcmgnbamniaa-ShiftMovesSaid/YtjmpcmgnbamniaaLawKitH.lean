/- Arguments opened: a slice of numbers of 64 bits. No condition. -/
import Derived.Test.YtjmpcmgnbamniaaLawKitE
import Derived.Test.YtjmpcmgnbamniaaShC
set_option maxRecDepth 100000
namespace Go.Proofs.Ytjmpcmgnbamniaa
open Go.ChangeShapes Go.WideShapes Go.ChangeAt Go.RowKit
set_option linter.unusedVariables false

/-- a number of 64 bits as an element -/
def u64H : Elt Int := ⟨fun x => [.int .u64 x], fun x => 0 ≤ x ∧ x < 18446744073709551616, 1, by decide, fun _ _ => rfl, fun a u hu => by
  obtain rfl := List.mem_singleton.1 hu
  rfl, 0, by omega⟩
theorem u64H_hs {w : World} {B n : Nat} {A : Option Addr} {l : List Int} (h : Es u64H w B A n l) : Hs w B A n (l.map Int.toNat) := by
  have e : (l.map Int.toNat).map (fun h : Nat => (h : Int)) = l := by
    rw [List.map_map]
    conv => rhs; rw [← List.map_id l]
    refine List.map_congr_left fun x hx => ?_
    have := (h.all x hx).1
    simp only [Function.comp, id]
    omega
  refine ⟨?_, fun x hx => ?_⟩
  · rw [e]
    exact ⟨h.len, u64E_all _, h.mem⟩
  · obtain ⟨y, hy, rfl⟩ := List.mem_map.1 hx
    obtain ⟨h0, h1⟩ := h.all y hy
    omega
section
variable {H : Type} {enc : TypeId × Value → H}
theorem open_hs {W : World} {v : Value} {base : Nat} {d : DataW H} {p : List MemPlace} (hval : Value.okWide Try.prog W .any base 32 v) (h0 : DataW.Trod enc Try.prog W 0 (fun _ => true) true 32 v d p) (hw : ∀ x ∈ d.weights Try.prog 32, x ≤ reachBytes) :
    ∃ (A : Option Addr) (n c : Nat) (l : List Nat), v = .slice A n c ∧ n ≤ c ∧ c ≤ 140737488351232 ∧ Hs W W.heap.size A n l := by
  obtain ⟨A, n, c, l, e, h1, h2, h3⟩ := open_es u64H Try.underlying32 (by kernel_rfl) (by decide +kernel) (fun W fuel cs x hl ht => by
    match cs, hl with
    | [c0], _ =>
      obtain ⟨a0, e0, -, k0⟩ := DataW.trod_int Try.underlying36 ht
      refine ⟨a0, by simpa [u64H] using e0, ?_⟩
      obtain ⟨H, rfl, hH⟩ := u64_wf k0
      exact ⟨by omega, by omega⟩) hval h0 hw
  exact ⟨A, n, c, _, e, h1, h2, u64H_hs h3⟩
end
end Go.Proofs.Ytjmpcmgnbamniaa
