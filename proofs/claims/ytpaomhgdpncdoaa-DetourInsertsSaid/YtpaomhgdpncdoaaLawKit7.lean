/- Arguments opened: a slice of options (an int and a slice of bytes). No condition. -/
import Derived.Test.YtpaomhgdpncdoaaJKit
import Derived.Test.YtpaomhgdpncdoaaJTp
import Derived.Deep.Slices
namespace Go.Proofs.Ytpaomhgdpncdoaa
open Go.ChangeShapes Go.WideShapes Go.ChangeAt Go.RowKit

instance : Inhabited Od := ⟨zeroO⟩
section
variable {H : Type} {enc : TypeId × Value → H}
/-- the one cell of a slice of bytes -/
theorem trod_bytes {W : World} {fuel : Nat} {cs : List Value} {x : DataW H × List MemPlace} (h : DataW.trod enc Try.prog W 0 (fun _ => true) true fuel 22 cs = some x) :
    ∃ (A : Option Addr) (n c : Nat) (xs : List Int), cs = [.slice A n c] ∧ ((∀ y ∈ x.1.weights Try.prog 22, y ≤ reachBytes) → n ≤ 140737488351232) ∧ Bs W W.heap.size A n xs := by
  have hc1 : Try.prog.cellsOf 5 = 1 := by kernel_rfl
  have hb1 : Try.prog.bytesOf 5 = 1 := by kernel_rfl
  rcases open_ints Try.underlying22 Try.underlying5 hc1 h with ⟨rfl, rfl⟩ | ⟨a, n, c, zs, rfl, _, hl, hm, hz, rfl, hcell, hwz⟩
  · exact ⟨none, 0, 0, [], rfl, fun _ => Nat.zero_le _, Bs.nil _ _ _⟩
  · simp only [if_true] at hz
    refine ⟨some a, n, c, zs.take n, rfl, fun hw => ?_, by simp; omega, fun y hy => byte_wf (hwz y (List.mem_of_mem_take hy)), fun hn => ?_⟩
    · have := hw (((lits (H := H) .u8 (zs.take n)).length + (lits (H := H) .u8 (zs.drop n)).length) * Try.prog.bytesOf 5) (by simp only [DataW.weights, Try.underlying22]; exact List.mem_cons_self)
      rw [hb1] at this
      simp [lits, hz, reachBytes] at this
      omega
    · have h0 := hcell 0 (by omega)
      obtain ⟨b, o, s⟩ := a
      obtain rfl : s = none := by simpa [Addr.add] using World.cell?_spot h0
      refine ⟨b, o, rfl, World.block_lt_of_cell? _ _ (by simpa [Addr.add] using h0), fun i hi => ?_⟩
      have := hcell i (by omega)
      rw [Addr.add_lit] at this
      rw [this]
      simp [List.getD, hi]

theorem weights_all {P : Program} {e : TypeId} {y : Nat} : ∀ {ds : List (DataW H)} {d : DataW H}, d ∈ ds → y ∈ d.weights P e → y ∈ DataW.weightsAll P e ds
  | [], _, h, _ => by cases h
  | a :: ds, d, h, hy => by
    unfold DataW.weightsAll
    rcases List.mem_cons.1 h with rfl | h
    · exact List.mem_append_left _ hy
    · exact List.mem_append_right _ (weights_all h hy)

end
end Go.Proofs.Ytpaomhgdpncdoaa
