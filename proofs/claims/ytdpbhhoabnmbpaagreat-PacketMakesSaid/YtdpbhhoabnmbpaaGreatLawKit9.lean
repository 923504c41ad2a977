/- Arguments opened: a message (three numbers, a slice of bytes). No condition. -/
import Derived.Test.YtdpbhhoabnmbpaaGreatJKit
import Derived.Test.YtdpbhhoabnmbpaaGreatJIc
set_option maxRecDepth 100000
namespace Go.Proofs.YtdpbhhoabnmbpaaGreat
open Go.ChangeShapes Go.WideShapes Go.ChangeAt Go.RowKit

section
variable {H : Type} {enc : TypeId × Value → H}
theorem u32ok_wf9 {a : Int} (h : (Lit.int .u32 a).wf = true) : 0 ≤ a ∧ a < 4294967296 := by
  simp [Lit.wf, IntKind.min, IntKind.max, IntKind.signed, IntKind.bits] at h
  omega
/-- the one cell of a slice of bytes -/
theorem trod_bytes9 {W : World} {fuel : Nat} {cs : List Value} {x : DataW H × List MemPlace} (h : DataW.trod enc Tryz.prog W 0 (fun _ => true) true fuel 22 cs = some x) :
    ∃ (A : Option Addr) (n c : Nat) (xs : List Int), cs = [.slice A n c] ∧ ((∀ y ∈ x.1.weights Tryz.prog 22, y ≤ reachBytes) → n ≤ 140737488351232) ∧ Bs W W.heap.size A n xs := by
  have hc1 : Tryz.prog.cellsOf 5 = 1 := by kernel_rfl
  have hb1 : Tryz.prog.bytesOf 5 = 1 := by kernel_rfl
  rcases open_ints Tryz.underlying22 Tryz.underlying5 hc1 h with ⟨rfl, rfl⟩ | ⟨a, n, c, zs, rfl, _, hl, hm, hz, rfl, hcell, hwz⟩
  · exact ⟨none, 0, 0, [], rfl, fun _ => Nat.zero_le _, Bs.nil _ _ _⟩
  · simp only [if_true] at hz
    refine ⟨some a, n, c, zs.take n, rfl, fun hw => ?_, by simp; omega, fun y hy => byte_wf (hwz y (List.mem_of_mem_take hy)), fun hn => ?_⟩
    · have := hw (((lits (H := H) .u8 (zs.take n)).length + (lits (H := H) .u8 (zs.drop n)).length) * Tryz.prog.bytesOf 5) (by simp only [DataW.weights, Tryz.underlying22]; exact List.mem_cons_self)
      rw [hb1] at this
      simp [lits, hz, reachBytes] at this
      omega
    · have h0 := hcell 0 (by omega)
      obtain ⟨b, o, s⟩ := a
      obtain rfl : s = none := by simpa [Addr.add] using World.cell?_spot h0
      refine ⟨b, o, rfl, World.block_lt_of_cell? _ _ (by simpa [Addr.add] using h0), fun i hi => ?_⟩
      have := hcell i (by omega)
      rw [Addr.add_lit] at this
      rw [this]
      simp [List.getD, hi]

/-- the four cells of a message -/
theorem trod_msg {W : World} {fuel : Nat} {cs : List Value} {x : DataW H × List MemPlace} (hl : cs.length = 4) (h : DataW.trod enc Tryz.prog W 0 (fun _ => true) true fuel 36 cs = some x) (hy : ∀ y ∈ x.1.weights Tryz.prog 36, y ≤ reachBytes) :
    ∃ m : Mg, cs = msgC m ∧ m.ok W W.heap.size := by
  have hci : Tryz.prog.cellsOf 3 = 1 := by kernel_rfl
  have hcu : Tryz.prog.cellsOf 31 = 1 := by kernel_rfl
  have hcs : Tryz.prog.cellsOf 22 = 1 := by kernel_rfl
  obtain ⟨xs, n, _, rfl, _, hlen, hq⟩ := DataW.trod_struct Tryz.underlying36 h
  have hx : xs.length = 4 := hlen
  have q0 := hq 0 _ rfl
  have q1 := hq 1 _ rfl
  have q2 := hq 2 _ rfl
  have q3 := hq 3 _ rfl
  rw [List.getElem?_eq_getElem (by omega)] at q0 q1 q2 q3
  obtain ⟨a0, e0, -, k0⟩ := DataW.trod_int Tryz.underlying3 q0
  obtain ⟨a1, e1, -, k1⟩ := DataW.trod_int Tryz.underlying3 q1
  obtain ⟨a2, e2, -, k2⟩ := DataW.trod_int Tryz.underlying31 q2
  obtain ⟨B, k, r, ys, e3, hw3, hb3⟩ := trod_bytes9 q3
  have hk : k ≤ 140737488351232 := hw3 fun y h => hy y (by
    simp only [DataW.weights, Tryz.underlying36, List.map_cons, List.map_nil]
    exact DataW.weights_mem_each (j := 3) rfl (by simp [hx]) y h)
  replace e0 : List.take (Tryz.prog.cellsOf 3) (List.drop 0 cs) = [.int .i64 a0] := e0
  replace e1 : List.take (Tryz.prog.cellsOf 3) (List.drop 1 cs) = [.int .i64 a1] := e1
  replace e2 : List.take (Tryz.prog.cellsOf 31) (List.drop 2 cs) = [.int .u32 a2] := e2
  replace e3 : List.take (Tryz.prog.cellsOf 22) (List.drop 3 cs) = [.slice B k r] := e3
  rw [hci] at e0 e1
  rw [hcu] at e2
  rw [hcs] at e3
  refine ⟨⟨a0, a1, a2, B, k, r, ys⟩, ?_, ⟨i64ok_wf k0, i64ok_wf k1, u32ok_wf9 k2, hk, hb3⟩⟩
  match cs, hl with
  | [v0, v1, v2, v3], _ =>
    simp at e0 e1 e2 e3
    simp [msgC, e0, e1, e2, e3]
theorem open_msg {W : World} {v : Value} {base : Nat} {d : DataW H} {p : List MemPlace} (hval : Value.okWide Tryz.prog W .any base 36 v) (h0 : DataW.Trod enc Tryz.prog W 0 (fun _ => true) true 36 v d p) (hwt : ∀ x ∈ d.weights Tryz.prog 36, x ≤ reachBytes) :
    ∃ m : Mg, v = msgV m ∧ m.ok W W.heap.size := by
  have hc2 : Tryz.prog.cellsOf 36 = 4 := by kernel_rfl
  unfold Value.okWide at hval
  rw [Tryz.underlying36] at hval
  obtain ⟨⟨cs⟩, rfl, hs, _⟩ := hval
  rw [hc2] at hs
  obtain ⟨fuel, hf⟩ := h0
  obtain ⟨m, e, hok⟩ := trod_msg (cs := cs) hs hf hwt
  exact ⟨m, by rw [e]; rfl, hok⟩
end
end Go.Proofs.YtdpbhhoabnmbpaaGreat
