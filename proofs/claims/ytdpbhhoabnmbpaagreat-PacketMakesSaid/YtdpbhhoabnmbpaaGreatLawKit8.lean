/- Arguments opened: a segment (eight numbers, a slice of options, a slice of bytes). No condition. -/
import Derived.Test.YtdpbhhoabnmbpaaGreatLawKit7
import Derived.Test.YtdpbhhoabnmbpaaGreatJTc
set_option maxRecDepth 100000
namespace Go.Proofs.YtdpbhhoabnmbpaaGreat
open Go.ChangeShapes Go.WideShapes Go.ChangeAt Go.RowKit

section
variable {H : Type} {enc : TypeId × Value → H}
theorem u32ok_wf {a : Int} (h : (Lit.int .u32 a).wf = true) : 0 ≤ a ∧ a < 4294967296 := by
  simp [Lit.wf, IntKind.min, IntKind.max, IntKind.signed, IntKind.bits] at h
  omega
/-- the ten cells of a segment -/
theorem trod_seg {W : World} {fuel : Nat} {cs : List Value} {x : DataW H × List MemPlace} (hl : cs.length = 10) (h : DataW.trod enc Tryz.prog W 0 (fun _ => true) true fuel 34 cs = some x) (hy : ∀ y ∈ x.1.weights Tryz.prog 34, y ≤ reachBytes) :
    ∃ t : Sg, cs = segC t ∧ t.ok W W.heap.size := by
  have hci : Tryz.prog.cellsOf 3 = 1 := by kernel_rfl
  have hcu : Tryz.prog.cellsOf 31 = 1 := by kernel_rfl
  have hcs : Tryz.prog.cellsOf 22 = 1 := by kernel_rfl
  have hco : Tryz.prog.cellsOf 32 = 1 := by kernel_rfl
  obtain ⟨xs, n, _, rfl, _, hlen, hq⟩ := DataW.trod_struct Tryz.underlying34 h
  have hx : xs.length = 10 := hlen
  have q0 := hq 0 _ rfl
  have q1 := hq 1 _ rfl
  have q2 := hq 2 _ rfl
  have q3 := hq 3 _ rfl
  have q4 := hq 4 _ rfl
  have q5 := hq 5 _ rfl
  have q6 := hq 6 _ rfl
  have q7 := hq 7 _ rfl
  have q8 := hq 8 _ rfl
  have q9 := hq 9 _ rfl
  rw [List.getElem?_eq_getElem (by omega)] at q0 q1 q2 q3 q4 q5 q6 q7 q8 q9
  obtain ⟨a0, e0, -, k0⟩ := DataW.trod_int Tryz.underlying3 q0
  obtain ⟨a1, e1, -, k1⟩ := DataW.trod_int Tryz.underlying3 q1
  obtain ⟨a2, e2, -, k2⟩ := DataW.trod_int Tryz.underlying31 q2
  obtain ⟨a3, e3, -, k3⟩ := DataW.trod_int Tryz.underlying31 q3
  obtain ⟨a4, e4, -, k4⟩ := DataW.trod_int Tryz.underlying3 q4
  obtain ⟨a5, e5, -, k5⟩ := DataW.trod_int Tryz.underlying3 q5
  obtain ⟨a6, e6, -, k6⟩ := DataW.trod_int Tryz.underlying3 q6
  obtain ⟨a7, e7, -, k7⟩ := DataW.trod_int Tryz.underlying3 q7
  obtain ⟨A, m, c, os, e8, hm, hos⟩ := trod_opts q8 fun y h => hy y (by
    simp only [DataW.weights, Tryz.underlying34, List.map_cons, List.map_nil]
    exact DataW.weights_mem_each (j := 8) rfl (by simp [hx]) y h)
  obtain ⟨B, k, r, ys, e9, hw9, hb9⟩ := trod_bytes q9
  have hk : k ≤ 140737488351232 := hw9 fun y h => hy y (by
    simp only [DataW.weights, Tryz.underlying34, List.map_cons, List.map_nil]
    exact DataW.weights_mem_each (j := 9) rfl (by simp [hx]) y h)
  replace e0 : List.take (Tryz.prog.cellsOf 3) (List.drop 0 cs) = [.int .i64 a0] := e0
  replace e1 : List.take (Tryz.prog.cellsOf 3) (List.drop 1 cs) = [.int .i64 a1] := e1
  replace e2 : List.take (Tryz.prog.cellsOf 31) (List.drop 2 cs) = [.int .u32 a2] := e2
  replace e3 : List.take (Tryz.prog.cellsOf 31) (List.drop 3 cs) = [.int .u32 a3] := e3
  replace e4 : List.take (Tryz.prog.cellsOf 3) (List.drop 4 cs) = [.int .i64 a4] := e4
  replace e5 : List.take (Tryz.prog.cellsOf 3) (List.drop 5 cs) = [.int .i64 a5] := e5
  replace e6 : List.take (Tryz.prog.cellsOf 3) (List.drop 6 cs) = [.int .i64 a6] := e6
  replace e7 : List.take (Tryz.prog.cellsOf 3) (List.drop 7 cs) = [.int .i64 a7] := e7
  replace e8 : List.take (Tryz.prog.cellsOf 32) (List.drop 8 cs) = [.slice A m c] := e8
  replace e9 : List.take (Tryz.prog.cellsOf 22) (List.drop 9 cs) = [.slice B k r] := e9
  rw [hci] at e0 e1 e4 e5 e6 e7
  rw [hcu] at e2 e3
  rw [hco] at e8
  rw [hcs] at e9
  refine ⟨⟨a0, a1, a2, a3, a4, a5, a6, a7, A, m, c, os, B, k, r, ys⟩, ?_, ⟨i64ok_wf k0, i64ok_wf k1, u32ok_wf k2, u32ok_wf k3, i64ok_wf k4, i64ok_wf k5, i64ok_wf k6, i64ok_wf k7, hm, hos, hk, hb9⟩⟩
  match cs, hl with
  | [v0, v1, v2, v3, v4, v5, v6, v7, v8, v9], _ =>
    simp at e0 e1 e2 e3 e4 e5 e6 e7 e8 e9
    simp [segC, e0, e1, e2, e3, e4, e5, e6, e7, e8, e9]
theorem open_seg {W : World} {v : Value} {base : Nat} {d : DataW H} {p : List MemPlace} (hval : Value.okWide Tryz.prog W .any base 34 v) (h0 : DataW.Trod enc Tryz.prog W 0 (fun _ => true) true 34 v d p) (hwt : ∀ x ∈ d.weights Tryz.prog 34, x ≤ reachBytes) :
    ∃ t : Sg, v = segV t ∧ t.ok W W.heap.size := by
  have hc2 : Tryz.prog.cellsOf 34 = 10 := by kernel_rfl
  unfold Value.okWide at hval
  rw [Tryz.underlying34] at hval
  obtain ⟨⟨cs⟩, rfl, hs, _⟩ := hval
  rw [hc2] at hs
  obtain ⟨fuel, hf⟩ := h0
  obtain ⟨t, e, hok⟩ := trod_seg (cs := cs) hs hf hwt
  exact ⟨t, by rw [e]; rfl, hok⟩
end
end Go.Proofs.YtdpbhhoabnmbpaaGreat
