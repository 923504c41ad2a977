/- Arguments opened: a routing header (four ints, a slice of addresses, a slice of parts). No condition. -/
import Derived.Test.YtpaomhgdpncdoaaLawKitT
import Derived.Test.YtpaomhgdpncdoaaJKit
import Derived.Test.YtpaomhgdpncdoaaJSrA
namespace Go.Proofs.Ytpaomhgdpncdoaa
open Go.ChangeShapes Go.WideShapes Go.ChangeAt Go.RowKit

section
variable {H : Type} {enc : TypeId × Value → H}
/-- the one cell of a slice of addresses -/
theorem trod_addrs {W : World} {fuel : Nat} {cs : List Value} {x : DataW H × List MemPlace} (hf : DataW.trod enc Try.prog W 0 (fun _ => true) true fuel 23 cs = some x) (hwt : ∀ y ∈ x.1.weights Try.prog 23, y ≤ reachBytes) :
    ∃ (A : Option Addr) (n c : Nat) (l : List (List Int)), cs = [.slice A n c] ∧ n ≤ 140737488351232 ∧ As W W.heap.size A n l := by
  have hc2 : Try.prog.cellsOf 39 = 16 := by kernel_rfl
  have hb3 : Try.prog.bytesOf 39 = 16 := by kernel_rfl
  rcases Go.Deep.open_slice Try.underlying23 hf with ⟨hcs, _⟩ | ⟨a, n, c, m, k, D, Pl, hcs, _, hl, hm, hmm, hx, hi⟩
  · exact ⟨none, 0, 0, [], hcs, Nat.zero_le _, As.nil _ _ _⟩
  · simp only [if_true] at hmm
    subst hmm
    subst hx
    rw [hc2] at hi
    have hbig : n ≤ 140737488351232 := by
      have := hwt ((((List.range n).map D).length + ((List.range (m - n)).map fun j => D (n + j)).length) * Try.prog.bytesOf 39) (by simp only [DataW.weights, Try.underlying23]; exact List.mem_cons_self)
      rw [hb3] at this
      simp only [List.length_map, List.length_range, reachBytes] at this
      omega
    have each : ∀ i, i < n → ∃ s : List Int, (s.length = 16 ∧ AllB s) ∧ ∀ j, j < 16 → W.cell? (a.add (i * 16 + j)) = some (.int .u8 (s.getD j 0)) := fun i hin => by
      obtain ⟨cs', hcl, ht⟩ := hi i (by omega)
      obtain ⟨_, hlen, hcell⟩ := World.cells?_some hcl
      obtain ⟨s, hs, rfl, ha⟩ := trod_addr hlen ht
      refine ⟨s, ⟨hs, ha⟩, fun j hj => ?_⟩
      have c0 := hcell j (by omega)
      rw [Go.Deep.add_add] at c0
      rw [c0, ← cellsB_get (by omega)]
    obtain ⟨f, hf2⟩ := Go.Deep.choose_lt each
    have hall : AllA ((List.range n).map f) := fun q hq => by
      obtain ⟨i, hin, rfl⟩ := List.mem_map.1 hq
      exact (hf2 i (by simpa using hin)).1
    have hget : ∀ i, i < n → ((List.range n).map f).getD i zero16 = f i := fun i hin => by simp [List.getD, hin]
    refine ⟨some a, n, _, (List.range n).map f, hcs, hbig, by simp, hall, fun hn => ?_⟩
    have h0 := (hf2 0 hn).2 0 (by omega)
    obtain ⟨b, o, s⟩ := a
    obtain rfl : s = none := by simpa [Addr.add] using World.cell?_spot h0
    refine ⟨b, o, rfl, World.block_lt_of_cell? _ _ (by simpa [Addr.add] using h0), fun j hj => ?_⟩
    have h1 := (hf2 (j / 16) (by omega)).2 (j % 16) (by omega)
    rw [Addr.add_lit] at h1
    have e1 : j / 16 * 16 + j % 16 = j := by omega
    have h2 := flatA_get hall (i := j / 16) (j := j % 16) (by simp; omega) (by omega)
    rw [hget _ (by omega), e1] at h2
    rw [e1] at h1
    rw [h1, h2]
/-- the six cells of a routing header -/
theorem trod_srh {W : World} {fuel : Nat} {cs : List Value} {x : DataW H × List MemPlace} (hl : cs.length = 6) (h : DataW.trod enc Try.prog W 0 (fun _ => true) true fuel 26 cs = some x) (hy : ∀ y ∈ x.1.weights Try.prog 26, y ≤ reachBytes) :
    ∃ s : Sr, cs = srC s ∧ s.ok W W.heap.size := by
  have hci : Try.prog.cellsOf 3 = 1 := by kernel_rfl
  have hca : Try.prog.cellsOf 23 = 1 := by kernel_rfl
  have hct : Try.prog.cellsOf 24 = 1 := by kernel_rfl
  obtain ⟨xs, n, _, rfl, _, hlen, hq⟩ := DataW.trod_struct Try.underlying26 h
  have hx : xs.length = 6 := hlen
  have q0 := hq 0 _ rfl
  have q1 := hq 1 _ rfl
  have q2 := hq 2 _ rfl
  have q3 := hq 3 _ rfl
  have q4 := hq 4 _ rfl
  have q5 := hq 5 _ rfl
  rw [List.getElem?_eq_getElem (by omega)] at q0 q1 q2 q3 q4 q5
  obtain ⟨a0, e0, -, k0⟩ := DataW.trod_int Try.underlying3 q0
  obtain ⟨a1, e1, -, k1⟩ := DataW.trod_int Try.underlying3 q1
  obtain ⟨a2, e2, -, k2⟩ := DataW.trod_int Try.underlying3 q2
  obtain ⟨a3, e3, -, k3⟩ := DataW.trod_int Try.underlying3 q3
  obtain ⟨A, m, c, l, e4, hm, hos⟩ := trod_addrs q4 fun y h => hy y (by
    simp only [DataW.weights, Try.underlying26, List.map_cons, List.map_nil]
    exact DataW.weights_mem_each (j := 4) rfl (by simp [hx]) y h)
  obtain ⟨B, k, r, os, e5, hk, hos5⟩ := trod_tlvs q5 fun y h => hy y (by
    simp only [DataW.weights, Try.underlying26, List.map_cons, List.map_nil]
    exact DataW.weights_mem_each (j := 5) rfl (by simp [hx]) y h)
  replace e0 : List.take (Try.prog.cellsOf 3) (List.drop 0 cs) = [.int .i64 a0] := e0
  replace e1 : List.take (Try.prog.cellsOf 3) (List.drop 1 cs) = [.int .i64 a1] := e1
  replace e2 : List.take (Try.prog.cellsOf 3) (List.drop 2 cs) = [.int .i64 a2] := e2
  replace e3 : List.take (Try.prog.cellsOf 3) (List.drop 3 cs) = [.int .i64 a3] := e3
  replace e4 : List.take (Try.prog.cellsOf 23) (List.drop 4 cs) = [.slice A m c] := e4
  replace e5 : List.take (Try.prog.cellsOf 24) (List.drop 5 cs) = [.slice B k r] := e5
  rw [hci] at e0 e1 e2 e3
  rw [hca] at e4
  rw [hct] at e5
  refine ⟨⟨a0, a1, a2, a3, A, m, c, l, B, k, r, os⟩, ?_, ⟨i64ok_wf k0, i64ok_wf k1, i64ok_wf k2, i64ok_wf k3, hm, hos, hk, hos5⟩⟩
  match cs, hl with
  | [v0, v1, v2, v3, v4, v5], _ =>
    simp at e0 e1 e2 e3 e4 e5
    simp [srC, e0, e1, e2, e3, e4, e5]
theorem open_srh {W : World} {v : Value} {base : Nat} {d : DataW H} {p : List MemPlace} (hval : Value.okWide Try.prog W .any base 26 v) (h0 : DataW.Trod enc Try.prog W 0 (fun _ => true) true 26 v d p) (hwt : ∀ x ∈ d.weights Try.prog 26, x ≤ reachBytes) :
    ∃ s : Sr, v = srV s ∧ s.ok W W.heap.size := by
  have hc2 : Try.prog.cellsOf 26 = 6 := by kernel_rfl
  unfold Value.okWide at hval
  rw [Try.underlying26] at hval
  obtain ⟨⟨cs⟩, rfl, hs, _⟩ := hval
  rw [hc2] at hs
  obtain ⟨fuel, hf⟩ := h0
  obtain ⟨s, e, hok⟩ := trod_srh (cs := cs) hs hf hwt
  exact ⟨s, by rw [e]; rfl, hok⟩
end
end Go.Proofs.Ytpaomhgdpncdoaa
