/- Arguments opened: a slice of options (an int and a slice of bytes). No condition. -/
import Derived.Test.YtdpbhhoabnmbpaaGreatJKit
import Derived.Test.YtdpbhhoabnmbpaaGreatJTp
import Derived.Deep.Slices
set_option maxRecDepth 100000
namespace Go.Proofs.YtdpbhhoabnmbpaaGreat
open Go.ChangeShapes Go.WideShapes Go.ChangeAt Go.RowKit

instance : Inhabited Od := ⟨zeroO⟩
section
variable {H : Type} {enc : TypeId × Value → H}
/-- the one cell of a slice of bytes -/
theorem trod_bytes {W : World} {fuel : Nat} {cs : List Value} {x : DataW H × List MemPlace} (h : DataW.trod enc Tryz.prog W 0 (fun _ => true) true fuel 22 cs = some x) :
    ∃ (A : Option Addr) (n c : Nat) (xs : List Int), cs = [.slice A n c] ∧ ((∀ y ∈ x.1.weights Tryz.prog 22, y ≤ reachBytes) → n ≤ 140737488351232) ∧ Bs W W.heap.size A n xs := by
  have hc1 : Tryz.prog.cellsOf 5 = 1 := by kernel_rfl
  have hb1 : Tryz.prog.bytesOf 5 = 1 := by kernel_rfl
  rcases open_ints Tryz.underlying22 Tryz.underlying5 hc1 h with ⟨rfl, rfl⟩ | ⟨a, n, c, zs, rfl, _, hl, hm, hz, rfl, hcell, hwz⟩
  · exact ⟨none, 0, 0, [], rfl, fun _ => Nat.zero_le _, Bs.nil _ _ _⟩
  · simp only [if_true] at hz
    refine ⟨some a, n, c, zs.take n, rfl, fun hw => ?_, by simp; omega, fun y hy => byte_wf (hwz y (List.mem_of_mem_take hy)), fun hn => ?_⟩
    · have := hw (((lits (H := H) .u8 (zs.take n)).length + (lits (H := H) .u8 (zs.drop n)).length) * Tryz.prog.bytesOf 5) (by simp only [DataW.weights, Tryz.underlying22]; exact List.mem_cons_self)
      rw [hb1] at this
      simp [lits, hz, reachBytes] at this
      omega
    · have h0 := hcell 0 (by omega)
      obtain ⟨b, o, s⟩ := a
      obtain rfl : s = none := by simpa [Addr.add] using World.cell?_spot h0
      refine ⟨b, o, rfl, World.block_lt_of_cell? _ _ (by simpa [Addr.add] using h0), fun i hi => ?_⟩
      have := hcell i (by omega)
      rw [Addr.add_lit] at this
      rw [this]
      simp [List.getD, hi]

/-- the two cells of an option -/
theorem trod_opt {W : World} {fuel : Nat} {cs : List Value} {x : DataW H × List MemPlace} (hl : cs.length = 2) (h : DataW.trod enc Tryz.prog W 0 (fun _ => true) true fuel 146 cs = some x) :
    ∃ o : Od, cs = odC o ∧ ((∀ y ∈ x.1.weights Tryz.prog 146, y ≤ reachBytes) → o.ok W W.heap.size) := by
  have hci : Tryz.prog.cellsOf 3 = 1 := by kernel_rfl
  have hcs : Tryz.prog.cellsOf 22 = 1 := by kernel_rfl
  obtain ⟨xs, n, _, rfl, _, hlen, hq⟩ := DataW.trod_struct Tryz.underlying146 h
  have hx : xs.length = 2 := hlen
  have q0 := hq 0 _ rfl
  have q1 := hq 1 _ rfl
  rw [List.getElem?_eq_getElem (by omega)] at q0 q1
  obtain ⟨a0, e0, -, k0⟩ := DataW.trod_int Tryz.underlying3 q0
  obtain ⟨A, m, c, ys, e1, hw, hb⟩ := trod_bytes q1
  replace e0 : List.take (Tryz.prog.cellsOf 3) (List.drop 0 cs) = [.int .i64 a0] := e0
  replace e1 : List.take (Tryz.prog.cellsOf 22) (List.drop 1 cs) = [.slice A m c] := e1
  rw [hci] at e0
  rw [hcs] at e1
  match cs, hl, xs, hx with
  | [c0, c1], _, [x0, x1], _ =>
    refine ⟨⟨a0, A, m, c, ys⟩, ?_, fun hy => ⟨i64ok_wf k0, ?_, hb⟩⟩
    · simp at e0 e1
      simp [odC, e0, e1]
    · have hm : m ≤ 140737488351232 := hw fun y h => hy y (by
        simp only [DataW.weights, Tryz.underlying146, List.map_cons, List.map_nil, DataW.weightsEach]
        exact List.mem_append_right _ (List.mem_append_left _ h))
      show m ≤ _
      omega

theorem weights_all {P : Program} {e : TypeId} {y : Nat} : ∀ {ds : List (DataW H)} {d : DataW H}, d ∈ ds → y ∈ d.weights P e → y ∈ DataW.weightsAll P e ds
  | [], _, h, _ => by cases h
  | a :: ds, d, h, hy => by
    unfold DataW.weightsAll
    rcases List.mem_cons.1 h with rfl | h
    · exact List.mem_append_left _ hy
    · exact List.mem_append_right _ (weights_all h hy)

/-- the one cell of a slice of options -/
theorem trod_opts {W : World} {fuel : Nat} {cs : List Value} {x : DataW H × List MemPlace} (hf : DataW.trod enc Tryz.prog W 0 (fun _ => true) true fuel 32 cs = some x) (hwt : ∀ y ∈ x.1.weights Tryz.prog 32, y ≤ reachBytes) :
    ∃ (A : Option Addr) (n c : Nat) (os : List Od), cs = [.slice A n c] ∧ n ≤ 140737488351232 ∧ Os W W.heap.size A n os := by
  have hc2 : Tryz.prog.cellsOf 146 = 2 := by kernel_rfl
  have hb3 : Tryz.prog.bytesOf 146 = 32 := by kernel_rfl
  rcases Go.Deep.open_slice Tryz.underlying32 hf with ⟨hcs, _⟩ | ⟨a, n, c, m, k, D, Pl, hcs, _, hl, hm, hmm, hx, hi⟩
  · exact ⟨none, 0, 0, [], hcs, Nat.zero_le _, Os.nil _ _ _⟩
  · simp only [if_true] at hmm
    subst hmm
    subst hx
    rw [hc2] at hi
    have hbig : n ≤ 140737488351232 := by
      have := hwt ((((List.range n).map D).length + ((List.range (m - n)).map fun j => D (n + j)).length) * Tryz.prog.bytesOf 146) (by simp only [DataW.weights, Tryz.underlying32]; exact List.mem_cons_self)
      rw [hb3] at this
      simp only [List.length_map, List.length_range, reachBytes] at this
      omega
    have each : ∀ i, i < n → ∃ o : Od, o.ok W W.heap.size ∧ W.cell? (a.add (i * 2)) = some (.int .i64 o.k) ∧ W.cell? (a.add (i * 2 + 1)) = some (.slice o.A o.n o.c) := fun i hin => by
      obtain ⟨cs', hcl, ht⟩ := hi i (by omega)
      obtain ⟨_, hlen, hcell⟩ := World.cells?_some hcl
      obtain ⟨o, rfl, hok⟩ := trod_opt hlen ht
      have c0 := hcell 0 (by omega)
      have c1 := hcell 1 (by omega)
      rw [Go.Deep.add_add] at c0 c1
      refine ⟨o, hok fun y hy => hwt y ?_, c0, c1⟩
      simp only [DataW.weights, Tryz.underlying32]
      exact List.mem_cons_of_mem _ (List.mem_append_left _ (weights_all (List.mem_map.2 ⟨i, by simpa using hin, rfl⟩) hy))
    obtain ⟨f, hf2⟩ := Go.Deep.choose_lt each
    have hget : ∀ i, i < n → ((List.range n).map f).getD i zeroO = f i := fun i hin => by simp [List.getD, hin]
    refine ⟨some a, n, _, (List.range n).map f, hcs, hbig, by simp, fun q hq => ?_, fun hn => ?_⟩
    · obtain ⟨i, hin, rfl⟩ := List.mem_map.1 hq
      exact (hf2 i (by simpa using hin)).1
    · have h0 := (hf2 0 hn).2.1
      obtain ⟨b, o, s⟩ := a
      obtain rfl : s = none := by simpa [Addr.add] using World.cell?_spot h0
      refine ⟨b, o, rfl, World.block_lt_of_cell? _ _ (by simpa [Addr.add] using h0), fun i hin => ?_⟩
      rw [hget i hin]
      obtain ⟨_, c0, c1⟩ := hf2 i hin
      rw [Addr.add_lit] at c0 c1
      rw [← Nat.add_assoc] at c1
      exact ⟨c0, c1⟩
end
end Go.Proofs.YtdpbhhoabnmbpaaGreat
