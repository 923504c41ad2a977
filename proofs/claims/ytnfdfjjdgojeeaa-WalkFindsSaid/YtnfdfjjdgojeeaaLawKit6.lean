/- Arguments opened: a slice of structs of three ints. No condition. -/
import Derived.Test.YtnfdfjjdgojeeaaLawKit2
import Derived.Test.YtnfdfjjdgojeeaaWkA
import Derived.Deep.Slices
namespace Go.Proofs.Ytnfdfjjdgojeeaa
open Go.ChangeShapes Go.WideShapes Go.ChangeAt Go.RowKit

instance : Inhabited Pt := ⟨zeroP⟩
section
variable {H : Type} {enc : TypeId × Value → H}
/-- the three cells of such a struct -/
theorem trod_part {W : World} {fuel : Nat} {cs : List Value} {x : DataW H × List MemPlace} (hl : cs.length = 3) (h : DataW.trod enc Try.prog W 0 (fun _ => true) true fuel 31 cs = some x) :
    ∃ p : Pt, cs = ptC p ∧ p.ok := by
  have hci : Try.prog.cellsOf 3 = 1 := by kernel_rfl
  obtain ⟨xs, n, _, _, _, hlen, hq⟩ := DataW.trod_struct Try.underlying31 h
  have hx : xs.length = 3 := hlen
  have q0 := hq 0 _ rfl
  have q1 := hq 1 _ rfl
  have q2 := hq 2 _ rfl
  rw [List.getElem?_eq_getElem (by omega)] at q0 q1 q2
  obtain ⟨a0, e0, -, k0⟩ := DataW.trod_int Try.underlying3 q0
  obtain ⟨a1, e1, -, k1⟩ := DataW.trod_int Try.underlying3 q1
  obtain ⟨a2, e2, -, k2⟩ := DataW.trod_int Try.underlying3 q2
  replace e0 : List.take (Try.prog.cellsOf 3) (List.drop 0 cs) = [.int .i64 a0] := e0
  replace e1 : List.take (Try.prog.cellsOf 3) (List.drop 1 cs) = [.int .i64 a1] := e1
  replace e2 : List.take (Try.prog.cellsOf 3) (List.drop 2 cs) = [.int .i64 a2] := e2
  rw [hci] at e0 e1 e2
  match cs, hl with
  | [c0, c1, c2], _ =>
    refine ⟨⟨a0, a1, a2⟩, ?_, i64ok_wf k0, i64ok_wf k1, i64ok_wf k2⟩
    simp at e0 e1 e2
    simp [ptC, e0, e1, e2]

theorem open_parts {W : World} {v : Value} {base : Nat} {d : DataW H} {p : List MemPlace} (hval : Value.okWide Try.prog W .any base 23 v) (h0 : DataW.Trod enc Try.prog W 0 (fun _ => true) true 23 v d p) :
    ∃ (A : Option Addr) (n c : Nat) (ps : List Pt), v = .slice A n c ∧ n ≤ c ∧ c ≤ 9223372036854775807 ∧ ((∀ x ∈ d.weights Try.prog 23, x ≤ reachBytes) → c ≤ 140737488351232) ∧ Ps W W.heap.size A n ps := by
  have hc3 : Try.prog.cellsOf 31 = 3 := by kernel_rfl
  have hb3 : Try.prog.bytesOf 31 = 24 := by kernel_rfl
  obtain ⟨A, n, c, rfl⟩ : ∃ A n c, v = .slice A n c := by
    cases v <;> simp [Value.okWide, Cell.okWide, Cell.ok, Try.underlying23] at hval
    exact ⟨_, _, _, rfl⟩
  obtain ⟨fuel, hf⟩ := h0
  refine ⟨A, n, c, ?_⟩
  rcases Go.Deep.open_slice Try.underlying23 hf with ⟨hcs, _⟩ | ⟨a, len', cap', m, k, D, Pl, hcs, _, hl, hm, hmm, hx, hi⟩
  · simp [Value.cells] at hcs
    obtain ⟨rfl, rfl, rfl⟩ := hcs
    exact ⟨[], rfl, Nat.le_refl _, by omega, fun _ => Nat.zero_le _, Ps.nil _ _ _⟩
  · simp [Value.cells] at hcs
    obtain ⟨rfl, rfl, rfl⟩ := hcs
    simp only [if_true] at hmm
    subst hmm
    have hm' : m ≤ 9223372036854775807 := by simpa [maxLen] using hm
    simp only [Prod.mk.injEq] at hx
    obtain ⟨rfl, -⟩ := hx
    rw [hc3] at hi
    have each : ∀ i, i < n → ∃ q : Pt, q.ok ∧ W.cell? (a.add (i * 3)) = some (.int .i64 q.k) ∧ W.cell? (a.add (i * 3 + 1)) = some (.int .i64 q.a) ∧ W.cell? (a.add (i * 3 + 2)) = some (.int .i64 q.l) := fun i hin => by
      obtain ⟨cs', hcl, ht⟩ := hi i (by omega)
      obtain ⟨_, hlen, hcell⟩ := World.cells?_some hcl
      obtain ⟨q, rfl, hq⟩ := trod_part hlen ht
      have c0 := hcell 0 (by omega)
      have c1 := hcell 1 (by omega)
      have c2 := hcell 2 (by omega)
      rw [Go.Deep.add_add] at c0 c1 c2
      exact ⟨q, hq, c0, c1, c2⟩
    obtain ⟨f, hf2⟩ := Go.Deep.choose_lt each
    have hget : ∀ i, i < n → ((List.range n).map f).getD i zeroP = f i := fun i hin => by simp [List.getD, hin]
    have hwt : (∀ x ∈ (DataW.slice ((List.range n).map D) ((List.range (m - n)).map fun j => D (n + j))).weights Try.prog 23, x ≤ reachBytes) → m ≤ 140737488351232 := by
      intro h
      have := h ((((List.range n).map D).length + ((List.range (m - n)).map fun j => D (n + j)).length) * Try.prog.bytesOf 31) (by simp only [DataW.weights, Try.underlying23]; exact List.mem_cons_self)
      rw [hb3] at this
      simp only [List.length_map, List.length_range, reachBytes] at this
      omega
    refine ⟨(List.range n).map f, rfl, hl, hm', hwt, by simp, fun q hq => ?_, fun hn => ?_⟩
    · obtain ⟨i, hin, rfl⟩ := List.mem_map.1 hq
      exact (hf2 i (by simpa using hin)).1
    · have h0 := (hf2 0 hn).2.1
      obtain ⟨b, o, s⟩ := a
      obtain rfl : s = none := by simpa [Addr.add] using World.cell?_spot h0
      refine ⟨b, o, rfl, World.block_lt_of_cell? _ _ (by simpa [Addr.add] using h0), fun i hin => ?_⟩
      rw [hget i hin]
      obtain ⟨_, c0, c1, c2⟩ := hf2 i hin
      rw [Addr.add_lit] at c0 c1 c2
      rw [← Nat.add_assoc] at c1 c2
      exact ⟨c0, c1, c2⟩
end
end Go.Proofs.Ytnfdfjjdgojeeaa
