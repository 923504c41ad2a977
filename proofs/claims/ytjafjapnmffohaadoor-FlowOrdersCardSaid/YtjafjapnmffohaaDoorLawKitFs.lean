/- Arguments opened: a slice of flows. No condition. -/
import Derived.Test.YtjafjapnmffohaaDoorJKf
import Derived.Deep.Slices
set_option maxRecDepth 100000
namespace Go.Proofs.YtjafjapnmffohaaDoor
open Go.ChangeShapes Go.WideShapes Go.ChangeAt Go.RowKit

instance instInhFw : Inhabited Fw := ⟨zeroF⟩
section
variable {H : Type} {enc : TypeId × Value → H}
/-- the one cell of a slice of flows -/
theorem trod_flows {W : World} {fuel : Nat} {cs : List Value} {x : DataW H × List MemPlace} (hf : DataW.trod enc Tryd.prog W 0 (fun _ => true) true fuel 32 cs = some x) :
    ∃ (A : Option Addr) (n c : Nat) (l : List Fw), cs = [.slice A n c] ∧ Es fwE W W.heap.size A n l := by
  have hc2 : Tryd.prog.cellsOf 25 = 34 := by kernel_rfl
  rcases Go.Deep.open_slice Tryd.underlying32 hf with ⟨hcs, _⟩ | ⟨a, n, c, m, k, D, Pl, hcs, _, hl, hm, hmm, hx, hi⟩
  · exact ⟨none, 0, 0, [], hcs, Es.nil _ _ _⟩
  · simp only [if_true] at hmm
    subst hmm
    subst hx
    rw [hc2] at hi
    have each : ∀ i, i < n → ∃ f : Fw, f.ok ∧ ∀ j v, (fwC f)[j]? = some v → W.cell? (a.add (i * 34 + j)) = some v := fun i hin => by
      obtain ⟨cs', hcl, ht⟩ := hi i (by omega)
      obtain ⟨_, hlen, hcell⟩ := World.cells?_some hcl
      obtain ⟨f, rfl, hok⟩ := trod_flow hlen ht
      refine ⟨f, hok, fun j v hv => ?_⟩
      have hj := (List.getElem?_eq_some_iff.1 hv).1
      rw [hlen] at hj
      have c0 := hcell j hj
      rw [Go.Deep.add_add] at c0
      rw [c0, hv]
    obtain ⟨f, hf2⟩ := Go.Deep.choose_lt each
    have hall : fwE.all ((List.range n).map f) := fun q hq => by
      obtain ⟨i, hin, rfl⟩ := List.mem_map.1 hq
      exact (hf2 i (by simpa using hin)).1
    have hget : ∀ i, i < n → ((List.range n).map f).getD i fwE.zero = f i := fun i hin => by simp [List.getD, hin]
    refine ⟨some a, n, _, (List.range n).map f, hcs, by simp, hall, fun hn => ?_⟩
    have h0 := (hf2 0 hn).2 0 _ (List.getElem?_eq_getElem (by rw [fwC_length (hf2 0 hn).1.s (hf2 0 hn).1.d]; omega))
    obtain ⟨b, o, s⟩ := a
    obtain rfl : s = none := by simpa [Addr.add] using World.cell?_spot h0
    refine ⟨b, o, rfl, World.block_lt_of_cell? _ _ (by simpa [Addr.add] using h0), fun j v hv => ?_⟩
    have hj : j < n * 34 := by
      have h1 := (List.getElem?_eq_some_iff.1 hv).1
      rw [Elt.flat_len hall] at h1
      exact (by simpa using h1 : j < n * fwE.k)
    have hi : j / 34 < n := Nat.div_lt_of_lt_mul (by omega)
    have e1 : j / 34 * 34 + j % 34 = j := by omega
    have h2 := Elt.flat_get hall (i := j / 34) (j := j % 34) (by simpa using hi) (Nat.mod_lt _ (by omega))
    rw [hget _ hi] at h2
    have h3 : j / 34 * fwE.k + j % 34 = j := e1
    rw [h3] at h2
    have h1 := (hf2 (j / 34) hi).2 (j % 34) v (h2.symm.trans hv)
    rw [e1, Addr.add_lit] at h1
    exact h1
theorem open_flows {W : World} {v : Value} {base : Nat} {d : DataW H} {p : List MemPlace} (hval : Value.okWide Tryd.prog W .any base 32 v) (h0 : DataW.Trod enc Tryd.prog W 0 (fun _ => true) true 32 v d p) :
    ∃ (A : Option Addr) (n c : Nat) (l : List Fw), v = .slice A n c ∧ Es fwE W W.heap.size A n l := by
  obtain ⟨A, n, c, rfl⟩ : ∃ A n c, v = .slice A n c := by
    cases v <;> simp [Value.okWide, Cell.okWide, Cell.ok, Tryd.underlying32] at hval
    exact ⟨_, _, _, rfl⟩
  obtain ⟨fuel, hf⟩ := h0
  obtain ⟨A', n', c', l, hcs, hos⟩ := trod_flows hf
  simp [Value.cells] at hcs
  obtain ⟨rfl, rfl, rfl⟩ := hcs
  exact ⟨A, n, c, l, rfl, hos⟩
end
end Go.Proofs.YtjafjapnmffohaaDoor
