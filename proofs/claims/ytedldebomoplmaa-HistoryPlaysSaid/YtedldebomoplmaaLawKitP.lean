/- Arguments opened: a slice of elements of any make, with a word on each that its reading gives. No condition. -/
import Derived.Test.YtedldebomoplmaaLawKitE
set_option maxRecDepth 100000
namespace Go.Proofs.Ytedldebomoplmaa
open Go.ChangeShapes Go.WideShapes Go.ChangeAt Go.RowKit
set_option linter.unusedVariables false

section
variable {H : Type} {enc : TypeId × Value → H}
theorem weights_allP {P : Program} {e : TypeId} {y : Nat} : ∀ {ds : List (DataW H)} {d : DataW H}, d ∈ ds → y ∈ d.weights P e → y ∈ DataW.weightsAll P e ds
  | [], _, h, _ => by cases h
  | a :: ds, d, h, hy => by
    unfold DataW.weightsAll
    rcases List.mem_cons.1 h with rfl | h
    · exact List.mem_append_left _ hy
    · exact List.mem_append_right _ (weights_allP h hy)
theorem open_esP {α : Type} (E : Elt α) (K : World → α → Prop) {ts te : TypeId} (hu : Try.prog.underlying ts = some (.slice te)) (hc : Try.prog.cellsOf te = E.k) (hby : 0 < Try.prog.bytesOf te)
    (one : ∀ (W : World) (fuel : Nat) (cs : List Value) (x : DataW H × List MemPlace), cs.length = E.k → DataW.trod enc Try.prog W 0 (fun _ => true) true fuel te cs = some x → ∃ a, cs = E.cells a ∧ E.ok a ∧ ((∀ y ∈ x.1.weights Try.prog te, y ≤ reachBytes) → K W a))
    {W : World} {v : Value} {base : Nat} {d : DataW H} {p : List MemPlace} (hval : Value.okWide Try.prog W .any base ts v) (h0 : DataW.Trod enc Try.prog W 0 (fun _ => true) true ts v d p) (hw : ∀ x ∈ d.weights Try.prog ts, x ≤ reachBytes) :
    ∃ (A : Option Addr) (n c : Nat) (l : List α), v = .slice A n c ∧ n ≤ c ∧ c ≤ 140737488351232 ∧ Es E W W.heap.size A n l ∧ ∀ x ∈ l, K W x := by
  haveI : Inhabited α := ⟨E.zero⟩
  obtain ⟨A, n, c, rfl⟩ : ∃ A n c, v = .slice A n c := by
    cases v <;> simp [Value.okWide, Cell.okWide, Cell.ok, hu] at hval
    exact ⟨_, _, _, rfl⟩
  obtain ⟨fuel, hf⟩ := h0
  refine ⟨A, n, c, ?_⟩
  rcases Go.Deep.open_slice hu hf with ⟨hcs, _⟩ | ⟨a, len', cap', m, k, D, Pl, hcs, _, hl, hm, hmm, hx, hi⟩
  · simp [Value.cells] at hcs
    obtain ⟨rfl, rfl, rfl⟩ := hcs
    exact ⟨[], rfl, Nat.le_refl _, Nat.zero_le _, Es.nil _ _ _, fun x hx => by cases hx⟩
  · simp [Value.cells] at hcs
    obtain ⟨rfl, rfl, rfl⟩ := hcs
    simp only [if_true] at hmm
    subst hmm
    simp only [Prod.mk.injEq] at hx
    obtain ⟨rfl, -⟩ := hx
    rw [hc] at hi
    have each : ∀ i, i < n → ∃ q : α, (E.ok q ∧ K W q) ∧ ∀ j, j < E.k → W.cell? (a.add (i * E.k + j)) = (E.cells q)[j]? := fun i hin => by
      obtain ⟨cs', hcl, ht⟩ := hi i (by omega)
      obtain ⟨_, hlen, hcell⟩ := World.cells?_some hcl
      obtain ⟨q, rfl, hq, hk⟩ := one _ _ _ _ hlen ht
      refine ⟨q, ⟨hq, hk fun y hy => hw y ?_⟩, fun j hj => ?_⟩
      · simp only [DataW.weights, hu]
        exact List.mem_cons_of_mem _ (List.mem_append_left _ (weights_allP (List.mem_map.2 ⟨i, by simpa using hin, rfl⟩) hy))
      · have := hcell j hj
        rwa [Go.Deep.add_add] at this
    obtain ⟨f, hf2⟩ := Go.Deep.choose_lt each
    have hall : E.all ((List.range n).map f) := fun q hq => by
      obtain ⟨i, hin, rfl⟩ := List.mem_map.1 hq
      exact (hf2 i (by simpa using hin)).1.1
    have hwt : m ≤ 140737488351232 := by
      have := hw ((((List.range n).map D).length + ((List.range (m - n)).map fun j => D (n + j)).length) * Try.prog.bytesOf te) (by simp only [DataW.weights, hu]; exact List.mem_cons_self)
      simp only [List.length_map, List.length_range, reachBytes] at this
      have h2 : (n + (m - n)) * 1 ≤ (n + (m - n)) * Try.prog.bytesOf te := Nat.mul_le_mul_left _ hby
      omega
    refine ⟨(List.range n).map f, rfl, hl, hwt, ⟨by simp, hall, fun hn => ?_⟩, fun x hx => by
      obtain ⟨i, hin, rfl⟩ := List.mem_map.1 hx
      exact (hf2 i (by simpa using hin)).1.2⟩
    have hfl : ∀ j v, (E.flat ((List.range n).map f))[j]? = some v → W.cell? (a.add j) = some v := fun j v hv => by
      have hk := E.pos
      have hj : j < n * E.k := by
        have := (List.getElem?_eq_some_iff.1 hv).1
        rw [Elt.flat_len hall] at this
        simpa using this
      have h1 : j / E.k < n := Nat.div_lt_of_lt_mul (by rw [Nat.mul_comm]; exact hj)
      have h2 := Elt.flat_get hall (i := j / E.k) (j := j % E.k) (by simpa using h1) (Nat.mod_lt _ hk)
      rw [Nat.div_add_mod' j E.k, hv] at h2
      have h3 := (hf2 _ h1).2 (j % E.k) (Nat.mod_lt _ hk)
      rw [Nat.div_add_mod' j E.k] at h3
      rw [h3, h2]
      simp [List.getD, h1]
    have h0 : ∃ v, W.cell? (a.add 0) = some v := by
      have h1 := (hf2 0 hn).2 0 E.pos
      rw [List.getElem?_eq_getElem (by rw [E.len _ (hf2 0 hn).1.1]; exact E.pos)] at h1
      exact ⟨_, by simpa using h1⟩
    obtain ⟨v0, h0⟩ := h0
    obtain ⟨b, o, s⟩ := a
    obtain rfl : s = none := by simpa [Addr.add] using World.cell?_spot h0
    refine ⟨b, o, rfl, World.block_lt_of_cell? _ _ (by simpa [Addr.add] using h0), fun j v hv => ?_⟩
    have := hfl j v hv
    rwa [Addr.add_lit] at this
/-- the one cell of a slice of ints -/
theorem trod_nsP {W : World} {fuel : Nat} {cs : List Value} {x : DataW H × List MemPlace} (h : DataW.trod enc Try.prog W 0 (fun _ => true) true fuel 27 cs = some x) :
    ∃ (A : Option Addr) (n c : Nat) (xs : List Int), cs = [.slice A n c] ∧ n ≤ c ∧ ((∀ y ∈ x.1.weights Try.prog 27, y ≤ reachBytes) → n ≤ 17592186043904) ∧ Ns W W.heap.size A n xs := by
  have hc1 : Try.prog.cellsOf 3 = 1 := by kernel_rfl
  have hb1 : Try.prog.bytesOf 3 = 8 := by kernel_rfl
  rcases open_ints Try.underlying27 Try.underlying3 hc1 h with ⟨rfl, rfl⟩ | ⟨a, n, c, zs, rfl, _, hl, hm, hz, rfl, hcell, hwz⟩
  · exact ⟨none, 0, 0, [], rfl, Nat.le_refl _, fun _ => Nat.zero_le _, Ns.nil _ _ _⟩
  · simp only [if_true] at hz
    refine ⟨some a, n, c, zs.take n, rfl, hl, fun hw => ?_, by simp; omega, fun y hy => i64ok_wf (hwz y (List.mem_of_mem_take hy)), fun hn => ?_⟩
    · have := hw (((lits (H := H) .i64 (zs.take n)).length + (lits (H := H) .i64 (zs.drop n)).length) * Try.prog.bytesOf 3) (by simp only [DataW.weights, Try.underlying27]; exact List.mem_cons_self)
      rw [hb1] at this
      simp [lits, hz, reachBytes] at this
      omega
    · have h0 := hcell 0 (by omega)
      obtain ⟨b, o, s⟩ := a
      obtain rfl : s = none := by simpa [Addr.add] using World.cell?_spot h0
      refine ⟨b, o, rfl, World.block_lt_of_cell? _ _ (by simpa [Addr.add] using h0), fun i hi => ?_⟩
      have := hcell i (by omega)
      rw [Addr.add_lit] at this
      rw [this]
      simp [List.getD, hi]
end
end Go.Proofs.Ytedldebomoplmaa
