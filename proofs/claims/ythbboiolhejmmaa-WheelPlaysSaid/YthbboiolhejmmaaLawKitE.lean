/- Arguments opened: a slice of elements of any make that hold no pointers; a slice of ints. No condition. -/
import Derived.Test.YthbboiolhejmmaaJKit
import Derived.Test.YthbboiolhejmmaaEl
import Derived.Test.YthbboiolhejmmaaNums
import Derived.Deep.Slices
set_option maxRecDepth 100000
namespace Go.Proofs.Ythbboiolhejmmaa
open Go.ChangeShapes Go.WideShapes Go.ChangeAt Go.RowKit
set_option linter.unusedVariables false

theorem u64_wf {x : Int} (h : (Lit.int .u64 x).wf = true) : ∃ H : Nat, x = H ∧ H < 18446744073709551616 := by
  simp [Lit.wf, IntKind.min, IntKind.max, IntKind.bits, IntKind.signed] at h
  exact ⟨x.toNat, by omega, by omega⟩

section
variable {H : Type} {enc : TypeId × Value → H}
theorem open_es {α : Type} (E : Elt α) {ts te : TypeId} (hu : Try.prog.underlying ts = some (.slice te)) (hc : Try.prog.cellsOf te = E.k) (hby : 0 < Try.prog.bytesOf te)
    (one : ∀ (W : World) (fuel : Nat) (cs : List Value) (x : DataW H × List MemPlace), cs.length = E.k → DataW.trod enc Try.prog W 0 (fun _ => true) true fuel te cs = some x → ∃ a, cs = E.cells a ∧ E.ok a)
    {W : World} {v : Value} {base : Nat} {d : DataW H} {p : List MemPlace} (hval : Value.okWide Try.prog W .any base ts v) (h0 : DataW.Trod enc Try.prog W 0 (fun _ => true) true ts v d p) (hw : ∀ x ∈ d.weights Try.prog ts, x ≤ reachBytes) :
    ∃ (A : Option Addr) (n c : Nat) (l : List α), v = .slice A n c ∧ n ≤ c ∧ c ≤ 140737488351232 ∧ Es E W W.heap.size A n l := by
  haveI : Inhabited α := ⟨E.zero⟩
  obtain ⟨A, n, c, rfl⟩ : ∃ A n c, v = .slice A n c := by
    cases v <;> simp [Value.okWide, Cell.okWide, Cell.ok, hu] at hval
    exact ⟨_, _, _, rfl⟩
  obtain ⟨fuel, hf⟩ := h0
  refine ⟨A, n, c, ?_⟩
  rcases Go.Deep.open_slice hu hf with ⟨hcs, _⟩ | ⟨a, len', cap', m, k, D, Pl, hcs, _, hl, hm, hmm, hx, hi⟩
  · simp [Value.cells] at hcs
    obtain ⟨rfl, rfl, rfl⟩ := hcs
    exact ⟨[], rfl, Nat.le_refl _, Nat.zero_le _, Es.nil _ _ _⟩
  · simp [Value.cells] at hcs
    obtain ⟨rfl, rfl, rfl⟩ := hcs
    simp only [if_true] at hmm
    subst hmm
    simp only [Prod.mk.injEq] at hx
    obtain ⟨rfl, -⟩ := hx
    rw [hc] at hi
    have each : ∀ i, i < n → ∃ q : α, E.ok q ∧ ∀ j, j < E.k → W.cell? (a.add (i * E.k + j)) = (E.cells q)[j]? := fun i hin => by
      obtain ⟨cs', hcl, ht⟩ := hi i (by omega)
      obtain ⟨_, hlen, hcell⟩ := World.cells?_some hcl
      obtain ⟨q, rfl, hq⟩ := one _ _ _ _ hlen ht
      refine ⟨q, hq, fun j hj => ?_⟩
      have := hcell j hj
      rwa [Go.Deep.add_add] at this
    obtain ⟨f, hf2⟩ := Go.Deep.choose_lt each
    have hall : E.all ((List.range n).map f) := fun q hq => by
      obtain ⟨i, hin, rfl⟩ := List.mem_map.1 hq
      exact (hf2 i (by simpa using hin)).1
    have hwt : m ≤ 140737488351232 := by
      have := hw ((((List.range n).map D).length + ((List.range (m - n)).map fun j => D (n + j)).length) * Try.prog.bytesOf te) (by simp only [DataW.weights, hu]; exact List.mem_cons_self)
      simp only [List.length_map, List.length_range, reachBytes] at this
      have h2 : (n + (m - n)) * 1 ≤ (n + (m - n)) * Try.prog.bytesOf te := Nat.mul_le_mul_left _ hby
      omega
    refine ⟨(List.range n).map f, rfl, hl, hwt, by simp, hall, fun hn => ?_⟩
    have hfl : ∀ j v, (E.flat ((List.range n).map f))[j]? = some v → W.cell? (a.add j) = some v := fun j v hv => by
      have hk := E.pos
      have hj : j < n * E.k := by
        have := (List.getElem?_eq_some_iff.1 hv).1
        rw [Elt.flat_len hall] at this
        simpa using this
      have h1 : j / E.k < n := Nat.div_lt_of_lt_mul (by rw [Nat.mul_comm]; exact hj)
      have h2 := Elt.flat_get hall (i := j / E.k) (j := j % E.k) (by simpa using h1) (Nat.mod_lt _ hk)
      rw [Nat.div_add_mod' j E.k, hv] at h2
      have h3 := (hf2 _ h1).2 (j % E.k) (Nat.mod_lt _ hk)
      rw [Nat.div_add_mod' j E.k] at h3
      rw [h3, h2]
      simp [List.getD, h1]
    have h0 : ∃ v, W.cell? (a.add 0) = some v := by
      have h1 := (hf2 0 hn).2 0 E.pos
      rw [List.getElem?_eq_getElem (by rw [E.len _ (hf2 0 hn).1]; exact E.pos)] at h1
      exact ⟨_, by simpa using h1⟩
    obtain ⟨v0, h0⟩ := h0
    obtain ⟨b, o, s⟩ := a
    obtain rfl : s = none := by simpa [Addr.add] using World.cell?_spot h0
    refine ⟨b, o, rfl, World.block_lt_of_cell? _ _ (by simpa [Addr.add] using h0), fun j v hv => ?_⟩
    have := hfl j v hv
    rwa [Addr.add_lit] at this

/-- an int as an element -/
def intE : Elt Int := ⟨fun x => [.int .i64 x], i64ok, 1, by decide, fun _ _ => rfl, fun a u hu => by
  obtain rfl := List.mem_singleton.1 hu
  rfl, 0, by unfold i64ok; omega⟩
theorem intE_ns {w : World} {B n : Nat} {A : Option Addr} {l : List Int} (h : Es intE w B A n l) : Ns w B A n l := by
  refine ⟨h.len, fun x hx => h.all x hx, fun hn => ?_⟩
  obtain ⟨b, o, rfl, hb, _⟩ := h.mem hn
  refine ⟨b, o, rfl, hb, fun i hi => ?_⟩
  have := (h.at_ hi).2 0 _ rfl
  simpa [intE] using this
theorem open_ns {W : World} {v : Value} {base : Nat} {d : DataW H} {p : List MemPlace} (hval : Value.okWide Try.prog W .any base 36 v) (h0 : DataW.Trod enc Try.prog W 0 (fun _ => true) true 36 v d p) (hw : ∀ x ∈ d.weights Try.prog 36, x ≤ reachBytes) :
    ∃ (A : Option Addr) (n c : Nat) (l : List Int), v = .slice A n c ∧ n ≤ c ∧ c ≤ 140737488351232 ∧ Ns W W.heap.size A n l := by
  obtain ⟨A, n, c, l, e, h1, h2, h3⟩ := open_es intE Try.underlying36 (by kernel_rfl) (by decide +kernel) (fun W fuel cs x hl ht => by
    match cs, hl with
    | [c0], _ =>
      obtain ⟨a0, e0, -, k0⟩ := DataW.trod_int Try.underlying3 ht
      exact ⟨a0, by simpa [intE] using e0, i64ok_wf k0⟩) hval h0 hw
  exact ⟨A, n, c, l, e, h1, h2, intE_ns h3⟩
end
end Go.Proofs.Ythbboiolhejmmaa
