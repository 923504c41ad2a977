/- Arguments opened: arrays of integers. No condition. -/
import Derived.Test.YtnfiijbnfmcpjaaLawKit
import Derived.Test.YtnfiijbnfmcpjaaOctA
import Derived.ChangeSame
namespace Go.Proofs.Ytnfiijbnfmcpjaa
open Go.ChangeShapes Go.WideShapes Go.ChangeAt Go.RowKit

section
variable {H : Type} {enc : TypeId × Value → H}

/-- a row of integers -/
theorem trod_ints {P : Program} {w : World} {base : Nat} {spare : Nat → Bool} {held : Bool} {fuel : Nat} {t e : TypeId} {cs : List Value} {x : DataW H × List MemPlace} {n : Nat} {k : IntKind}
    (ht : P.underlying t = some (.array n e)) (he : P.underlying e = some (.int k)) (h1 : P.cellsOf e = 1) (hl : cs.length = n) (h : DataW.trod enc P w base spare held fuel t cs = some x) :
    ∃ xs : List Int, xs.length = n ∧ cs = xs.map (Value.int k) ∧ ∀ y ∈ xs, (Lit.int k y).wf = true := by
  obtain ⟨zs, m, -, -, -, hz, hf⟩ := DataW.trod_array ht h
  have hc : ∀ i (hi : i < cs.length), ∃ y : Int, cs[i] = .int k y ∧ (Lit.int k y).wf = true := fun i hi => by
    have h2 := hf i (by omega)
    rw [h1, Nat.mul_one, List.getElem?_eq_getElem (by omega)] at h2
    obtain ⟨y, ey, _, wy⟩ := DataW.trod_int he h2
    refine ⟨y, ?_, wy⟩
    rw [List.drop_eq_getElem_cons hi, List.take_succ_cons, List.take_zero] at ey
    injection ey
  have hx : ∃ xs : List Int, cs = xs.map (Value.int k) ∧ ∀ y ∈ xs, (Lit.int k y).wf = true := by
    clear h hf hl
    induction cs with
    | nil => exact ⟨[], rfl, fun y hy => by cases hy⟩
    | cons c r ih =>
      obtain ⟨y, ey, wy⟩ := hc 0 (by simp)
      obtain ⟨xs, ex, wx⟩ := ih (fun i hi => by have := hc (i + 1) (by simp; omega); simpa using this)
      refine ⟨y :: xs, by simp at ey; simp [ex, ey], fun z hzz => ?_⟩
      rcases List.mem_cons.1 hzz with rfl | hzz
      · exact wy
      · exact wx z hzz
  obtain ⟨xs, ex, wx⟩ := hx
  exact ⟨xs, by rw [ex] at hl; simpa using hl, ex, wx⟩

theorem i64ok_wf {a : Int} (h : (Lit.int .i64 a).wf = true) : i64ok a := by
  simp [Lit.wf, IntKind.min, IntKind.max, IntKind.signed, IntKind.bits] at h
  unfold i64ok; omega
theorem byte_wf {a : Int} (h : (Lit.int .u8 a).wf = true) : 0 ≤ a ∧ a < 256 := by
  simp [Lit.wf, IntKind.min, IntKind.max, IntKind.signed, IntKind.bits] at h
  omega

/-- the 16 bytes of an address -/
theorem trod_addr {W : World} {fuel : Nat} {cs : List Value} {x : DataW H × List MemPlace} (hl : cs.length = 16) (h : DataW.trod enc Try.prog W 0 (fun _ => true) true fuel 39 cs = some x) :
    ∃ s : List Int, s.length = 16 ∧ cs = cellsB s ∧ AllB s := by
  have hc1 : Try.prog.cellsOf 5 = 1 := by kernel_rfl
  obtain ⟨xs, hx, ex, wx⟩ := trod_ints Try.underlying39 Try.underlying5 hc1 hl h
  exact ⟨xs, hx, ex, fun y hy => byte_wf (wx y hy)⟩

end
end Go.Proofs.Ytnfiijbnfmcpjaa
