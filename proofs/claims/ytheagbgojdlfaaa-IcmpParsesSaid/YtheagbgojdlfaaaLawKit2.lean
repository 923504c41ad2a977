/- Arguments opened: arrays of integers. No condition. -/
import Derived.Test.YtheagbgojdlfaaaLawKit
import Derived.Test.YtheagbgojdlfaaaOctA
import Derived.ChangeSame
namespace Go.Proofs.Ytheagbgojdlfaaa
open Go.ChangeShapes Go.WideShapes Go.ChangeAt Go.RowKit

section
variable {H : Type} {enc : TypeId × Value → H}

/-- a row of integers -/
theorem trod_ints {P : Program} {w : World} {base : Nat} {spare : Nat → Bool} {held : Bool} {fuel : Nat} {t e : TypeId} {cs : List Value} {x : DataW H × List MemPlace} {n : Nat} {k : IntKind}
    (ht : P.underlying t = some (.array n e)) (he : P.underlying e = some (.int k)) (h1 : P.cellsOf e = 1) (hl : cs.length = n) (h : DataW.trod enc P w base spare held fuel t cs = some x) :
    ∃ xs : List Int, xs.length = n ∧ cs = xs.map (Value.int k) ∧ ∀ y ∈ xs, (Lit.int k y).wf = true := by
  obtain ⟨zs, m, -, -, -, hz, hf⟩ := DataW.trod_array ht h
  have hc : ∀ i (hi : i < cs.length), ∃ y : Int, cs[i] = .int k y ∧ (Lit.int k y).wf = true := fun i hi => by
    have h2 := hf i (by omega)
    rw [h1, Nat.mul_one, List.getElem?_eq_getElem (by omega)] at h2
    obtain ⟨y, ey, _, wy⟩ := DataW.trod_int he h2
    refine ⟨y, ?_, wy⟩
    rw [List.drop_eq_getElem_cons hi, List.take_succ_cons, List.take_zero] at ey
    injection ey
  have hx : ∃ xs : List Int, cs = xs.map (Value.int k) ∧ ∀ y ∈ xs, (Lit.int k y).wf = true := by
    clear h hf hl
    induction cs with
    | nil => exact ⟨[], rfl, fun y hy => by cases hy⟩
    | cons c r ih =>
      obtain ⟨y, ey, wy⟩ := hc 0 (by simp)
      obtain ⟨xs, ex, wx⟩ := ih (fun i hi => by have := hc (i + 1) (by simp; omega); simpa using this)
      refine ⟨y :: xs, by simp at ey; simp [ex, ey], fun z hzz => ?_⟩
      rcases List.mem_cons.1 hzz with rfl | hzz
      · exact wy
      · exact wx z hzz
  obtain ⟨xs, ex, wx⟩ := hx
  exact ⟨xs, by rw [ex] at hl; simpa using hl, ex, wx⟩

theorem i64ok_wf {a : Int} (h : (Lit.int .i64 a).wf = true) : i64ok a := by
  simp [Lit.wf, IntKind.min, IntKind.max, IntKind.signed, IntKind.bits] at h
  unfold i64ok; omega
theorem byte_wf {a : Int} (h : (Lit.int .u8 a).wf = true) : 0 ≤ a ∧ a < 256 := by
  simp [Lit.wf, IntKind.min, IntKind.max, IntKind.signed, IntKind.bits] at h
  omega

theorem open_pair2 {W : World} {v : Value} {base : Nat} {d : DataW H} {p : List MemPlace} (hval : Value.okWide Try.prog W .any base 38 v) (h0 : DataW.Trod enc Try.prog W 0 (fun _ => true) true 38 v d p) :
    ∃ a b : Int, v = .agg #[.int .i64 a, .int .i64 b] ∧ i64ok a ∧ i64ok b := by
  have hc2 : Try.prog.cellsOf 38 = 2 := by kernel_rfl
  have hc1 : Try.prog.cellsOf 3 = 1 := by kernel_rfl
  unfold Value.okWide at hval
  rw [Try.underlying38] at hval
  obtain ⟨⟨cs⟩, rfl, hs, _⟩ := hval
  rw [hc2] at hs
  obtain ⟨fuel, hf⟩ := h0
  obtain ⟨xs, hl, ex, wx⟩ := trod_ints Try.underlying38 Try.underlying3 hc1 hs hf
  match xs, hl with
  | [a, b], _ => exact ⟨a, b, by simp at ex; simp [ex], i64ok_wf (wx a (by simp)), i64ok_wf (wx b (by simp))⟩

/-- the 16 bytes of an address -/
theorem trod_addr {W : World} {fuel : Nat} {cs : List Value} {x : DataW H × List MemPlace} (hl : cs.length = 16) (h : DataW.trod enc Try.prog W 0 (fun _ => true) true fuel 23 cs = some x) :
    ∃ s : List Int, s.length = 16 ∧ cs = cellsB s ∧ AllB s := by
  have hc1 : Try.prog.cellsOf 5 = 1 := by kernel_rfl
  obtain ⟨xs, hx, ex, wx⟩ := trod_ints Try.underlying23 Try.underlying5 hc1 hl h
  exact ⟨xs, hx, ex, fun y hy => byte_wf (wx y hy)⟩

theorem open_ends02 {W : World} {v : Value} {base : Nat} {d : DataW H} {p : List MemPlace} (hval : Value.okWide Try.prog W .any base 25 v) (h0 : DataW.Trod enc Try.prog W 0 (fun _ => true) true 25 v d p) :
    ∃ s t : List Int, v = .agg (cellsB (s ++ t)).toArray ∧ s.length = 16 ∧ t.length = 16 ∧ AllB s ∧ AllB t := by
  have hc2 : Try.prog.cellsOf 25 = 32 := by kernel_rfl
  have hc1 : Try.prog.cellsOf 23 = 16 := by kernel_rfl
  unfold Value.okWide at hval
  rw [Try.underlying25] at hval
  obtain ⟨⟨cs⟩, rfl, hs, _⟩ := hval
  rw [hc2] at hs
  obtain ⟨fuel, hf⟩ := h0
  obtain ⟨y0, y1, n, _, _, h0, h1⟩ := trod_struct2 Try.underlying25 hf
  simp only [Value.cells, hc1] at h0 h1
  have hs' : cs.length = 32 := hs
  obtain ⟨s, ls, es, as0⟩ := trod_addr (by simp; omega) h0
  obtain ⟨t, lt, et, at0⟩ := trod_addr (by simp; omega) h1
  refine ⟨s, t, ?_, ls, lt, as0, at0⟩
  rw [List.drop_zero] at es
  rw [List.take_of_length_le (by simp; omega)] at et
  rw [cellsB_append, ← es, ← et, List.take_append_drop]
end
end Go.Proofs.Ytheagbgojdlfaaa
