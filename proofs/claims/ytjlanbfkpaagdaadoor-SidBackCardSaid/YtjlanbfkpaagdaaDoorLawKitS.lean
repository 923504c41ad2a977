/- Arguments opened: a segment of our own, an address; what the listed variables give a walk of layer 12. No condition. -/
import Derived.Test.YtjlanbfkpaagdaaDoorJKit
import Derived.Test.YtjlanbfkpaagdaaDoorLawShaped
import Derived.Test.YtjlanbfkpaagdaaDoorSdG
import Derived.Stop.LaidErr
namespace Go.Proofs.YtjlanbfkpaagdaaDoor
open Go.ChangeShapes Go.WideShapes Go.ChangeAt Go.RowKit

section
variable {H : Type} {enc : TypeId × Value → H}
theorem u32_wf {a : Int} (h : (Lit.int .u32 a).wf = true) : 0 ≤ a ∧ a < 4294967296 := by
  simp [Lit.wf, IntKind.min, IntKind.max, IntKind.bits, IntKind.signed] at h
  omega
theorem open_addrS {W : World} {v : Value} {base : Nat} {d : DataW H} {p : List MemPlace} (hval : Value.okWide Tryd.prog W .any base 26 v) (h0 : DataW.Trod enc Tryd.prog W 0 (fun _ => true) true 26 v d p) :
    ∃ s : List Int, v = addrV s ∧ s.length = 16 ∧ AllB s := by
  have hc2 : Tryd.prog.cellsOf 26 = 16 := by kernel_rfl
  unfold Value.okWide at hval
  rw [Tryd.underlying26] at hval
  obtain ⟨⟨cs⟩, rfl, hs, _⟩ := hval
  rw [hc2] at hs
  obtain ⟨fuel, hf⟩ := h0
  obtain ⟨s, hl, e, ha⟩ := trod_addr (cs := cs) hs hf
  exact ⟨s, by rw [e]; rfl, hl, ha⟩
theorem open_sid {W : World} {v : Value} {base : Nat} {d : DataW H} {p : List MemPlace} (hval : Value.okWide Tryd.prog W .any base 24 v) (h0 : DataW.Trod enc Tryd.prog W 0 (fun _ => true) true 24 v d p) :
    ∃ n e a : Int, v = sidV n e a ∧ i64ok n ∧ i64ok e ∧ 0 ≤ a ∧ a < 4294967296 := by
  have hc2 : Tryd.prog.cellsOf 24 = 3 := by kernel_rfl
  have hci : Tryd.prog.cellsOf 3 = 1 := by kernel_rfl
  have hcu : Tryd.prog.cellsOf 22 = 1 := by kernel_rfl
  unfold Value.okWide at hval
  rw [Tryd.underlying24] at hval
  obtain ⟨⟨cs⟩, rfl, hs, _⟩ := hval
  rw [hc2] at hs
  obtain ⟨fuel, hf⟩ := h0
  obtain ⟨xs, n, _, _, _, hlen, hq⟩ := DataW.trod_struct Tryd.underlying24 hf
  have hx : xs.length = 3 := hlen
  have q0 := hq 0 _ rfl
  have q1 := hq 1 _ rfl
  have q2 := hq 2 _ rfl
  rw [List.getElem?_eq_getElem (by omega)] at q0 q1 q2
  obtain ⟨a0, e0, -, k0⟩ := DataW.trod_int Tryd.underlying3 q0
  obtain ⟨a1, e1, -, k1⟩ := DataW.trod_int Tryd.underlying3 q1
  obtain ⟨a2, e2, -, k2⟩ := DataW.trod_int Tryd.underlying22 q2
  replace e0 : List.take (Tryd.prog.cellsOf 3) (List.drop 0 cs) = [.int .i64 a0] := e0
  replace e1 : List.take (Tryd.prog.cellsOf 3) (List.drop 1 cs) = [.int .i64 a1] := e1
  replace e2 : List.take (Tryd.prog.cellsOf 22) (List.drop 2 cs) = [.int .u32 a2] := e2
  rw [hci] at e0 e1
  rw [hcu] at e2
  have hl : cs.length = 3 := hs
  match cs, hl with
  | [c0, c1, c2], _ =>
    refine ⟨a0, a1, a2, ?_, i64ok_wf k0, i64ok_wf k1, (u32_wf k2).1, (u32_wf k2).2⟩
    simp at e0 e1 e2
    simp [sidV, e0, e1, e2]
end
/-- what the listed variables give a walk -/
theorem pow_of_laid {W : World} (h : laidMetH Tryd.prog Rows.sidMakesRow.laid W) : Pow10 W := by
  rw [MakeChecks.laidMetH_plain _ _ _ (by kernel_rfl)] at h
  exact Lib.tabIs_of_head (g := 0) (t := 65) (e := 47) (n := 20) (by kernel_rfl) (by kernel_rfl) Tryd.underlying65 Tryd.underlying47 (by kernel_rfl) (by kernel_rfl) (laidMet.tail (laidMet.tail h))
end Go.Proofs.YtjlanbfkpaagdaaDoor
