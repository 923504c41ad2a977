/- Arguments opened: a flow. No condition. -/
import Derived.Test.YtcfppidobenbfaaJKit
import Derived.Test.YtcfppidobenbfaaJFl
import Derived.Test.YtcfppidobenbfaaRows
set_option maxRecDepth 100000
namespace Go.Proofs.Ytcfppidobenbfaa
open Go.ChangeShapes Go.WideShapes Go.ChangeAt Go.RowKit

section
variable {H : Type} {enc : TypeId × Value → H}
theorem cells_flow {cs : List Value} {a b : Int} {s t : List Int} (hl : cs.length = 34) (e0 : (cs.drop 0).take 16 = cellsB s) (e1 : (cs.drop 16).take 1 = [.int .i64 a]) (e2 : (cs.drop 17).take 16 = cellsB t) (e3 : (cs.drop 33).take 1 = [.int .i64 b]) : cs = fwC ⟨s, a, t, b⟩ := by
  have h1 : cs = cs.take 16 ++ cs.drop 16 := (List.take_append_drop 16 cs).symm
  have h2 : cs.drop 16 = (cs.drop 16).take 1 ++ cs.drop 17 := by
    have := (List.take_append_drop 1 (cs.drop 16)).symm
    rwa [List.drop_drop] at this
  have h3 : cs.drop 17 = (cs.drop 17).take 16 ++ cs.drop 33 := by
    have := (List.take_append_drop 16 (cs.drop 17)).symm
    rwa [List.drop_drop] at this
  have h4 : cs.drop 33 = (cs.drop 33).take 1 := (List.take_of_length_le (by simp; omega)).symm
  rw [List.drop_zero] at e0
  rw [h1, h2, h3, h4, e0, e1, e2, e3]
  rfl
theorem trod_flow {W : World} {n : Nat} {cs : List Value} {d : DataW H × List MemPlace} (hs : cs.length = 34) (hf : DataW.trod enc Try.prog W 0 (fun _ => true) true n 35 cs = some d) :
    ∃ f : Fw, cs = fwC f ∧ f.ok := by
  have hc1 : Try.prog.cellsOf 33 = 16 := by kernel_rfl
  have hci : Try.prog.cellsOf 3 = 1 := by kernel_rfl
  obtain ⟨xs, n, _, _, hl, hlen, hq⟩ := DataW.trod_struct Try.underlying35 hf
  have hx : xs.length = 4 := hlen
  have q0 := hq 0 _ rfl
  have q1 := hq 1 _ rfl
  have q2 := hq 2 _ rfl
  have q3 := hq 3 _ rfl
  rw [List.getElem?_eq_getElem (by omega)] at q0 q1 q2 q3
  obtain ⟨a1, e1, -, k1⟩ := DataW.trod_int Try.underlying3 q1
  obtain ⟨a3, e3, -, k3⟩ := DataW.trod_int Try.underlying3 q3
  replace e1 : List.take (Try.prog.cellsOf 3) (List.drop 16 cs) = [.int .i64 a1] := e1
  replace e3 : List.take (Try.prog.cellsOf 3) (List.drop 33 cs) = [.int .i64 a3] := e3
  rw [hci] at e1 e3
  replace q0 : DataW.trod enc Try.prog W 0 (fun _ => true) true n 33 (List.take (Try.prog.cellsOf 33) (List.drop 0 cs)) = some xs[0] := q0
  replace q2 : DataW.trod enc Try.prog W 0 (fun _ => true) true n 33 (List.take (Try.prog.cellsOf 33) (List.drop 17 cs)) = some xs[2] := q2
  rw [hc1] at q0 q2
  obtain ⟨s, ls, es, vs⟩ := trod_addr (by simp; omega) q0
  obtain ⟨t, lt, et, vt⟩ := trod_addr (by simp; omega) q2
  exact ⟨⟨s, a1, t, a3⟩, cells_flow hs es e1 et e3, ⟨ls, lt, vs, vt, i64ok_wf k1, i64ok_wf k3⟩⟩
theorem open_flow {W : World} {v : Value} {base : Nat} {d : DataW H} {p : List MemPlace} (hval : Value.okWide Try.prog W .any base 35 v) (h0 : DataW.Trod enc Try.prog W 0 (fun _ => true) true 35 v d p) :
    ∃ f : Fw, v = fwV f ∧ f.ok := by
  have hc2 : Try.prog.cellsOf 35 = 34 := by kernel_rfl
  unfold Value.okWide at hval
  rw [Try.underlying35] at hval
  obtain ⟨⟨cs⟩, rfl, hs, _⟩ := hval
  rw [hc2] at hs
  obtain ⟨fuel, hf⟩ := h0
  obtain ⟨f, e, hk⟩ := trod_flow (cs := cs) hs hf
  exact ⟨f, by rw [e]; rfl, hk⟩
end
end Go.Proofs.Ytcfppidobenbfaa
