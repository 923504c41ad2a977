/- What the variables that the laws of layer 14 list give a walk (the seat of FlowTells). No condition. -/
import Derived.Test.YtjafjapnmffohaaDoorJKf
set_option maxRecDepth 100000
namespace Go.Proofs.YtjafjapnmffohaaDoor
open Go.ChangeShapes Go.WideShapes Go.ChangeAt Go.RowKit

theorem pow_of_laidF {W : World} (h : laidMetH Tryd.prog Rows.flowTellsRow.laid W) : Pow10 W := by
  rw [MakeChecks.laidMetH_plain _ _ _ (by kernel_rfl)] at h
  exact Lib.tabIs_of_head (g := 0) (t := 99) (e := 51) (n := 20) (by kernel_rfl) (by kernel_rfl) Tryd.underlying99 Tryd.underlying51 (by kernel_rfl) (by kernel_rfl) (laidMet.tail (laidMet.tail h))
theorem libt_of_laidF {W : World} (h : laidMetH Tryd.prog Rows.flowTellsRow.laid W) : LibT W := by
  refine ⟨?_⟩
  rw [MakeChecks.laidMetH_plain _ _ _ (by kernel_rfl)] at h
  obtain ⟨ps, ⟨g0, t0, cs0, f0, p0, q0, hg0, ht0, hv0, hd0, ⟨g1, t1, cs1, f1, p1, q1, hg1, ht1, hv1, hd1, _, _⟩, _⟩, _, _⟩ := h
  obtain rfl : g1 = 3 := Option.some.inj (hg1.symm.trans (by kernel_rfl))
  obtain rfl : t1 = 106 := Option.some.inj (ht1.symm.trans (by kernel_rfl))
  obtain ⟨xs, m, _, ex, _, hl, hel⟩ := DataW.trod_array Tryd.underlying106 hd1
  have hE := hel 15 (by decide)
  rw [cells_u8F, Nat.mul_one, List.getElem?_eq_getElem (by omega)] at hE
  obtain ⟨z, e1, e2, _⟩ := DataW.trod_int Tryd.underlying5 hE
  have e3 := (DataW.agg.inj (Prod.mk.inj ex).1).symm
  have e4 := congrArg (fun l => l[15]?) e3
  simp only [List.getElem?_map] at e4
  rw [List.getElem?_eq_getElem (by omega : 15 < xs.length), Option.map_some, e2] at e4
  have hz : z = 4 := by
    simp at e4
    exact e4
  subst hz
  have hc := World.var?_cell hg1 hv1 15
  rw [hc]
  have : cs1.toList[15]? = some (.int .u8 4) := by
    have h0 : ((cs1.toList.drop 15).take 1)[0]? = some (.int .u8 4) := by rw [e1]; rfl
    simpa using h0
  simpa using this
end Go.Proofs.YtjafjapnmffohaaDoor
