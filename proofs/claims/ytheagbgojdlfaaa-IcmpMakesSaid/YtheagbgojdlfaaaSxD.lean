/- What six.Put tells of any bytes and any header. Conditions: the header's numbers are ints, its addresses 16 bytes; the bytes are at most 2^47. -/
import Derived.Test.YtheagbgojdlfaaaSxB
namespace Go.Proofs.Ytheagbgojdlfaaa
open Go.RowKit
set_option linter.unusedVariables false

theorem Row.six {w : World} {g : Nat} {t : TypeId} {a0 a1 a2 a3 a4 a5 : Option Addr} {n0 c0 n1 c1 n2 c2 n3 c3 n4 c4 n5 c5 : Nat} {x0 x1 x2 x3 x4 x5 : List Int}
    (hg : w.heap[g]? = some (.cells #[.slice a0 n0 c0, .slice a1 n1 c1, .slice a2 n2 c2, .slice a3 n3 c3, .slice a4 n4 c4, .slice a5 n5 c5] t (0, 0))) (h0 : Bs w w.heap.size a0 n0 x0) (h1 : Bs w w.heap.size a1 n1 x1) (h2 : Bs w w.heap.size a2 n2 x2) (h3 : Bs w w.heap.size a3 n3 x3) (h4 : Bs w w.heap.size a4 n4 x4) (h5 : Bs w w.heap.size a5 n5 x5) :
    Row w (some ⟨g, 0, none⟩) [(a0, n0, c0), (a1, n1, c1), (a2, n2, c2), (a3, n3, c3), (a4, n4, c4), (a5, n5, c5)] [x0, x1, x2, x3, x4, x5] := by
  refine ⟨rfl, fun i hi => ?_, fun _ => ⟨g, 0, rfl, (Array.getElem?_eq_some_iff.1 hg).1, fun i hi => ?_⟩⟩
  · match i, hi with
    | 0, _ => exact h0
    | 1, _ => exact h1
    | 2, _ => exact h2
    | 3, _ => exact h3
    | 4, _ => exact h4
    | 5, _ => exact h5
  · rw [cell_of_row w g _ _ _ _ hg]
    match i, hi with
    | 0, _ => rfl
    | 1, _ => rfl
    | 2, _ => rfl
    | 3, _ => rfl
    | 4, _ => rfl
    | 5, _ => rfl

/-- the bytes of a header -/
def firstN (h : Hd) : Int := 1610612736 + h.cl * 1048576 + h.lb
def headL (h : Hd) : List Int := four (firstN h) ++ (two h.ln ++ ([h.nx, h.hp] ++ (h.s ++ h.d)))
def putL (h : Hd) : List Int := if canB h then headL h else []
theorem headL_length {h : Hd} (hk : h.ok) : (headL h).length = 40 := by simp [headL, four, two, hk.s, hk.d]
theorem can_range {h : Hd} (hc : canB h = true) : (0 ≤ h.cl ∧ h.cl ≤ 255) ∧ (0 ≤ h.lb ∧ h.lb ≤ 1048575) ∧ (0 ≤ h.ln ∧ h.ln ≤ 65535) ∧ (0 ≤ h.nx ∧ h.nx ≤ 255) ∧ (0 ≤ h.hp ∧ h.hp ≤ 255) := by
  unfold canB at hc
  rw [decide_eq_true_eq] at hc
  omega
theorem headL_all {h : Hd} (hk : h.ok) (hc : canB h = true) : AllB (headL h) := by
  obtain ⟨h0, h1, h2, h3, h4⟩ := can_range hc
  exact (four_all _ (by unfold firstN; omega)).append ((two_all _).append ((AllB.cons (by omega) (by omega) (.cons (by omega) (by omega) .nil)).append (hk.vs.append hk.vd)))
/-- the two addresses in a header's block -/
theorem BlkV.src {w : World} {g : Nat} {h : Hd} (hb : BlkH w g h) (hk : h.ok) {B : Nat} (hg : g < B) : Bs w B (some ⟨g, 5, none⟩) 16 h.s :=
  ⟨hk.s, hk.vs, fun _ => ⟨g, 5, rfl, hg, fun i hi => by
    rw [hb.cell, headC]
    have e : 5 + i = i + 1 + 1 + 1 + 1 + 1 := by omega
    rw [e]
    simp only [List.getElem?_cons_succ]
    rw [List.getElem?_append_left (by rw [cellsB_length, hk.s]; exact hi), cellsB_get (by rw [hk.s]; exact hi)]⟩⟩
theorem BlkV.dst {w : World} {g : Nat} {h : Hd} (hb : BlkH w g h) (hk : h.ok) {B : Nat} (hg : g < B) : Bs w B (some ⟨g, 21, none⟩) 16 h.d :=
  ⟨hk.d, hk.vd, fun _ => ⟨g, 21, rfl, hg, fun i hi => by
    rw [hb.cell, headC]
    have e : 21 + i = (16 + i) + 1 + 1 + 1 + 1 + 1 := by omega
    rw [e]
    simp only [List.getElem?_cons_succ]
    rw [List.getElem?_append_right (by rw [cellsB_length, hk.s]; omega), cellsB_length, hk.s, Nat.add_sub_cancel_left, cellsB_get (by rw [hk.d]; exact hi)]⟩⟩
theorem first_or (x y : Int) (hx : 0 ≤ x ∧ x ≤ 255) (hy : 0 ≤ y ∧ y ≤ 1048575) : bits .or .u32 (bits .or .u32 1610612736 (x * 1048576)) y = 1610612736 + x * 1048576 + y := by
  rw [or_u32 28 1610612736 (x * 1048576) (by omega) (by omega) (by omega) (by omega) (by omega) (by omega), or_u32 20 (1610612736 + x * 1048576) y (by omega) (by omega) (by omega) (by omega) (by omega) (by omega)]

end Go.Proofs.Ytheagbgojdlfaaa
