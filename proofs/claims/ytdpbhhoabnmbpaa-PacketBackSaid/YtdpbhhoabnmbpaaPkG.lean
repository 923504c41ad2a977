/- What the document's own route of packets tells. Conditions: the headers are those that the bytes say, at least one. -/
import Derived.Test.YtdpbhhoabnmbpaaPkD
import Derived.Test.YtdpbhhoabnmbpaaJSrB
import Derived.Test.YtdpbhhoabnmbpaaJDt
set_option maxRecDepth 100000
namespace Go.Proofs.Ytdpbhhoabnmbpaa
open Go.RowKit
set_option linter.unusedVariables false

/-- the packet so far: its fixed header alone; and where it goes -/
def headQ (h : Hd) : Pq := { zeroQ with h := h }
def destQ (h : Hd) : Pq := setFin h.d (headQ h)
/-- a packet handed back, with an error -/
def GivesQ (w : World) (xs : List Int) (ps : List Pt) (h : Hd) (e : Ending) (w' : World) : Prop :=
  ∃ q : Pq, e = .returned (.tuple #[pqV q, .int .i64 (rtErr xs ps h.d)]) ∧ (q.h.s.length = 16 ∧ q.h.d.length = 16 ∧ q.f.length = 16) ∧ Below w.heap.size w w' ∧
    (rtErr xs ps h.d = 0 → q.v = ⟨h, rtIs ps, rtR xs ps, rtFin xs ps h.d, 0, zeroSb, zeroMb, []⟩ ∧ q.ok w' w'.heap.size ∧ q.r.from_ w.heap.size)
theorem Sr.from_.lessK {lo lo' : Nat} {s : Sr} (h : s.from_ lo) (hl : lo' ≤ lo) : s.from_ lo' := ⟨h.sg.less hl, h.tl.lessS hl⟩
theorem zeroSr_from (lo : Nat) : zeroSr.from_ lo := ⟨AFrom.nil _ _, OFrom.nil _ _⟩
theorem rtErr_lat {xs : List Int} {ps : List Pt} {d : List Int} (h : latB ps = true) : rtErr xs ps d = 7 := by unfold rtErr; rw [if_pos h]
theorem latB_yes {ps : List Pt} {k : Nat} (h1 : 1 ≤ k) (h2 : k < ps.length) (h : (ps.getD k zeroP).k = 43) : latB ps = true := by
  unfold latB
  rw [List.any_eq_true]
  refine ⟨ps.getD k zeroP, ?_, by rw [h]; rfl⟩
  rw [List.mem_iff_getElem?]
  refine ⟨k - 1, ?_⟩
  rw [List.getElem?_drop, show 1 + (k - 1) = k by omega]
  simp [List.getD, h2]
theorem latB_no {ps : List Pt} (h : ∀ j, 1 ≤ j → j < ps.length → (ps.getD j zeroP).k ≠ 43) : latB ps = false := by
  unfold latB
  rw [List.any_eq_false]
  intro q hq
  obtain ⟨i, hi⟩ := List.mem_iff_getElem?.1 hq
  rw [List.getElem?_drop] at hi
  have hlt : 1 + i < ps.length := (List.getElem?_eq_some_iff.1 hi).1
  have := h (1 + i) (by omega) hlt
  rw [show ps.getD (1 + i) zeroP = q by simp [List.getD, hi]] at this
  simpa using this

end Go.Proofs.Ytdpbhhoabnmbpaa
