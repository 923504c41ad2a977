/- What the document's own route of packets tells. Conditions: the headers are those that the bytes say, at least one. -/
import Derived.Test.YtdpbhhoabnmbpaaGreatPkD
import Derived.Test.YtdpbhhoabnmbpaaGreatJSrB
import Derived.Test.YtdpbhhoabnmbpaaGreatJDt
set_option maxRecDepth 100000
namespace Go.Proofs.YtdpbhhoabnmbpaaGreat
open Go.RowKit
set_option linter.unusedVariables false

/-- the packet so far: its fixed header alone; and where it goes -/
def headQ (h : Hd) : Pq := { zeroQ with h := h }
def destQ (h : Hd) : Pq := setFin h.d (headQ h)
theorem Sr.from_.lessK {lo lo' : Nat} {s : Sr} (h : s.from_ lo) (hl : lo' ≤ lo) : s.from_ lo' := ⟨h.sg.less hl, h.tl.lessS hl⟩
theorem zeroSr_from (lo : Nat) : zeroSr.from_ lo := ⟨AFrom.nil _ _, OFrom.nil _ _⟩
theorem rtErr_lat {xs : List Int} {ps : List Pt} {d : List Int} (h : latB ps = true) : rtErr xs ps d = 7 := by unfold rtErr; rw [if_pos h]
end Go.Proofs.YtdpbhhoabnmbpaaGreat
