/- What the document's own Parse of packets tells. Condition: at most 2^47 bytes. -/
import Derived.Test.YtdpbhhoabnmbpaaGreatPkG
import Derived.Test.YtdpbhhoabnmbpaaGreatPkE
import Derived.Test.YtdpbhhoabnmbpaaGreatJTd
import Derived.Test.YtdpbhhoabnmbpaaGreatJIc
import Derived.Test.YtdpbhhoabnmbpaaGreatJWk
import Derived.Test.YtdpbhhoabnmbpaaGreatJSx
set_option maxRecDepth 100000
namespace Go.Proofs.YtdpbhhoabnmbpaaGreat
open Go.RowKit
set_option linter.unusedVariables false

/-- a packet that is told -/
def GivesPk (w : World) (xs : List Int) (e : Ending) (w' : World) : Prop :=
  ∃ q : Pq, e = .returned (.tuple #[pqV q, .int .i64 (pkE xs)]) ∧ q.v = pkB xs ∧ q.ok w' w'.heap.size ∧ Below w.heap.size w w'
theorem GivesPk.no {w w' : World} {xs : List Int} {k : Int} (h : pkE xs = k) (hk : k ≠ 0) (hB : Below w.heap.size w w') : GivesPk w xs (.returned (.tuple #[pqV zeroQ, .int .i64 k])) w' :=
  ⟨zeroQ, by rw [h], by unfold pkB; rw [if_neg (by rw [h]; exact hk)]; rfl, zeroQ_ok _ _, hB⟩
/-- how a call ends that tells no packet -/
theorem pk_none {xs : List Int} {k : Int} (h : preE xs = k) (hk : k ≠ 0) : pkE xs = k := by unfold pkE; rw [if_neg (by rw [h]; exact hk), h]

/-- an empty message lies anywhere -/
theorem Mg.ok.empty {w w' : World} {B B' : Nat} {m : Mg} (h : m.ok w B) (e : m.v = zeroMb) : m.ok w' B' :=
  ⟨h.kd, h.cd, h.wd, h.bm, h.bs.len, h.bs.all, fun hn => by
    have h1 := h.bs.len
    rw [show m.bs = [] from congrArg Mb.bs e] at h1
    exact absurd hn (by rw [← h1]; show ¬ 0 < 0; omega)⟩
/-- an empty segment lies anywhere -/
theorem Sg.ok.empty {w w' : World} {B B' : Nat} {t : Sg} (h : t.ok w B) (e : t.v = zeroSb) : t.ok w' B' := by
  have e1 : t.os.map Od.v = [] := congrArg Sb.os e
  have e2 : t.ps = [] := congrArg Sb.ps e
  have e3 : t.os = [] := List.map_eq_nil_iff.1 e1
  have n1 := h.os.len
  have n2 := h.ps.len
  rw [e3] at n1
  rw [e2] at n2
  exact ⟨h.sp, h.dp, h.sq, h.ak, h.fl, h.wi, h.su, h.ur, h.om, ⟨h.os.len, fun o ho => (by rw [e3] at ho; cases ho), fun hn => absurd hn (by rw [← n1]; show ¬ 0 < 0; omega)⟩, h.pm, ⟨h.ps.len, h.ps.all, fun hn => absurd hn (by rw [← n2]; show ¬ 0 < 0; omega)⟩⟩
/-- a packet with a segment; with a message -/
theorem GivesPk.yes6 {w w' : World} {xs bs s f : List Int} {q : Pq} {t : Sg} {A : Option Addr} {n c : Nat} {h : Hd} {i : Bool} {r : Rb} (hv : q.v = ⟨h, i, r, f, 0, zeroSb, zeroMb, []⟩) (ht : t.v = (parseS bs).1) (hE : pkE xs = 0)
    (hS : pkSays xs = ⟨h, i, r, f, 6, upT 6 bs, upM s f 6 bs, bs⟩) (hok : (setTc t (setBd A n c bs (setKd 6 q))).ok w' w'.heap.size) (hB : Below w.heap.size w w') :
    GivesPk w xs (.returned (.tuple #[pqV (setTc t (setBd A n c bs (setKd 6 q))), .int .i64 0])) w' := by
  refine ⟨_, by rw [hE], ?_, hok, hB⟩
  unfold pkB
  rw [if_pos hE, hS]
  show ({ q.v with k := 6, t := t.v, bs := bs } : Pb) = _
  rw [hv, ht]
  unfold upT upM
  rw [if_pos rfl, if_neg (by omega)]
theorem GivesPk.yes58 {w w' : World} {xs bs s f : List Int} {q : Pq} {m : Mg} {A : Option Addr} {n c : Nat} {h : Hd} {i : Bool} {r : Rb} (hv : q.v = ⟨h, i, r, f, 0, zeroSb, zeroMb, []⟩) (hm : m.v = parseM s f bs) (hE : pkE xs = 0)
    (hS : pkSays xs = ⟨h, i, r, f, 58, upT 58 bs, upM s f 58 bs, bs⟩) (hok : (setMs m (setBd A n c bs (setKd 58 q))).ok w' w'.heap.size) (hB : Below w.heap.size w w') :
    GivesPk w xs (.returned (.tuple #[pqV (setMs m (setBd A n c bs (setKd 58 q))), .int .i64 0])) w' := by
  refine ⟨_, by rw [hE], ?_, hok, hB⟩
  unfold pkB
  rw [if_pos hE, hS]
  show ({ q.v with k := 58, m := m.v, bs := bs } : Pb) = _
  rw [hv, hm]
  unfold upT upM
  rw [if_neg (by omega), if_pos rfl]

end Go.Proofs.YtdpbhhoabnmbpaaGreat
