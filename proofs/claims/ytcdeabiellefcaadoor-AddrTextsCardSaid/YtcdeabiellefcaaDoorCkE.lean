/- What cksum.whole, Check and Fine tell. Conditions: the addresses are 16 bytes each, numbers are ints, the slice is at most 2^47 bytes long. -/
import Derived.Test.YtcdeabiellefcaaDoorCkD
import Derived.Laws.Rows
namespace Go.Proofs.YtcdeabiellefcaaDoor
open Go.RowKit
set_option linter.unusedVariables false

theorem addr_size : (Tryd.prog.info? 23).map (·.size) = some 16 := by kernel_rfl
/-- an address is read whole -/
theorem wpList_load_addr {ops : Array Oper} {rest : List Oper} {o : Oper} {a : Act} {w : World} {Q : Exit → Act → World → Prop} (hgd : o.guard = none) (x : Operand) (ho : o.op = .load 23 x)
    (g : Nat) (hx : a.eval x = .pointer (some ⟨g, 0, none⟩)) (t : TypeId) (s : List Int) (h : Blk w t g s) (hs : s.length = 16)
    (hk : wpList Tryd.prog ops Q rest (a.put o.dst (.agg (cellsB s).toArray)) w) : wpList Tryd.prog ops Q (o :: rest) a w :=
  wpList_load_row hgd 23 x ho g hx t (cellsB s).toArray (0, 0) _ h Tryd.underlying23 rfl (by rw [addr_size]; simp [cellsB_length, hs]) hk
theorem box_first (w : World) (s d : List Int) (t1 t2 : TypeId) : Blk ((w.alloc (.cells (cellsB s).toArray t1)).alloc (.cells (cellsB d).toArray t2)) t1 w.heap.size s := (Blk.new w t1 s).alloc _
theorem box_second (w : World) (s d : List Int) (t1 t2 : TypeId) : Blk ((w.alloc (.cells (cellsB s).toArray t1)).alloc (.cells (cellsB d).toArray t2)) t2 (w.heap.size + 1) d := by
  have h := Blk.new (w.alloc (.cells (cellsB s).toArray t1)) t2 d
  rw [show (w.alloc (.cells (cellsB s).toArray t1)).heap.size = w.heap.size + 1 by simp] at h
  exact h

/-- the check of bytes -/
def chk (s d : List Int) (next : Int) (xs : List Int) : Int := jn (sumL (pseudoL s d xs.length next)) (sumL xs)

def fineB (s d : List Int) (next : Int) (xs : List Int) : Bool := chk s d next xs == 65535
end Go.Proofs.YtcdeabiellefcaaDoor
