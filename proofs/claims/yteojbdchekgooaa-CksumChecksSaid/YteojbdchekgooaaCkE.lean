/- What cksum.whole, Check and Fine tell. Conditions: the addresses are 16 bytes each, numbers are ints, the slice is at most 2^47 bytes long. -/
import Derived.Test.YteojbdchekgooaaCkD
import Derived.Laws.Rows
namespace Go.Proofs.Yteojbdchekgooaa
open Go.RowKit
set_option linter.unusedVariables false

theorem addr_size : (Try.prog.info? 31).map (·.size) = some 16 := by kernel_rfl
/-- an address is read whole -/
theorem wpList_load_addr {ops : Array Oper} {rest : List Oper} {o : Oper} {a : Act} {w : World} {Q : Exit → Act → World → Prop} (hgd : o.guard = none) (x : Operand) (ho : o.op = .load 31 x)
    (g : Nat) (hx : a.eval x = .pointer (some ⟨g, 0, none⟩)) (t : TypeId) (s : List Int) (h : Blk w t g s) (hs : s.length = 16)
    (hk : wpList Try.prog ops Q rest (a.put o.dst (.agg (cellsB s).toArray)) w) : wpList Try.prog ops Q (o :: rest) a w :=
  wpList_load_row hgd 31 x ho g hx t (cellsB s).toArray (0, 0) _ h Try.underlying31 rfl (by rw [addr_size]; simp [cellsB_length, hs]) hk
theorem box_first (w : World) (s d : List Int) (t1 t2 : TypeId) : Blk ((w.alloc (.cells (cellsB s).toArray t1)).alloc (.cells (cellsB d).toArray t2)) t1 w.heap.size s := (Blk.new w t1 s).alloc _
theorem box_second (w : World) (s d : List Int) (t1 t2 : TypeId) : Blk ((w.alloc (.cells (cellsB s).toArray t1)).alloc (.cells (cellsB d).toArray t2)) t2 (w.heap.size + 1) d := by
  have h := Blk.new (w.alloc (.cells (cellsB s).toArray t1)) t2 d
  rw [show (w.alloc (.cells (cellsB s).toArray t1)).heap.size = w.heap.size + 1 by simp] at h
  exact h

set_option maxHeartbeats 800000 in
theorem whole_any (s d : List Int) (next : Int) (A : Option Addr) (n c : Nat) (xs : List Int) (w : World) (hs : s.length = 16) (hd : d.length = 16) (vs : AllB s) (vd : AllB d) (hx : i64ok next) (hn : n ≤ 140737488355328) (hb : Bs w w.heap.size A n xs) :
    Calls Try.prog 31 #[addrV s, addrV d, .int .i64 next, .slice A n c] w fun e w' => e = .returned (.int .i64 (jn (sumL (pseudoL s d n next)) (sumL xs))) ∧ Below w.heap.size w w' := by
  unfold addrV
  have HS := Lib.hid hs
  have HD := Lib.hid hd
  have HB0 := Lib.hid (box_first w s d 31 31)
  have HB1 := Lib.hid (box_second w s d 31 31)
  have hL : Low w ((w.alloc (.cells (cellsB s).toArray 31)).alloc (.cells (cellsB d).toArray 31)) := (Low.alloc w _).trans (Low.alloc _ _)
  clear hs hd
  go_enter Try.func31, Try.ntmps31
  go_wp2_with (first
    | (with_reducible refine wpList_load_addr rfl (.tmp 4) rfl w.heap.size rfl _ s HB0.out HS.out ?_)
    | (with_reducible refine wpList_load_addr rfl (.tmp 5) rfl (w.heap.size + 1) rfl _ d HB1.out HD.out ?_))
  clear HB0 HB1
  generalize (w.alloc (.cells (cellsB s).toArray 31)).alloc (.cells (cellsB d).toArray 31) = w1 at *
  refine (pseudo_any s d n next w1 HS.out HD.out vs vd (by unfold i64ok; omega) hx).mono ?_
  rintro e w2 ⟨rfl, hl⟩
  replace hL := hL.trans hl
  clear hl
  go_wp2_with fail
  refine (cksum_any A n c xs w2 hn (hb.below' hL hL.size)).mono ?_
  rintro e w3 ⟨rfl, hl⟩
  replace hL := hL.trans hl
  clear hl
  go_wp2_with fail
  refine (ckjoin_any _ _ _).mono ?_
  rintro e w4 ⟨rfl, rfl⟩
  go_wp2
  go_ret
  exact ⟨rfl, hL⟩

/-- the check of bytes -/
def chk (s d : List Int) (next : Int) (xs : List Int) : Int := jn (sumL (pseudoL s d xs.length next)) (sumL xs)

set_option maxHeartbeats 800000 in
theorem check_any (s d : List Int) (next : Int) (A : Option Addr) (n c : Nat) (xs : List Int) (w : World) (hs : s.length = 16) (hd : d.length = 16) (vs : AllB s) (vd : AllB d) (hx : i64ok next) (hn : n ≤ 140737488355328) (hb : Bs w w.heap.size A n xs) :
    Calls Try.prog 18 #[addrV s, addrV d, .int .i64 next, .slice A n c] w fun e w' => e = .returned (.int .i64 (nt (chk s d next xs))) ∧ Below w.heap.size w w' := by
  have HC := Lib.hid (show chk s d next xs = jn (sumL (pseudoL s d n next)) (sumL xs) by unfold chk; rw [hb.len])
  unfold addrV
  have HS := Lib.hid hs
  have HD := Lib.hid hd
  have HB0 := Lib.hid (box_first w s d 31 31)
  have HB1 := Lib.hid (box_second w s d 31 31)
  have hL : Low w ((w.alloc (.cells (cellsB s).toArray 31)).alloc (.cells (cellsB d).toArray 31)) := (Low.alloc w _).trans (Low.alloc _ _)
  clear hs hd
  go_enter Try.func18, Try.ntmps18
  go_wp2_with (first
    | (with_reducible refine wpList_load_addr rfl (.tmp 4) rfl w.heap.size rfl _ s HB0.out HS.out ?_)
    | (with_reducible refine wpList_load_addr rfl (.tmp 5) rfl (w.heap.size + 1) rfl _ d HB1.out HD.out ?_))
  clear HB0 HB1
  generalize (w.alloc (.cells (cellsB s).toArray 31)).alloc (.cells (cellsB d).toArray 31) = w1 at *
  refine (whole_any s d next A n c xs w1 HS.out HD.out vs vd hx hn (hb.below' hL hL.size)).mono ?_
  rintro e w2 ⟨rfl, hl⟩
  replace hL := hL.trans hl
  clear hl
  go_wp2_with fail
  refine (cknot_any _ _).mono ?_
  rintro e w4 ⟨rfl, rfl⟩
  go_wp2
  go_ret
  exact ⟨ret_i (by rw [HC.out]), hL⟩

def fineB (s d : List Int) (next : Int) (xs : List Int) : Bool := chk s d next xs == 65535
set_option maxHeartbeats 800000 in
theorem fine_any (s d : List Int) (next : Int) (A : Option Addr) (n c : Nat) (xs : List Int) (w : World) (hs : s.length = 16) (hd : d.length = 16) (vs : AllB s) (vd : AllB d) (hx : i64ok next) (hn : n ≤ 140737488355328) (hb : Bs w w.heap.size A n xs) :
    Calls Try.prog 20 #[addrV s, addrV d, .int .i64 next, .slice A n c] w fun e w' => e = .returned (.bool (fineB s d next xs)) ∧ Below w.heap.size w w' := by
  have HC := Lib.hid (show fineB s d next xs = (jn (sumL (pseudoL s d n next)) (sumL xs) == 65535) by unfold fineB chk; rw [hb.len])
  unfold addrV
  have HS := Lib.hid hs
  have HD := Lib.hid hd
  have HB0 := Lib.hid (box_first w s d 31 31)
  have HB1 := Lib.hid (box_second w s d 31 31)
  have hL : Low w ((w.alloc (.cells (cellsB s).toArray 31)).alloc (.cells (cellsB d).toArray 31)) := (Low.alloc w _).trans (Low.alloc _ _)
  clear hs hd
  go_enter Try.func20, Try.ntmps20
  go_wp2_with (first
    | (with_reducible refine wpList_load_addr rfl (.tmp 4) rfl w.heap.size rfl _ s HB0.out HS.out ?_)
    | (with_reducible refine wpList_load_addr rfl (.tmp 5) rfl (w.heap.size + 1) rfl _ d HB1.out HD.out ?_))
  clear HB0 HB1
  generalize (w.alloc (.cells (cellsB s).toArray 31)).alloc (.cells (cellsB d).toArray 31) = w1 at *
  refine (whole_any s d next A n c xs w1 HS.out HD.out vs vd hx hn (hb.below' hL hL.size)).mono ?_
  rintro e w2 ⟨rfl, hl⟩
  replace hL := hL.trans hl
  clear hl
  generalize jn (sumL (pseudoL s d n next)) (sumL xs) = z at *
  go_wp2
  go_ret
  exact ⟨ret_bool (by rw [HC.out]), hL⟩
end Go.Proofs.Yteojbdchekgooaa
