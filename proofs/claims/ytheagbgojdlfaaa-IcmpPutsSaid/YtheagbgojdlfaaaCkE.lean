/- What cksum.whole, Check and Fine tell. Conditions: the addresses are 16 bytes each, numbers are ints, the slice is at most 2^47 bytes long. -/
import Derived.Test.YtheagbgojdlfaaaCkD
import Derived.Laws.Rows
namespace Go.Proofs.Ytheagbgojdlfaaa
open Go.RowKit
set_option linter.unusedVariables false

set_option maxHeartbeats 800000 in
theorem whole_any (s d : List Int) (next : Int) (A : Option Addr) (n c : Nat) (xs : List Int) (w : World) (hs : s.length = 16) (hd : d.length = 16) (vs : AllB s) (vd : AllB d) (hx : i64ok next) (hn : n ≤ 140737488355328) (hb : Bs w w.heap.size A n xs) :
    Calls Try.prog 37 #[addrV s, addrV d, .int .i64 next, .slice A n c] w fun e w' => e = .returned (.int .i64 (jn (sumL (pseudoL s d n next)) (sumL xs))) ∧ Below w.heap.size w w' := by
  unfold addrV
  have HS := Lib.hid hs
  have HD := Lib.hid hd
  have HB0 := Lib.hid (box_first w s d 23 23)
  have HB1 := Lib.hid (box_second w s d 23 23)
  have hL : Low w ((w.alloc (.cells (cellsB s).toArray 23)).alloc (.cells (cellsB d).toArray 23)) := (Low.alloc w _).trans (Low.alloc _ _)
  clear hs hd
  go_enter Try.func37, Try.ntmps37
  go_wp2_with (first
    | (with_reducible refine wpList_load_addr rfl (.tmp 4) rfl w.heap.size rfl _ s HB0.out HS.out ?_)
    | (with_reducible refine wpList_load_addr rfl (.tmp 5) rfl (w.heap.size + 1) rfl _ d HB1.out HD.out ?_))
  clear HB0 HB1
  generalize (w.alloc (.cells (cellsB s).toArray 23)).alloc (.cells (cellsB d).toArray 23) = w1 at *
  refine (pseudo_any s d n next w1 HS.out HD.out vs vd (by unfold i64ok; omega) hx).mono ?_
  rintro e w2 ⟨rfl, hl⟩
  replace hL := hL.trans hl
  clear hl
  go_wp2_with fail
  refine (cksum_any A n c xs w2 hn (hb.below' hL hL.size)).mono ?_
  rintro e w3 ⟨rfl, hl⟩
  replace hL := hL.trans hl
  clear hl
  go_wp2_with fail
  refine (ckjoin_any _ _ _).mono ?_
  rintro e w4 ⟨rfl, rfl⟩
  go_wp2
  go_ret
  exact ⟨rfl, hL⟩

/-- the check of bytes -/
def chk (s d : List Int) (next : Int) (xs : List Int) : Int := jn (sumL (pseudoL s d xs.length next)) (sumL xs)

set_option maxHeartbeats 800000 in
theorem check_any (s d : List Int) (next : Int) (A : Option Addr) (n c : Nat) (xs : List Int) (w : World) (hs : s.length = 16) (hd : d.length = 16) (vs : AllB s) (vd : AllB d) (hx : i64ok next) (hn : n ≤ 140737488355328) (hb : Bs w w.heap.size A n xs) :
    Calls Try.prog 22 #[addrV s, addrV d, .int .i64 next, .slice A n c] w fun e w' => e = .returned (.int .i64 (nt (chk s d next xs))) ∧ Below w.heap.size w w' := by
  have HC := Lib.hid (show chk s d next xs = jn (sumL (pseudoL s d n next)) (sumL xs) by unfold chk; rw [hb.len])
  unfold addrV
  have HS := Lib.hid hs
  have HD := Lib.hid hd
  have HB0 := Lib.hid (box_first w s d 23 23)
  have HB1 := Lib.hid (box_second w s d 23 23)
  have hL : Low w ((w.alloc (.cells (cellsB s).toArray 23)).alloc (.cells (cellsB d).toArray 23)) := (Low.alloc w _).trans (Low.alloc _ _)
  clear hs hd
  go_enter Try.func22, Try.ntmps22
  go_wp2_with (first
    | (with_reducible refine wpList_load_addr rfl (.tmp 4) rfl w.heap.size rfl _ s HB0.out HS.out ?_)
    | (with_reducible refine wpList_load_addr rfl (.tmp 5) rfl (w.heap.size + 1) rfl _ d HB1.out HD.out ?_))
  clear HB0 HB1
  generalize (w.alloc (.cells (cellsB s).toArray 23)).alloc (.cells (cellsB d).toArray 23) = w1 at *
  refine (whole_any s d next A n c xs w1 HS.out HD.out vs vd hx hn (hb.below' hL hL.size)).mono ?_
  rintro e w2 ⟨rfl, hl⟩
  replace hL := hL.trans hl
  clear hl
  go_wp2_with fail
  refine (cknot_any _ _).mono ?_
  rintro e w4 ⟨rfl, rfl⟩
  go_wp2
  go_ret
  exact ⟨ret_i (by rw [HC.out]), hL⟩

def fineB (s d : List Int) (next : Int) (xs : List Int) : Bool := chk s d next xs == 65535
set_option maxHeartbeats 800000 in
theorem fine_any (s d : List Int) (next : Int) (A : Option Addr) (n c : Nat) (xs : List Int) (w : World) (hs : s.length = 16) (hd : d.length = 16) (vs : AllB s) (vd : AllB d) (hx : i64ok next) (hn : n ≤ 140737488355328) (hb : Bs w w.heap.size A n xs) :
    Calls Try.prog 26 #[addrV s, addrV d, .int .i64 next, .slice A n c] w fun e w' => e = .returned (.bool (fineB s d next xs)) ∧ Below w.heap.size w w' := by
  have HC := Lib.hid (show fineB s d next xs = (jn (sumL (pseudoL s d n next)) (sumL xs) == 65535) by unfold fineB chk; rw [hb.len])
  unfold addrV
  have HS := Lib.hid hs
  have HD := Lib.hid hd
  have HB0 := Lib.hid (box_first w s d 23 23)
  have HB1 := Lib.hid (box_second w s d 23 23)
  have hL : Low w ((w.alloc (.cells (cellsB s).toArray 23)).alloc (.cells (cellsB d).toArray 23)) := (Low.alloc w _).trans (Low.alloc _ _)
  clear hs hd
  go_enter Try.func26, Try.ntmps26
  go_wp2_with (first
    | (with_reducible refine wpList_load_addr rfl (.tmp 4) rfl w.heap.size rfl _ s HB0.out HS.out ?_)
    | (with_reducible refine wpList_load_addr rfl (.tmp 5) rfl (w.heap.size + 1) rfl _ d HB1.out HD.out ?_))
  clear HB0 HB1
  generalize (w.alloc (.cells (cellsB s).toArray 23)).alloc (.cells (cellsB d).toArray 23) = w1 at *
  refine (whole_any s d next A n c xs w1 HS.out HD.out vs vd hx hn (hb.below' hL hL.size)).mono ?_
  rintro e w2 ⟨rfl, hl⟩
  replace hL := hL.trans hl
  clear hl
  generalize jn (sumL (pseudoL s d n next)) (sumL xs) = z at *
  go_wp2
  go_ret
  exact ⟨ret_bool (by rw [HC.out]), hL⟩
end Go.Proofs.Ytheagbgojdlfaaa
