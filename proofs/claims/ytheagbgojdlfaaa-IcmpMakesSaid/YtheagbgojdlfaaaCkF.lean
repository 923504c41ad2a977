/- What the document's own Pseudo, Check and Fine tell. Conditions: the addresses are 16 bytes each, numbers are ints, the slice is at most 2^47 - 4096 bytes long. -/
import Derived.Test.YtheagbgojdlfaaaCkE
import Derived.Test.YtheagbgojdlfaaaRefA
namespace Go.Proofs.Ytheagbgojdlfaaa
open Go.RowKit
set_option linter.unusedVariables false

/-- k bytes of src lie behind pre, in a row of the call's own -/
def GrowRel (t : TypeId) (B m : Nat) (w2 : World) (pre src : List Int) (b i : Value) (wr : World) : Prop :=
  ∃ (k q : Nat) (A : Option Addr) (c : Nat), q = m + k ∧ k ≤ 16 ∧ i = .int .i64 k ∧ b = .slice A q c ∧ OwnB t wr B A q c (pre ++ src.take k) ∧ Below B w2 wr
theorem take_one (xs : List Int) (k : Nat) (h : k < xs.length) : xs.take (k + 1) = xs.take k ++ [xs.getD k 0] := by
  rw [List.take_succ_eq_append_getElem h]
  simp [List.getD, h]
set_option maxRecDepth 100000 in
set_option maxHeartbeats 1000000 in
theorem rpseudo_any (s d : List Int) (len next : Int) (w : World) (hs : s.length = 16) (hd : d.length = 16) (vs : AllB s) (vd : AllB d) (hl : i64ok len) (hx : i64ok next) :
    Calls Try.prog 40 #[addrV s, addrV d, .int .i64 len, .int .i64 next] w fun e w' => e = .returned (.int .i64 (sumL (pseudoL s d len next))) ∧ Below w.heap.size w w' := by
  obtain ⟨i0, hi, hz0, hz1, hz2⟩ := info_parts info5
  have HI := Lib.hid hi
  have HZ0 := Lib.hid hz0
  have HZ1 := Lib.hid hz1
  have HZ2 := Lib.hid hz2
  clear hi hz0 hz1 hz2
  unfold i64ok at hl hx
  unfold addrV
  have HS := Lib.hid hs
  have HD := Lib.hid hd
  have HB0 := Lib.hid (box_first w s d 23 23)
  have HB1 := Lib.hid (box_second w s d 23 23)
  have hL : Low w ((w.alloc (.cells (cellsB s).toArray 23)).alloc (.cells (cellsB d).toArray 23)) := (Low.alloc w _).trans (Low.alloc _ _)
  clear hs hd
  go_enter Try.func40, Try.ntmps40
  go_wp2_with fail
  generalize (w.alloc (.cells (cellsB s).toArray 23)).alloc (.cells (cellsB d).toArray 23) = w2 at *
  go_loopw [9, 10] (fun b i wr => GrowRel 5 w2.heap.size 0 w2 [] s b i wr) (fun _ i _ => 16 - (intOf i).toNat)
  case atStart => exact ⟨0, 0, none, 0, rfl, Nat.zero_le _, rfl, rfl, OwnB.none_ _ _ _, Below.refl _ _⟩
  case round =>
    obtain ⟨k, q, A, c, hq, hk, rfl, rfl, hO, hB⟩ := hrel
    have HQ := Lib.hid hq
    have hqk : q ≤ k := by omega
    clear hq
    by_cases hlt : k < 16
    · have h0 := (HB0.out.below hB HB0.out.lt).cell k
      rw [cellsB_get (by rw [HS.out]; exact hlt)] at h0
      have HT := Lib.hid (take_one s k (by rw [HS.out]; exact hlt))
      have hv := vs.getD k
      generalize s.getD k 0 = x at *
      have hlB := Low.alloc wr (.cells #[.int .u8 x] 5)
      have hB1 := hB.trans (hlB.mono hB.size)
      have hO1 := hO.below hlB
      have hk1 : Blk (wr.alloc (.cells #[.int .u8 x] 5)) 5 wr.heap.size [x] := Blk.new wr 5 [x]
      have hs1 := hk1.bs (B := wr.heap.size + 1) (.cons hv.1 hv.2 .nil) (by omega) rfl
      clear hO hB hlB hk1
      go_wp2_with (at_builtin; refine wpList_append_bs rfl (.tmp 16) (.tmp 20) _ rfl w2.heap.size 5 i0 Try.underlying27 HI.out HZ0.out HZ1.out HZ2.out _ q c _ rfl hO1 _ 1 _ _ [x] rfl hs1 (by omega) hB1.size ?_; intro A3 c3 w3 hO3 hg3 hb3)
      have hB3 : Below w2.heap.size w2 w3 := hB1.grown hg3 hB1.size (fun k hk => (hO1.lt k hk).1)
      rw [List.append_assoc, ← HT.out] at hO3
      go_roundw
      case rel => exact ⟨k + 1, q + 1, A3, c3, by rw [HQ.out]; rfl, by omega, by go_num, rfl, hO3, hB3⟩
      case measure => simp [intOf]; omega
    · obtain rfl : k = 16 := by omega
      have HT := Lib.hid (show s.take 16 = s from List.take_of_length_le (by rw [HS.out]; omega))
      rw [HT.out, List.nil_append] at hO
      obtain rfl : q = 16 := HQ.out
      go_wp2_with fail
      go_loopw [9, 11] (fun b i wr => GrowRel 5 w2.heap.size 16 w2 s d b i wr) (fun _ i _ => 16 - (intOf i).toNat)
      case atStart => exact ⟨0, 16, A, c, rfl, Nat.zero_le _, rfl, rfl, by rw [List.take_zero, List.append_nil]; exact hO, hB⟩
      case round =>
        clear hO hB HT
        obtain ⟨k, q, A, c, hq, hk, rfl, rfl, hO, hB⟩ := hrel
        have HQ := Lib.hid hq
        have hqk : q ≤ 16 + k := by omega
        clear hq
        by_cases hlt : k < 16
        · have h0 := (HB1.out.below hB HB1.out.lt).cell k
          rw [cellsB_get (by rw [HD.out]; exact hlt)] at h0
          have HT := Lib.hid (take_one d k (by rw [HD.out]; exact hlt))
          have hv := vd.getD k
          generalize d.getD k 0 = x at *
          rename_i wr0 wr
          have hlB := Low.alloc wr (.cells #[.int .u8 x] 5)
          have hB1 := hB.trans (hlB.mono hB.size)
          have hO1 := hO.below hlB
          have hk1 : Blk (wr.alloc (.cells #[.int .u8 x] 5)) 5 wr.heap.size [x] := Blk.new wr 5 [x]
          have hs1 := hk1.bs (B := wr.heap.size + 1) (.cons hv.1 hv.2 .nil) (by omega) rfl
          clear hO hB hlB hk1
          go_wp2_with (at_builtin; refine wpList_append_bs rfl (.tmp 26) (.tmp 30) _ rfl w2.heap.size 5 i0 Try.underlying27 HI.out HZ0.out HZ1.out HZ2.out _ q c _ rfl hO1 _ 1 _ _ [x] rfl hs1 (by omega) hB1.size ?_; intro A3 c3 w3 hO3 hg3 hb3)
          have hB3 : Below w2.heap.size w2 w3 := hB1.grown hg3 hB1.size (fun k hk => (hO1.lt k hk).1)
          rw [List.append_assoc, ← HT.out] at hO3
          go_roundw
          case rel => exact ⟨k + 1, q + 1, A3, c3, by rw [HQ.out]; rfl, by omega, by go_num, rfl, hO3, hB3⟩
          case measure => simp [intOf]; omega
        · obtain rfl : k = 16 := by omega
          have HT := Lib.hid (show d.take 16 = d from List.take_of_length_le (by rw [HD.out]; omega))
          rw [HT.out] at hO
          obtain rfl : q = 32 := HQ.out
          clear HQ HT hqk hlt hk
          have hl4 : 0 ≤ len % 4294967296 ∧ len % 4294967296 < 4294967296 := by omega
          have hx1 : 0 ≤ next % 256 ∧ next % 256 < 256 := by omega
          go_wp2_with fail
          have HP := Lib.hid (show pseudoL s d len next = s ++ d ++ four (len % 4294967296) ++ [0, 0, 0, next % 256] from rfl)
          generalize len % 4294967296 = l4 at *
          refine (rfour_any l4 wr hl4).mono ?_
          rintro e w3 ⟨A3, c3, rfl, hb3, hl3⟩
          have hB1 := hB.trans (hl3.mono hB.size)
          have hO1 := hO.below hl3
          clear hO hB hl3
          go_wp2_with (first
            | (at_builtin; refine wpList_append_bs rfl (.tmp 32) (.tmp 35) _ rfl w2.heap.size 5 i0 Try.underlying27 HI.out HZ0.out HZ1.out HZ2.out _ 32 c _ rfl hO1 _ 4 _ _ (four l4) rfl hb3 (by omega) hB1.size ?_; intro A4 c4 w4 hO4 hg4 hb4
               have hB4 : Below w2.heap.size w2 w4 := hB1.grown hg4 hB1.size (fun k hk => (hO1.lt k hk).1)
               have hlB := Low.alloc w4 (.cells #[.int .u8 0, .int .u8 0, .int .u8 0, .int .u8 (next % 256)] 5)
               have hB5 := hB4.trans (hlB.mono hB4.size)
               have hO5 := hO4.below hlB
               have hk5 : Blk (w4.alloc (.cells #[.int .u8 0, .int .u8 0, .int .u8 0, .int .u8 (next % 256)] 5)) 5 w4.heap.size [0, 0, 0, next % 256] := Blk.new w4 5 [0, 0, 0, next % 256]
               have hs5 := hk5.bs (B := w4.heap.size + 1) (.cons (by omega) (by omega) (.cons (by omega) (by omega) (.cons (by omega) (by omega) (.cons hx1.1 hx1.2 .nil)))) (by omega) rfl
               clear hO1 hb3 hB1 hO4 hg4 hb4 hB4 hlB hk5)
            | (at_builtin; refine wpList_append_bs rfl (.tmp 37) (.tmp 40) _ rfl w2.heap.size 5 i0 Try.underlying27 HI.out HZ0.out HZ1.out HZ2.out _ 36 c4 _ rfl hO5 _ 4 _ _ [0, 0, 0, next % 256] rfl hs5 (by omega) hB5.size ?_; intro A6 c6 w6 hO6 hg6 hb6
               have hB6 : Below w2.heap.size w2 w6 := hB5.grown hg6 hB5.size (fun k hk => (hO5.lt k hk).1)))
          have hL6 := hL.trans hB6
          have hb7 := hO6.bs (B := w6.heap.size) (Nat.le_refl _)
          rw [← HP.out] at hb7
          clear hO6 hg6 hb6 hB6 hO5 hs5 hB5 HP hx1 hl4
          refine (rsum_any A6 40 c6 _ w6 (by omega) hb7).mono ?_
          rintro e w7 ⟨rfl, hl7⟩
          go_wp2
          go_ret
          exact ⟨rfl, hL6.trans hl7⟩

set_option maxHeartbeats 800000 in
theorem rcheck_any (s d : List Int) (next : Int) (A : Option Addr) (n c : Nat) (xs : List Int) (w : World) (hs : s.length = 16) (hd : d.length = 16) (vs : AllB s) (vd : AllB d) (hx : i64ok next) (hn : n ≤ 140737488351232) (hb : Bs w w.heap.size A n xs) :
    Calls Try.prog 25 #[addrV s, addrV d, .int .i64 next, .slice A n c] w fun e w' => e = .returned (.int .i64 (nt (chk s d next xs))) ∧ Below w.heap.size w w' := by
  have HC := Lib.hid (show chk s d next xs = jn (sumL (pseudoL s d n next)) (sumL xs) by unfold chk; rw [hb.len])
  unfold addrV
  have HS := Lib.hid hs
  have HD := Lib.hid hd
  have HB0 := Lib.hid (box_first w s d 23 23)
  have HB1 := Lib.hid (box_second w s d 23 23)
  have hL : Low w ((w.alloc (.cells (cellsB s).toArray 23)).alloc (.cells (cellsB d).toArray 23)) := (Low.alloc w _).trans (Low.alloc _ _)
  clear hs hd
  go_enter Try.func25, Try.ntmps25
  go_wp2_with (first
    | (with_reducible refine wpList_load_addr rfl (.tmp 4) rfl w.heap.size rfl _ s HB0.out HS.out ?_)
    | (with_reducible refine wpList_load_addr rfl (.tmp 5) rfl (w.heap.size + 1) rfl _ d HB1.out HD.out ?_))
  clear HB0 HB1
  generalize (w.alloc (.cells (cellsB s).toArray 23)).alloc (.cells (cellsB d).toArray 23) = w1 at *
  refine (rpseudo_any s d n next w1 HS.out HD.out vs vd (by unfold i64ok; omega) hx).mono ?_
  rintro e w2 ⟨rfl, hl⟩
  replace hL := hL.trans hl
  clear hl
  go_wp2_with fail
  refine (rsum_any A n c xs w2 hn (hb.below' hL hL.size)).mono ?_
  rintro e w3 ⟨rfl, hl⟩
  replace hL := hL.trans hl
  clear hl
  go_wp2_with fail
  refine (rjoin_any _ _ _).mono ?_
  rintro e w4 ⟨rfl, rfl⟩
  go_wp2_with fail
  refine (rnot_any _ _).mono ?_
  rintro e w4 ⟨rfl, rfl⟩
  go_wp2
  go_ret
  exact ⟨ret_i (by rw [HC.out]), hL⟩

set_option maxHeartbeats 800000 in
theorem rfine_any (s d : List Int) (next : Int) (A : Option Addr) (n c : Nat) (xs : List Int) (w : World) (hs : s.length = 16) (hd : d.length = 16) (vs : AllB s) (vd : AllB d) (hx : i64ok next) (hn : n ≤ 140737488351232) (hb : Bs w w.heap.size A n xs) :
    Calls Try.prog 29 #[addrV s, addrV d, .int .i64 next, .slice A n c] w fun e w' => e = .returned (.bool (fineB s d next xs)) ∧ Below w.heap.size w w' := by
  have HC := Lib.hid (show fineB s d next xs = (jn (sumL (pseudoL s d n next)) (sumL xs) == 65535) by unfold fineB chk; rw [hb.len])
  unfold addrV
  have HS := Lib.hid hs
  have HD := Lib.hid hd
  have HB0 := Lib.hid (box_first w s d 23 23)
  have HB1 := Lib.hid (box_second w s d 23 23)
  have hL : Low w ((w.alloc (.cells (cellsB s).toArray 23)).alloc (.cells (cellsB d).toArray 23)) := (Low.alloc w _).trans (Low.alloc _ _)
  clear hs hd
  go_enter Try.func29, Try.ntmps29
  go_wp2_with (first
    | (with_reducible refine wpList_load_addr rfl (.tmp 4) rfl w.heap.size rfl _ s HB0.out HS.out ?_)
    | (with_reducible refine wpList_load_addr rfl (.tmp 5) rfl (w.heap.size + 1) rfl _ d HB1.out HD.out ?_))
  clear HB0 HB1
  generalize (w.alloc (.cells (cellsB s).toArray 23)).alloc (.cells (cellsB d).toArray 23) = w1 at *
  refine (rpseudo_any s d n next w1 HS.out HD.out vs vd (by unfold i64ok; omega) hx).mono ?_
  rintro e w2 ⟨rfl, hl⟩
  replace hL := hL.trans hl
  clear hl
  go_wp2_with fail
  refine (rsum_any A n c xs w2 hn (hb.below' hL hL.size)).mono ?_
  rintro e w3 ⟨rfl, hl⟩
  replace hL := hL.trans hl
  clear hl
  go_wp2_with fail
  refine (rjoin_any _ _ _).mono ?_
  rintro e w4 ⟨rfl, rfl⟩
  generalize jn (sumL (pseudoL s d n next)) (sumL xs) = z at *
  go_wp2
  go_ret
  exact ⟨ret_bool (by rw [HC.out]), hL⟩
end Go.Proofs.Ytheagbgojdlfaaa
