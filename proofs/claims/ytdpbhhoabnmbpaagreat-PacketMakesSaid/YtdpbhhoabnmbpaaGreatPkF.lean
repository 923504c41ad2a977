/- What the document's own Reason tells. No condition beyond the argument's type. -/
import Derived.Test.YtdpbhhoabnmbpaaGreatPkB
set_option maxRecDepth 100000
namespace Go.Proofs.YtdpbhhoabnmbpaaGreat
open Go.RowKit
set_option linter.unusedVariables false

def tabK : List (Int × Int) := [(0, 0), (3, 1), (6, 3), (7, 4), (4, 10), (13, 9)]
def lookK : List (Int × Int) → Int → Int
  | [], _ => 2
  | p :: r, e => if e = p.1 then p.2 else lookK r e
theorem lookK_all (e : Int) : lookK tabK e = reasonK e := by
  unfold reasonK tabK lookK lookK lookK lookK lookK lookK lookK
  rfl
def errsK : List Value := [.int .i64 0, .int .i64 3, .int .i64 6, .int .i64 7, .int .i64 4, .int .i64 13]
def whysK : List Value := [.int .i64 0, .int .i64 1, .int .i64 3, .int .i64 4, .int .i64 10, .int .i64 9]

set_option maxRecDepth 100000 in
set_option maxHeartbeats 3200000 in
theorem rreason_any (x : Int) (w : World) (hx : i64ok x) :
    Calls Tryz.prog 11 #[.int .i64 x] w fun e w' => e = .returned (.int .i64 (reasonK x)) ∧ Below w.heap.size w w' := by
  have HA := Lib.hid (lookK_all x)
  have HB1 : Hid (BlkV ((w.alloc (.cells errsK.toArray 89)).alloc (.cells whysK.toArray 90)) 89 w.heap.size errsK) := Lib.hid ((BlkV.new w _ errsK).alloc _)
  have HB2 : Hid (BlkV ((w.alloc (.cells errsK.toArray 89)).alloc (.cells whysK.toArray 90)) 90 (w.heap.size + 1) whysK) := Lib.hid (BlkV.second _)
  have hL : Low w ((w.alloc (.cells errsK.toArray 89)).alloc (.cells whysK.toArray 90)) := (Low.alloc w _).trans (Low.alloc _ _)
  go_enter Tryz.func11, Tryz.ntmps11
  go_wp2_with fail
  go_loopw [5] (fun i wr => ∃ k : Nat, k ≤ 6 ∧ i = .int .i64 k ∧ Hid (BlkV wr 89 w.heap.size errsK) ∧ Hid (BlkV wr 90 (w.heap.size + 1) whysK) ∧ Hid (lookK (tabK.drop k) x = reasonK x) ∧ Below w.heap.size w wr) (fun i _ => 6 - (intOf i).toNat)
  case atStart => exact ⟨0, by omega, rfl, HB1, HB2, HA, hL⟩
  case round =>
    clear HB1 HB2 hL HA
    obtain ⟨k, hk, rfl, HB1, HB2, HX, hB⟩ := hrel
    by_cases hlt : k < 6
    · have hk6 : k = 0 ∨ k = 1 ∨ k = 2 ∨ k = 3 ∨ k = 4 ∨ k = 5 := by omega
      rcases hk6 with rfl | rfl | rfl | rfl | rfl | rfl
      · have c1 : wr.cell? ⟨w.heap.size, 0, none⟩ = some (.int .i64 0) := HB1.out.cell 0
        have c2 : wr.cell? ⟨w.heap.size + 1, 0, none⟩ = some (.int .i64 0) := HB2.out.cell 0
        by_cases h : x = 0
        · have HY := Lib.hid (show reasonK x = 0 by rw [← HX.out, h]; rfl)
          subst h
          go_wp2_with fail
          go_ret
          exact ⟨by rw [HY.out]; rfl, hB⟩
        · have HN : Hid (lookK (tabK.drop 1) x = reasonK x) := Lib.hid (by
            rw [← HX.out]
            show _ = if x = 0 then _ else _
            rw [if_neg h]
            rfl)
          have hne : ((0 : Int) == x) = false := by simpa using fun e => h e.symm
          go_wp2_with fail
          go_roundw
          case rel => exact ⟨1, by omega, rfl, HB1, HB2, HN, hB⟩
          case measure => simp [intOf]
      · have c1 : wr.cell? ⟨w.heap.size, 1, none⟩ = some (.int .i64 3) := HB1.out.cell 1
        have c2 : wr.cell? ⟨w.heap.size + 1, 1, none⟩ = some (.int .i64 1) := HB2.out.cell 1
        by_cases h : x = 3
        · have HY := Lib.hid (show reasonK x = 1 by rw [← HX.out, h]; rfl)
          subst h
          go_wp2_with fail
          go_ret
          exact ⟨by rw [HY.out]; rfl, hB⟩
        · have HN : Hid (lookK (tabK.drop 2) x = reasonK x) := Lib.hid (by
            rw [← HX.out]
            show _ = if x = 3 then _ else _
            rw [if_neg h]
            rfl)
          have hne : ((3 : Int) == x) = false := by simpa using fun e => h e.symm
          go_wp2_with fail
          go_roundw
          case rel => exact ⟨2, by omega, rfl, HB1, HB2, HN, hB⟩
          case measure => simp [intOf]
      · have c1 : wr.cell? ⟨w.heap.size, 2, none⟩ = some (.int .i64 6) := HB1.out.cell 2
        have c2 : wr.cell? ⟨w.heap.size + 1, 2, none⟩ = some (.int .i64 3) := HB2.out.cell 2
        by_cases h : x = 6
        · have HY := Lib.hid (show reasonK x = 3 by rw [← HX.out, h]; rfl)
          subst h
          go_wp2_with fail
          go_ret
          exact ⟨by rw [HY.out]; rfl, hB⟩
        · have HN : Hid (lookK (tabK.drop 3) x = reasonK x) := Lib.hid (by
            rw [← HX.out]
            show _ = if x = 6 then _ else _
            rw [if_neg h]
            rfl)
          have hne : ((6 : Int) == x) = false := by simpa using fun e => h e.symm
          go_wp2_with fail
          go_roundw
          case rel => exact ⟨3, by omega, rfl, HB1, HB2, HN, hB⟩
          case measure => simp [intOf]
      · have c1 : wr.cell? ⟨w.heap.size, 3, none⟩ = some (.int .i64 7) := HB1.out.cell 3
        have c2 : wr.cell? ⟨w.heap.size + 1, 3, none⟩ = some (.int .i64 4) := HB2.out.cell 3
        by_cases h : x = 7
        · have HY := Lib.hid (show reasonK x = 4 by rw [← HX.out, h]; rfl)
          subst h
          go_wp2_with fail
          go_ret
          exact ⟨by rw [HY.out]; rfl, hB⟩
        · have HN : Hid (lookK (tabK.drop 4) x = reasonK x) := Lib.hid (by
            rw [← HX.out]
            show _ = if x = 7 then _ else _
            rw [if_neg h]
            rfl)
          have hne : ((7 : Int) == x) = false := by simpa using fun e => h e.symm
          go_wp2_with fail
          go_roundw
          case rel => exact ⟨4, by omega, rfl, HB1, HB2, HN, hB⟩
          case measure => simp [intOf]
      · have c1 : wr.cell? ⟨w.heap.size, 4, none⟩ = some (.int .i64 4) := HB1.out.cell 4
        have c2 : wr.cell? ⟨w.heap.size + 1, 4, none⟩ = some (.int .i64 10) := HB2.out.cell 4
        by_cases h : x = 4
        · have HY := Lib.hid (show reasonK x = 10 by rw [← HX.out, h]; rfl)
          subst h
          go_wp2_with fail
          go_ret
          exact ⟨by rw [HY.out]; rfl, hB⟩
        · have HN : Hid (lookK (tabK.drop 5) x = reasonK x) := Lib.hid (by
            rw [← HX.out]
            show _ = if x = 4 then _ else _
            rw [if_neg h]
            rfl)
          have hne : ((4 : Int) == x) = false := by simpa using fun e => h e.symm
          go_wp2_with fail
          go_roundw
          case rel => exact ⟨5, by omega, rfl, HB1, HB2, HN, hB⟩
          case measure => simp [intOf]
      · have c1 : wr.cell? ⟨w.heap.size, 5, none⟩ = some (.int .i64 13) := HB1.out.cell 5
        have c2 : wr.cell? ⟨w.heap.size + 1, 5, none⟩ = some (.int .i64 9) := HB2.out.cell 5
        by_cases h : x = 13
        · have HY := Lib.hid (show reasonK x = 9 by rw [← HX.out, h]; rfl)
          subst h
          go_wp2_with fail
          go_ret
          exact ⟨by rw [HY.out]; rfl, hB⟩
        · have HN : Hid (lookK (tabK.drop 6) x = reasonK x) := Lib.hid (by
            rw [← HX.out]
            show _ = if x = 13 then _ else _
            rw [if_neg h]
            rfl)
          have hne : ((13 : Int) == x) = false := by simpa using fun e => h e.symm
          go_wp2_with fail
          go_roundw
          case rel => exact ⟨6, by omega, rfl, HB1, HB2, HN, hB⟩
          case measure => simp [intOf]
    · obtain rfl : k = 6 := by omega
      go_wp2_with fail
      go_ret
      exact ⟨by rw [← HX.out]; rfl, hB⟩
end Go.Proofs.YtdpbhhoabnmbpaaGreat
