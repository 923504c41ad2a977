/- What the functions that stand in tcp.parts do: each reads one number of the bytes into the segment. Condition: at least 20 bytes, at most 2^47. -/
import Derived.Test.YtkbgfddicpnbmaaTcI
namespace Go.Proofs.Ytkbgfddicpnbmaa
open Go.RowKit
set_option linter.unusedVariables false

theorem results_nil {P : Program} {fn : Func} (h : fn.results = #[]) (tmps : Array Value) (w : World) : (results fn tmps).run P w = .ok (.tuple #[]) w := by
  simp [results, h]
section
variable (A : Option Addr) (n c g : Nat) (xs : List Int) (t : Sg) (w : World) (hn : n ≤ 140737488355328) (h20 : 20 ≤ n) (hb : Bs w g A n xs) (hk : BlkS w g t)
include hn h20 hb hk

set_option maxHeartbeats 400000 in
theorem part1_any : Calls Try.prog 56 #[.pointer (some ⟨g, 0, none⟩), .slice A n c, .int .i64 0] w fun e w' => e = .returned (.tuple #[]) ∧ BlkS w' g { t with sp := num2 xs 0 } ∧ Below g w w' ∧ ∀ i : Nat, i ≠ g → w'.heap[i]? = w.heap[i]? := by
  have HK := Lib.hid hk
  have hlt := hk.lt
  have HB := Lib.hid (hb.more (Nat.le_of_lt hlt))
  clear hb hk
  go_enter Try.func56, Try.ntmps56
  go_wp2_with fail
  refine (u16_yes A n c 0 0 xs w hn HB.out rfl (by omega)).mono ?_
  rintro e w1 ⟨rfl, k, rfl⟩
  have HK1 : Hid (BlkS (w.drewN k) g t) := HK
  have hB : Below g w (w.drewN k) := below_drewN (Below.refl _ _) k
  have hz : ∀ i : Nat, (w.drewN k).heap[i]? = w.heap[i]? := fun _ => rfl
  generalize w.drewN k = w1 at *
  clear HK HB
  have f0 := HK1.out.frozen 0
  have c0 := (BlkS.cells HK1.out).1
  obtain ⟨y, hy⟩ : ∃ y, y = num2 xs 0 := ⟨_, rfl⟩
  rw [← hy]
  have HY := Lib.hid hy
  clear hy
  go_wp2_with fail
  refine bodyPost_end (results_nil Try.results56 _ _) rfl ⟨rfl, ?_, hB.setCell (Nat.le_refl _) _, fun i hi => (Below.heap_setCell _ _ _ i hi).trans (hz i)⟩
  rw [← HY.out]
  exact HK1.out.set_ 0 (.int .i64 y)

set_option maxHeartbeats 400000 in
theorem part2_any : Calls Try.prog 58 #[.pointer (some ⟨g, 0, none⟩), .slice A n c, .int .i64 2] w fun e w' => e = .returned (.tuple #[]) ∧ BlkS w' g { t with dp := num2 xs 2 } ∧ Below g w w' ∧ ∀ i : Nat, i ≠ g → w'.heap[i]? = w.heap[i]? := by
  have HK := Lib.hid hk
  have hlt := hk.lt
  have HB := Lib.hid (hb.more (Nat.le_of_lt hlt))
  clear hb hk
  go_enter Try.func58, Try.ntmps58
  go_wp2_with fail
  refine (u16_yes A n c 2 2 xs w hn HB.out rfl (by omega)).mono ?_
  rintro e w1 ⟨rfl, k, rfl⟩
  have HK1 : Hid (BlkS (w.drewN k) g t) := HK
  have hB : Below g w (w.drewN k) := below_drewN (Below.refl _ _) k
  have hz : ∀ i : Nat, (w.drewN k).heap[i]? = w.heap[i]? := fun _ => rfl
  generalize w.drewN k = w1 at *
  clear HK HB
  have f0 := HK1.out.frozen 1
  have c0 := (BlkS.cells HK1.out).2.1
  obtain ⟨y, hy⟩ : ∃ y, y = num2 xs 2 := ⟨_, rfl⟩
  rw [← hy]
  have HY := Lib.hid hy
  clear hy
  go_wp2_with fail
  refine bodyPost_end (results_nil Try.results58 _ _) rfl ⟨rfl, ?_, hB.setCell (Nat.le_refl _) _, fun i hi => (Below.heap_setCell _ _ _ i hi).trans (hz i)⟩
  rw [← HY.out]
  exact HK1.out.set_ 1 (.int .i64 y)

set_option maxHeartbeats 400000 in
theorem part3_any : Calls Try.prog 59 #[.pointer (some ⟨g, 0, none⟩), .slice A n c, .int .i64 4] w fun e w' => e = .returned (.tuple #[]) ∧ BlkS w' g { t with sq := num4 xs 4 } ∧ Below g w w' ∧ ∀ i : Nat, i ≠ g → w'.heap[i]? = w.heap[i]? := by
  have HK := Lib.hid hk
  have hlt := hk.lt
  have HB := Lib.hid (hb.more (Nat.le_of_lt hlt))
  clear hb hk
  go_enter Try.func59, Try.ntmps59
  go_wp2_with fail
  refine (u32_yes A n c 4 4 xs w hn HB.out rfl (by omega)).mono ?_
  rintro e w1 ⟨rfl, k, rfl⟩
  have HK1 : Hid (BlkS (w.drewN k) g t) := HK
  have hB : Below g w (w.drewN k) := below_drewN (Below.refl _ _) k
  have hz : ∀ i : Nat, (w.drewN k).heap[i]? = w.heap[i]? := fun _ => rfl
  generalize w.drewN k = w1 at *
  clear HK HB
  have f0 := HK1.out.frozen 2
  have c0 := (BlkS.cells HK1.out).2.2.1
  obtain ⟨y, hy⟩ : ∃ y, y = num4 xs 4 := ⟨_, rfl⟩
  rw [← hy]
  have HY := Lib.hid hy
  clear hy
  go_wp2_with fail
  refine bodyPost_end (results_nil Try.results59 _ _) rfl ⟨rfl, ?_, hB.setCell (Nat.le_refl _) _, fun i hi => (Below.heap_setCell _ _ _ i hi).trans (hz i)⟩
  rw [← HY.out]
  exact HK1.out.set_ 2 (.int .u32 y)

set_option maxHeartbeats 400000 in
theorem part4_any : Calls Try.prog 61 #[.pointer (some ⟨g, 0, none⟩), .slice A n c, .int .i64 8] w fun e w' => e = .returned (.tuple #[]) ∧ BlkS w' g { t with ak := num4 xs 8 } ∧ Below g w w' ∧ ∀ i : Nat, i ≠ g → w'.heap[i]? = w.heap[i]? := by
  have HK := Lib.hid hk
  have hlt := hk.lt
  have HB := Lib.hid (hb.more (Nat.le_of_lt hlt))
  clear hb hk
  go_enter Try.func61, Try.ntmps61
  go_wp2_with fail
  refine (u32_yes A n c 8 8 xs w hn HB.out rfl (by omega)).mono ?_
  rintro e w1 ⟨rfl, k, rfl⟩
  have HK1 : Hid (BlkS (w.drewN k) g t) := HK
  have hB : Below g w (w.drewN k) := below_drewN (Below.refl _ _) k
  have hz : ∀ i : Nat, (w.drewN k).heap[i]? = w.heap[i]? := fun _ => rfl
  generalize w.drewN k = w1 at *
  clear HK HB
  have f0 := HK1.out.frozen 3
  have c0 := (BlkS.cells HK1.out).2.2.2.1
  obtain ⟨y, hy⟩ : ∃ y, y = num4 xs 8 := ⟨_, rfl⟩
  rw [← hy]
  have HY := Lib.hid hy
  clear hy
  go_wp2_with fail
  refine bodyPost_end (results_nil Try.results61 _ _) rfl ⟨rfl, ?_, hB.setCell (Nat.le_refl _) _, fun i hi => (Below.heap_setCell _ _ _ i hi).trans (hz i)⟩
  rw [← HY.out]
  exact HK1.out.set_ 3 (.int .u32 y)

set_option maxHeartbeats 400000 in
theorem part5_any : Calls Try.prog 62 #[.pointer (some ⟨g, 0, none⟩), .slice A n c, .int .i64 13] w fun e w' => e = .returned (.tuple #[]) ∧ BlkS w' g { t with fl := xs.getD 13 0 } ∧ Below g w w' ∧ ∀ i : Nat, i ≠ g → w'.heap[i]? = w.heap[i]? := by
  have HK := Lib.hid hk
  have hlt := hk.lt
  obtain ⟨b, o, rfl, hbl, hc⟩ := hb.mem (by omega)
  have c13 := hc 13 (by omega)
  have hr := hb.nonneg 13
  have n13 : (13 : Int) < n := by omega
  obtain ⟨y, hy⟩ : ∃ y, y = xs.getD 13 0 := ⟨_, rfl⟩
  rw [← hy] at c13 hr
  have HY := Lib.hid hy
  clear hy hb hk hc
  have f0 := HK.out.frozen 4
  have c0 := (BlkS.cells HK.out).2.2.2.2.1
  go_enter Try.func62, Try.ntmps62
  go_wp2_with fail
  refine bodyPost_end (results_nil Try.results62 _ _) rfl ⟨rfl, ?_, (Below.refl g w).setCell (Nat.le_refl _) _, fun i hi => Below.heap_setCell _ _ _ i hi⟩
  rw [← HY.out]
  exact HK.out.set_ 4 (.int .i64 y)

set_option maxHeartbeats 400000 in
theorem part6_any : Calls Try.prog 63 #[.pointer (some ⟨g, 0, none⟩), .slice A n c, .int .i64 14] w fun e w' => e = .returned (.tuple #[]) ∧ BlkS w' g { t with wi := num2 xs 14 } ∧ Below g w w' ∧ ∀ i : Nat, i ≠ g → w'.heap[i]? = w.heap[i]? := by
  have HK := Lib.hid hk
  have hlt := hk.lt
  have HB := Lib.hid (hb.more (Nat.le_of_lt hlt))
  clear hb hk
  go_enter Try.func63, Try.ntmps63
  go_wp2_with fail
  refine (u16_yes A n c 14 14 xs w hn HB.out rfl (by omega)).mono ?_
  rintro e w1 ⟨rfl, k, rfl⟩
  have HK1 : Hid (BlkS (w.drewN k) g t) := HK
  have hB : Below g w (w.drewN k) := below_drewN (Below.refl _ _) k
  have hz : ∀ i : Nat, (w.drewN k).heap[i]? = w.heap[i]? := fun _ => rfl
  generalize w.drewN k = w1 at *
  clear HK HB
  have f0 := HK1.out.frozen 5
  have c0 := (BlkS.cells HK1.out).2.2.2.2.2.1
  obtain ⟨y, hy⟩ : ∃ y, y = num2 xs 14 := ⟨_, rfl⟩
  rw [← hy]
  have HY := Lib.hid hy
  clear hy
  go_wp2_with fail
  refine bodyPost_end (results_nil Try.results63 _ _) rfl ⟨rfl, ?_, hB.setCell (Nat.le_refl _) _, fun i hi => (Below.heap_setCell _ _ _ i hi).trans (hz i)⟩
  rw [← HY.out]
  exact HK1.out.set_ 5 (.int .i64 y)

set_option maxHeartbeats 400000 in
theorem part7_any : Calls Try.prog 64 #[.pointer (some ⟨g, 0, none⟩), .slice A n c, .int .i64 16] w fun e w' => e = .returned (.tuple #[]) ∧ BlkS w' g { t with su := num2 xs 16 } ∧ Below g w w' ∧ ∀ i : Nat, i ≠ g → w'.heap[i]? = w.heap[i]? := by
  have HK := Lib.hid hk
  have hlt := hk.lt
  have HB := Lib.hid (hb.more (Nat.le_of_lt hlt))
  clear hb hk
  go_enter Try.func64, Try.ntmps64
  go_wp2_with fail
  refine (u16_yes A n c 16 16 xs w hn HB.out rfl (by omega)).mono ?_
  rintro e w1 ⟨rfl, k, rfl⟩
  have HK1 : Hid (BlkS (w.drewN k) g t) := HK
  have hB : Below g w (w.drewN k) := below_drewN (Below.refl _ _) k
  have hz : ∀ i : Nat, (w.drewN k).heap[i]? = w.heap[i]? := fun _ => rfl
  generalize w.drewN k = w1 at *
  clear HK HB
  have f0 := HK1.out.frozen 6
  have c0 := (BlkS.cells HK1.out).2.2.2.2.2.2.1
  obtain ⟨y, hy⟩ : ∃ y, y = num2 xs 16 := ⟨_, rfl⟩
  rw [← hy]
  have HY := Lib.hid hy
  clear hy
  go_wp2_with fail
  refine bodyPost_end (results_nil Try.results64 _ _) rfl ⟨rfl, ?_, hB.setCell (Nat.le_refl _) _, fun i hi => (Below.heap_setCell _ _ _ i hi).trans (hz i)⟩
  rw [← HY.out]
  exact HK1.out.set_ 6 (.int .i64 y)

set_option maxHeartbeats 400000 in
theorem part8_any : Calls Try.prog 65 #[.pointer (some ⟨g, 0, none⟩), .slice A n c, .int .i64 18] w fun e w' => e = .returned (.tuple #[]) ∧ BlkS w' g { t with ur := num2 xs 18 } ∧ Below g w w' ∧ ∀ i : Nat, i ≠ g → w'.heap[i]? = w.heap[i]? := by
  have HK := Lib.hid hk
  have hlt := hk.lt
  have HB := Lib.hid (hb.more (Nat.le_of_lt hlt))
  clear hb hk
  go_enter Try.func65, Try.ntmps65
  go_wp2_with fail
  refine (u16_yes A n c 18 18 xs w hn HB.out rfl (by omega)).mono ?_
  rintro e w1 ⟨rfl, k, rfl⟩
  have HK1 : Hid (BlkS (w.drewN k) g t) := HK
  have hB : Below g w (w.drewN k) := below_drewN (Below.refl _ _) k
  have hz : ∀ i : Nat, (w.drewN k).heap[i]? = w.heap[i]? := fun _ => rfl
  generalize w.drewN k = w1 at *
  clear HK HB
  have f0 := HK1.out.frozen 7
  have c0 := (BlkS.cells HK1.out).2.2.2.2.2.2.2.1
  obtain ⟨y, hy⟩ : ∃ y, y = num2 xs 18 := ⟨_, rfl⟩
  rw [← hy]
  have HY := Lib.hid hy
  clear hy
  go_wp2_with fail
  refine bodyPost_end (results_nil Try.results65 _ _) rfl ⟨rfl, ?_, hB.setCell (Nat.le_refl _) _, fun i hi => (Below.heap_setCell _ _ _ i hi).trans (hz i)⟩
  rw [← HY.out]
  exact HK1.out.set_ 7 (.int .i64 y)

end
end Go.Proofs.Ytkbgfddicpnbmaa
