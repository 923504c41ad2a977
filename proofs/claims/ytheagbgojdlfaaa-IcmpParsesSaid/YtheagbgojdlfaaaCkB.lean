/- What cksum.Sum, and the document's own Sum, tell of any bytes. Condition: the slice is at most 2^47 bytes long (less 4096 for the document's). -/
import Derived.Test.YtheagbgojdlfaaaCkM
import Derived.Test.YtheagbgojdlfaaaVals
namespace Go.Proofs.Ytheagbgojdlfaaa
open Go.RowKit
set_option linter.unusedVariables false

set_option maxHeartbeats 800000 in
theorem cksum_any (A : Option Addr) (n c : Nat) (xs : List Int) (w : World) (hn : n ≤ 140737488355328) (hb : Bs w w.heap.size A n xs) :
    Calls Try.prog 47 #[.slice A n c] w fun e w' => e = .returned (.int .i64 (sumL xs)) ∧ Below w.heap.size w w' := by
  have HA := Lib.hid hb.all
  have HL := Lib.hid hb.len
  go_enter Try.func47, Try.ntmps47
  go_wp2
  go_loopw [3, 10] (fun s i wr => ∃ k : Nat, 2 * k ≤ n ∧ i = .int .i64 k ∧ s = .int .i64 (fold (tot (xs.take (2 * k)))) ∧ Below w.heap.size w wr) (fun _ i _ => n - (intOf i).toNat)
  case atStart => exact ⟨0, Nat.zero_le _, rfl, rfl, Below.refl _ _⟩
  case round =>
    obtain ⟨k, hk, rfl, rfl, hB⟩ := hrel
    by_cases hlt : 2 * k + 2 ≤ n
    · have HS := Lib.hid (sum_step HA.out k (by rw [HL.out]; exact hlt))
      have hlt' : (k : Int) < (n : Int) / 2 := by omega
      generalize fold (tot (xs.take (2 * k))) = s at *
      go_wp2_with fail
      refine (u16_yes A n c (2 * (k : Int)) (2 * k) xs wr hn (hb.below' hB hB.size) (by omega) (by omega)).mono ?_
      rintro e w1 ⟨rfl, j, rfl⟩
      go_wp2_with fail
      refine (ckjoin_any _ _ _).mono ?_
      rintro e w2 ⟨rfl, rfl⟩
      rw [HS.out]
      have hB2 := below_drewN hB j
      clear hB
      generalize wr.drewN j = w3 at *
      go_wp2
      go_roundw
      case rel => exact ⟨k + 1, by omega, by go_num, rfl, hB2⟩
      case measure => simp [intOf]; omega
    · have hge : ¬ (k : Int) < (n : Int) / 2 := by omega
      by_cases ho : n = 2 * k
      · have HS := Lib.hid (sum_even (xs := xs) k (by rw [HL.out]; omega))
        rw [HS.out]
        have hr : (n : Int) % 2 = 0 := by omega
        go_wp2
        go_ret
        exact ⟨rfl, hB⟩
      · have ho' : 2 * k + 1 = n := by omega
        have HS := Lib.hid (sum_odd HA.out k (by rw [HL.out]; exact ho'))
        have hr : (n : Int) % 2 = 1 := by omega
        obtain ⟨b, o, rfl, hbw, hc⟩ := hb.mem (by omega)
        have h0 := hc (2 * k) (by omega)
        rw [← hB.cell (p := ⟨b, o + 2 * k, none⟩) hbw] at h0
        have r0 := hb.nonneg (2 * k)
        clear hc ho hlt
        subst ho'
        generalize fold (tot (xs.take (2 * k))) = s at *
        generalize xs.getD (2 * k) 0 = x at *
        go_wp2_with fail
        refine (ckjoin_any _ _ _).mono ?_
        rintro e w2 ⟨rfl, rfl⟩
        go_wp2
        go_ret
        exact ⟨ret_i HS.out, hB⟩

set_option maxHeartbeats 800000 in
theorem rsum_even (A : Option Addr) (n c : Nat) (xs : List Int) (w : World) (hn : n ≤ 140737488351232) (hb : Bs w w.heap.size A n xs) (he : n % 2 = 0) :
    Calls Try.prog 41 #[.slice A n c] w fun e w' => e = .returned (.int .i64 (sumL xs)) ∧ Below w.heap.size w w' := by
  have HA := Lib.hid hb.all
  have HL := Lib.hid hb.len
  have hr : (n : Int) % 2 = 0 := by omega
  go_enter Try.func41, Try.ntmps41
  go_wp2
  clear hr
  go_loopw [3, 4] (fun s i wr => ∃ k : Nat, 2 * k ≤ n ∧ i = .int .i64 (2 * k : Int) ∧ s = .int .i64 (fold (tot (xs.take (2 * k)))) ∧ Below w.heap.size w wr) (fun _ i _ => n - (intOf i).toNat)
  case atStart => exact ⟨0, Nat.zero_le _, rfl, rfl, Below.refl _ _⟩
  case round =>
    obtain ⟨k, hk, rfl, rfl, hB⟩ := hrel
    by_cases hlt : 2 * k + 2 ≤ n
    · have HS := Lib.hid (sum_step HA.out k (by rw [HL.out]; exact hlt))
      have hlt' : 2 * (k : Int) < (n : Int) := by omega
      generalize fold (tot (xs.take (2 * k))) = s at *
      go_wp2_with fail
      refine (r16_yes A n c (2 * (k : Int)) (2 * k) xs wr (by omega) (hb.below' hB hB.size) (by omega) (by omega)).mono ?_
      rintro e w1 ⟨rfl, j, rfl⟩
      go_wp2_with fail
      refine (rjoin_any _ _ _).mono ?_
      rintro e w2 ⟨rfl, rfl⟩
      rw [HS.out]
      have hB2 := below_drewN hB j
      clear hB
      generalize wr.drewN j = w3 at *
      go_wp2
      go_roundw
      case rel => exact ⟨k + 1, by omega, by congr 1, rfl, hB2⟩
      case measure => simp [intOf]; omega
    · have hge : ¬ 2 * (k : Int) < (n : Int) := by omega
      have HS := Lib.hid (sum_even (xs := xs) k (by rw [HL.out]; omega))
      rw [HS.out]
      go_wp2
      go_ret
      exact ⟨rfl, hB⟩

set_option maxHeartbeats 800000 in
theorem rsum_odd (A : Option Addr) (n c : Nat) (xs : List Int) (w : World) (hn : n ≤ 140737488351232) (hb : Bs w w.heap.size A n xs) (he : n % 2 = 1) :
    Calls Try.prog 41 #[.slice A n c] w fun e w' => e = .returned (.int .i64 (sumL xs)) ∧ Below w.heap.size w w' := by
  obtain ⟨i0, hi, hz0, hz1, hz2⟩ := info_parts info5
  have HI := Lib.hid hi
  have HZ0 := Lib.hid hz0
  have HZ1 := Lib.hid hz1
  have HZ2 := Lib.hid hz2
  clear hi hz0 hz1 hz2
  have HX := Lib.hid (sumL_last0 (xs := xs) (by rw [hb.len]; exact he))
  have hr : (n : Int) % 2 = 1 := by omega
  rw [← HX.out]
  have hB0 : Below w.heap.size w (w.alloc (.cells #[] 5)) := (Below.refl _ _).alloc (Nat.le_refl _) _
  have hO := OwnB.fresh (base := w.heap.size) w 5 (Nat.le_refl _)
  have hs1 := hb.below hB0
  go_enter Try.func41, Try.ntmps41
  go_wp2_with (first
    | (at_builtin; refine wpList_append_bs rfl (.tmp 11) (.tmp 12) _ rfl w.heap.size 5 i0 Try.underlying27 HI.out HZ0.out HZ1.out HZ2.out _ 0 0 [] rfl hO _ _ _ w.heap.size xs rfl hs1 (by omega) hB0.size ?_; intro A1 c1 w1 hO1 hg1 hb1
       rw [Nat.zero_add, List.nil_append] at hO1
       have hB1 : Below w.heap.size w w1 := hB0.grown hg1 hB0.size (fun k hk => (hO.lt k hk).1)
       have hB2 := hB1.alloc hB1.size (.cells #[.int .u8 0] 5)
       have hO2 := hO1.below (Below.alloc (Below.refl _ _) (Nat.le_refl _) (.cells #[.int .u8 0] 5))
       have hk2 : Blk (w1.alloc (.cells #[.int .u8 0] 5)) 5 w1.heap.size [0] := Blk.new w1 5 [0]
       have hs2 := hk2.bs (B := w1.heap.size + 1) (.cons (by omega) (by omega) .nil) (by omega) rfl)
    | (at_builtin; refine wpList_append_bs rfl (.tmp 13) (.tmp 14) _ rfl w.heap.size 5 i0 Try.underlying27 HI.out HZ0.out HZ1.out HZ2.out _ n c1 xs rfl hO2 _ _ _ _ [0] rfl hs2 (by omega) hB2.size ?_; intro A3 c3 w3 hO3 hg3 hb3
       have hB3 : Below w.heap.size w w3 := hB2.grown hg3 hB2.size (fun k hk => (hO2.lt k hk).1)))
  have hb3 := hO3.bs (B := w3.heap.size) (Nat.le_refl _)
  have HA := Lib.hid hb3.all
  have HL := Lib.hid hb3.len
  clear hr HX hO3 hg3 hO2 hO1 hg1 hb1 hB1 hB2 hs2 hk2 hs1 hO hB0 hb
  obtain ⟨ys, hys⟩ : ∃ ys, ys = xs ++ [0] := ⟨_, rfl⟩
  rw [← hys] at HA HL hb3
  have HY := Lib.hid (congrArg sumL hys)
  clear hys
  go_loopw [3, 4] (fun s i wr => ∃ k : Nat, 2 * k ≤ n + 1 ∧ i = .int .i64 (2 * k : Int) ∧ s = .int .i64 (fold (tot (ys.take (2 * k)))) ∧ Below w3.heap.size w3 wr) (fun _ i _ => n + 1 - (intOf i).toNat)
  case atStart => exact ⟨0, Nat.zero_le _, rfl, rfl, Below.refl _ _⟩
  case round =>
    obtain ⟨k, hk, rfl, rfl, hB⟩ := hrel
    by_cases hlt : 2 * k + 2 ≤ n + 1
    · have HS := Lib.hid (sum_step HA.out k (by rw [HL.out]; exact hlt))
      have hlt' : 2 * (k : Int) < (n : Int) + 1 := by omega
      generalize fold (tot (ys.take (2 * k))) = s at *
      go_wp2_with fail
      refine (r16_yes A3 (n + 1) c3 (2 * (k : Int)) (2 * k) ys wr (by omega) (hb3.below' hB hB.size) (by omega) (by omega)).mono ?_
      rintro e w4 ⟨rfl, j, rfl⟩
      go_wp2_with fail
      refine (rjoin_any _ _ _).mono ?_
      rintro e w5 ⟨rfl, rfl⟩
      rw [HS.out]
      have hB4 := below_drewN hB j
      clear hB
      generalize wr.drewN j = w6 at *
      go_wp2
      go_roundw
      case rel => exact ⟨k + 1, by omega, by congr 1, rfl, hB4⟩
      case measure => simp [intOf]; omega
    · have hge : ¬ 2 * (k : Int) < (n : Int) + 1 := by omega
      have HS := Lib.hid (sum_even (xs := ys) k (by rw [HL.out]; omega))
      rw [HS.out]
      go_wp2
      go_ret
      exact ⟨ret_i HY.out, hB3.trans (hB.mono hB3.size)⟩

theorem rsum_any (A : Option Addr) (n c : Nat) (xs : List Int) (w : World) (hn : n ≤ 140737488351232) (hb : Bs w w.heap.size A n xs) :
    Calls Try.prog 41 #[.slice A n c] w fun e w' => e = .returned (.int .i64 (sumL xs)) ∧ Below w.heap.size w w' := by
  by_cases h : n % 2 = 0
  · exact rsum_even A n c xs w hn hb h
  · exact rsum_odd A n c xs w hn hb (by omega)
end Go.Proofs.Ytheagbgojdlfaaa
