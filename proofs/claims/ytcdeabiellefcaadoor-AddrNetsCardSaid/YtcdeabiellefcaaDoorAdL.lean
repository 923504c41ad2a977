/- What slices.Grow and slices.Concat tell, of ints that are eight in all. No other condition. -/
import Derived.Test.YtcdeabiellefcaaDoorAdK
import Derived.Test.YtcdeabiellefcaaDoorOctC
import Derived.Lib.AppendZerosOnto
import Derived.Lib.AppendZeros
namespace Go.Proofs.YtcdeabiellefcaaDoor
open Go.RowKit
set_option linter.unusedVariables false

theorem zc_size (z : Value) (hz : z.cells.size = 1) (k : Nat) : (Builtin.zeroCells z.cells k).size = k := by
  simp [Builtin.zeroCells, hz]

set_option maxHeartbeats 1600000 in
theorem grow8 (w : World) :
    Calls Tryd.prog 36 #[.slice none 0 0, .int .i64 8] w fun e w' => ∃ A c, e = .returned (.slice A 0 c) ∧ OwnN 3 w' w.heap.size A 0 c [] ∧ Below w.heap.size w w' := by
  obtain ⟨i0, hi, hz0, hz1, hz2⟩ := info_int_parts
  have hrz : ∀ ty, (Builtin.append_ #[24, 3] ty #[.slice none 0 0, .int .i64 8]).run Tryd.prog w =
      .ok (.slice (some ⟨w.heap.size, 0, none⟩) 8 (grownCap w 8 0 3)) (w.drew.alloc (.cells (#[] ++ Builtin.zeroCells (Value.int .i64 0).cells 8 ++ Builtin.zeroCells (Value.int .i64 0).cells (grownCap w 8 0 3 - 8)) 3)) := fun ty =>
    Lib.run_append_grow_zeros w 24 3 ty 3 i0 (.int .i64 0) .i64 .i64 Tryd.underlying24 Tryd.underlying3 hi hz0 none 0 0 [] (by rw [hz1]; exact run_firstCells_none w.drew 1 0 0 0) 8 (by omega) (by omega) (by omega) (by omega) (by rw [hz2]; omega)
      (growslice_fits (by omega) (by rw [hz2]; omega))
  have hge := grownCap_ge w 8 0 3
  have hle := grownCap_le_maxLen w 8 0 3 (by unfold maxLen; omega)
  generalize grownCap w 8 0 3 = G at *
  have hle2 : G ≤ 9223372036854775807 := by unfold maxLen at hle; omega
  have HO := Lib.hid (show OwnN 3 (w.drew.alloc (.cells (#[] ++ Builtin.zeroCells (Value.int .i64 0).cells 8 ++ Builtin.zeroCells (Value.int .i64 0).cells (G - 8)) 3)) w.heap.size (some ⟨w.heap.size, 0, none⟩) 0 G [] from
    ⟨⟨rfl, .inr ⟨w.heap.size, G, _, rfl, Nat.le_refl _, heap_alloc_new w.drew _, Nat.zero_le _, hle, by
      simp only [Array.size_append, zc_size (Value.int .i64 0) rfl]; simp; omega, rfl⟩⟩, AllI.nil⟩)
  have HB := Lib.hid (show Below w.heap.size w (w.drew.alloc (.cells (#[] ++ Builtin.zeroCells (Value.int .i64 0).cells 8 ++ Builtin.zeroCells (Value.int .i64 0).cells (G - 8)) 3)) from
    ((Below.refl _ _).drew).alloc (Nat.le_refl _) _)
  clear hi hz0 hz1 hz2
  obtain ⟨w9, hw9⟩ : ∃ w9, w9 = w.drew.alloc (.cells (#[] ++ Builtin.zeroCells (Value.int .i64 0).cells 8 ++ Builtin.zeroCells (Value.int .i64 0).cells (G - 8)) 3) := ⟨_, rfl⟩
  rw [← hw9] at HO HB
  simp only [← hw9] at hrz
  clear hw9
  go_enter Tryd.func36, Tryd.ntmps36
  go_wp2_with (at_builtin; refine Lib.wpList_append_run _ rfl _ _ _ _ rfl _ _ rfl rfl _ _ (hrz _) ?_)
  go_ret
  exact ⟨_, _, rfl, HO.out, HB.out⟩

/-- lists of ints: the slices, and what each holds -/
structure RowN (w : World) (A : Option Addr) (vs : List (Option Addr × Nat × Nat)) (yss : List (List Int)) : Prop where
  len : yss.length = vs.length
  each : ∀ i, i < vs.length → Ns w w.heap.size (vs.getD i (none, 0, 0)).1 (vs.getD i (none, 0, 0)).2.1 (yss.getD i [])
  mem : 0 < vs.length → ∃ b o, A = some ⟨b, o, none⟩ ∧ b < w.heap.size ∧ ∀ i, i < vs.length → w.cell? ⟨b, o + i, none⟩ = some (.slice (vs.getD i (none, 0, 0)).1 (vs.getD i (none, 0, 0)).2.1 (vs.getD i (none, 0, 0)).2.2)

def CcRel (w : World) (B : Nat) (m : Nat) (yss : List (List Int)) (v i : Value) (wr : World) : Prop :=
  ∃ (k q : Nat) (A : Option Addr) (c : Nat), k ≤ m ∧ i = .int .i64 k ∧ v = .slice A q c ∧ q = (upto yss k).length ∧ OwnN 3 wr B A q c (upto yss k) ∧ Below w.heap.size w wr

set_option maxHeartbeats 1600000 in
theorem concat8 (A : Option Addr) (m c : Nat) (vs : List (Option Addr × Nat × Nat)) (yss : List (List Int)) (w : World) (hm : vs.length = m) (hm2 : m ≤ 8) (hr : RowN w A vs yss) (hN : yss.flatten.length = 8) :
    Calls Tryd.prog 28 #[.slice A m c] w fun e w' => ∃ A' c', e = .returned (.slice A' 8 c') ∧ Ns w' w'.heap.size A' 8 yss.flatten ∧ 8 ≤ c' ∧ c' ≤ maxLen ∧ Below w.heap.size w w' := by
  obtain ⟨i0, hi, hz0, hz1, hz2⟩ := info_int_parts
  have HI := Lib.hid hi
  have HZ0 := Lib.hid hz0
  have HZ1 := Lib.hid hz1
  have HZ2 := Lib.hid hz2
  have HN := Lib.hid hN
  have HM := Lib.hid hm
  clear hN hm hi hz0 hz1 hz2
  go_enter Tryd.func28, Tryd.ntmps28
  go_wp2
  go_loop [3, 11] (fun s i => ∃ k : Nat, k ≤ m ∧ i = .int .i64 k ∧ s = .int .i64 ((upto yss k).length : Nat)) (fun _ i => m - (intOf i).toNat)
  case atStart => exact ⟨0, Nat.zero_le _, rfl, rfl⟩
  case round =>
    obtain ⟨k, hk, rfl, rfl⟩ := hrel
    by_cases hlt : k < m
    · obtain ⟨b, o, rfl, _, hc⟩ := hr.mem (by rw [HM.out]; omega)
      obtain ⟨a, n, cc, hve⟩ : ∃ a n cc, vs.getD k (none, 0, 0) = (a, n, cc) := ⟨_, _, _, rfl⟩
      have h0 := hc k (by rw [HM.out]; omega)
      have hv := hr.each k (by rw [HM.out]; omega)
      rw [hve] at h0 hv
      dsimp only at h0 hv
      have hle : (upto yss (k + 1)).length = (upto yss k).length + n := by rw [upto_succ yss k (by rw [hr.len, HM.out]; omega), List.length_append, hv.len]
      have HL := Lib.hid hle
      have hb1 : (upto yss k).length + n ≤ 8 := by rw [← hle]; have := HN.out; have := upto_le yss (k + 1); omega
      clear hc hv hle hve
      have hng : ¬ ((upto yss k).length : Int) + n < 0 := by omega
      go_wp2
      go_round
      case rel => exact ⟨k + 1, by omega, by go_num, by rw [HL.out]; go_num⟩
      case measure => simp [intOf]; omega
    · obtain rfl : k = m := by omega
      have hal : (upto yss k).length = 8 := by rw [upto_all yss k (by rw [hr.len, HM.out]; omega)]; exact HN.out
      rw [hal]
      clear hal
      go_wp2_with fail
      refine (grow8 w).mono ?_
      rintro e w1 ⟨A1, c1, rfl, hO1, hL⟩
      go_wp2_with fail
      go_loopw [6, 27] (fun s i wr => CcRel w w.heap.size k yss s i wr) (fun _ i _ => k - (intOf i).toNat)
      case atStart => exact ⟨0, 0, A1, c1, Nat.zero_le _, rfl, rfl, rfl, hO1, hL⟩
      case round =>
        clear hO1 hL
        obtain ⟨j, q, A2, c2, hj, rfl, rfl, hq, hO, hB⟩ := hrel
        have HQ := Lib.hid hq
        clear hq
        by_cases hlt : j < k
        · obtain ⟨b, o, rfl, hbw, hc⟩ := hr.mem (by rw [HM.out]; omega)
          obtain ⟨a, n, cc, hve⟩ : ∃ a n cc, vs.getD j (none, 0, 0) = (a, n, cc) := ⟨_, _, _, rfl⟩
          have h0 := hc j (by rw [HM.out]; omega)
          have hv := hr.each j (by rw [HM.out]; omega)
          rw [hve] at h0 hv
          dsimp only at h0 hv
          have hv2 := hv.below hB
          rw [← hB.cell (p := ⟨b, o + j, none⟩) hbw] at h0
          have hle : (upto yss (j + 1)).length = (upto yss j).length + n := by rw [upto_succ yss j (by rw [hr.len, HM.out]; omega), List.length_append, hv.len]
          have HL := Lib.hid hle
          have HS := Lib.hid (upto_succ yss j (by rw [hr.len, HM.out]; omega))
          have hb1 : q + n ≤ 8 := by rw [HQ.out, ← hle]; have := HN.out; have := upto_le yss (j + 1); omega
          clear hc hv hle hve
          go_wp2_with (at_builtin; refine wpList_append_ns rfl (.tmp 31) (.tmp 32) _ rfl w.heap.size 3 i0 Tryd.underlying24 HI.out HZ0.out HZ1.out HZ2.out _ q c2 _ rfl hO _ n cc _ (yss.getD j []) rfl hv2 (by omega) hB.size ?_; intro A4 c4 w4 hO4 hg4 hb4)
          have hB4 : Below w.heap.size w w4 := hB.grown hg4 hB.size (fun k hk => (hO.lt k hk).1)
          rw [← HS.out] at hO4
          go_roundw
          case rel => exact ⟨j + 1, q + n, A4, c4, by omega, by go_num, rfl, by rw [HL.out, HQ.out], hO4, hB4⟩
          case measure => simp [intOf]; omega
        · obtain rfl : j = k := by omega
          have HA := Lib.hid (show upto yss j = yss.flatten from upto_all yss j (by rw [hr.len, HM.out]; omega))
          rw [HA.out] at hO HQ
          obtain rfl : q = 8 := HQ.out.trans HN.out
          have hcap := hO.cap
          go_wp2
          go_ret
          exact ⟨A2, c2, rfl, hO.bs (Nat.le_refl _), hcap.1, hcap.2, hB⟩
end Go.Proofs.YtcdeabiellefcaaDoor
