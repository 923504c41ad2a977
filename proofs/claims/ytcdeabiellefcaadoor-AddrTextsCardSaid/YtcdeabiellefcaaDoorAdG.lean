/- What addr.longestRow, and the document's own zeros, tell of eight numbers. No condition but that there are eight. -/
import Derived.Test.YtcdeabiellefcaaDoorAdF
namespace Go.Proofs.YtcdeabiellefcaaDoor
open Go.RowKit
set_option linter.unusedVariables false

/-- where the longest row begins, how long it is, and how long the one at hand is, behind k numbers; 'z i': is number i 0? -/
def lrN (z : Nat → Bool) : Nat → Nat × Nat × Nat
  | 0 => (0, 0, 0)
  | k + 1 => if z k then (if (lrN z k).2.1 < (lrN z k).2.2 + 1 then (k + 1 - ((lrN z k).2.2 + 1), (lrN z k).2.2 + 1, (lrN z k).2.2 + 1) else ((lrN z k).1, (lrN z k).2.1, (lrN z k).2.2 + 1)) else ((lrN z k).1, (lrN z k).2.1, 0)
theorem lrN_le (z : Nat → Bool) (k : Nat) : (lrN z k).1 ≤ k ∧ (lrN z k).2.1 ≤ k ∧ (lrN z k).2.2 ≤ k ∧ (lrN z k).1 + (lrN z k).2.1 ≤ k := by
  induction k with
  | zero => simp [lrN]
  | succ k ih =>
    unfold lrN
    split
    · split <;> (dsimp only; omega)
    · dsimp only; omega
theorem lr_grow {z : Nat → Bool} {k : Nat} (hz : z k = true) (h : (lrN z k).2.1 < (lrN z k).2.2 + 1) : lrN z (k + 1) = (k + 1 - ((lrN z k).2.2 + 1), (lrN z k).2.2 + 1, (lrN z k).2.2 + 1) := by rw [lrN, if_pos hz, if_pos h]
theorem lr_more {z : Nat → Bool} {k : Nat} (hz : z k = true) (h : ¬ (lrN z k).2.1 < (lrN z k).2.2 + 1) : lrN z (k + 1) = ((lrN z k).1, (lrN z k).2.1, (lrN z k).2.2 + 1) := by rw [lrN, if_pos hz, if_neg h]
theorem lr_none {z : Nat → Bool} {k : Nat} (hz : z k = false) : lrN z (k + 1) = ((lrN z k).1, (lrN z k).2.1, 0) := by rw [lrN, if_neg (by rw [hz]; decide)]
theorem index_words (ws : List Int) (k : Nat) (hs : ws.length = 8) (hk : k < 8) (u : World) :
    (Instr.index 27 (.agg (cellsN ws).toArray) (.int .i64 k)).run Tryd.prog u = .ok (.int .i64 (ws.getD k 0)) u := by
  obtain ⟨i, hi, hz⟩ := info_sized (show (Tryd.prog.info? 3).map (·.size) = some 1 by kernel_rfl)
  have hx : (cellsN ws)[k]? = some (.int .i64 (ws.getD k 0)) := cellsN_get (by rw [hs]; exact hk)
  have h2 : ¬ 8 ≤ k := by omega
  simp [Instr.index, run_underlying Tryd.underlying27, part, isAgg, run_underlying Tryd.underlying3, sizeOf, typeInfo, hi, hz, hx, h2, asIntOf]
def isZ (ws : List Int) (i : Nat) : Bool := ws.getD i 0 == 0

set_option maxHeartbeats 1600000 in
set_option maxRecDepth 100000 in
theorem longest_any (ws : List Int) (w : World) (hs : ws.length = 8) :
    Calls Tryd.prog 21 #[wordsV ws] w fun e w' => e = .returned (.tuple #[.int .i64 ((lrN (isZ ws) 8).1 : Nat), .int .i64 ((lrN (isZ ws) 8).2.1 : Nat)]) ∧ Below w.heap.size w w' := by
  unfold wordsV
  have HS := Lib.hid hs
  clear hs
  have HB0 := Lib.hid (BlkN.new w 27 ws)
  have hL := Low.alloc w (.cells (cellsN ws).toArray 27)
  go_enter Tryd.func21, Tryd.ntmps21
  go_wp2_with (with_reducible refine wpList_load_words rfl (.tmp 1) rfl w.heap.size rfl _ ws HB0.out HS.out ?_)
  clear HB0
  go_loop [2, 3, 4, 8] (fun a s r i => ∃ k : Nat, k ≤ 8 ∧ i = .int .i64 k ∧ a = .int .i64 ((lrN (isZ ws) k).1 : Nat) ∧ s = .int .i64 ((lrN (isZ ws) k).2.1 : Nat) ∧ r = .int .i64 ((lrN (isZ ws) k).2.2 : Nat)) (fun _ _ _ i => 8 - (intOf i).toNat)
  case atStart => exact ⟨0, Nat.zero_le _, rfl, rfl, rfl, rfl⟩
  case round =>
    obtain ⟨k, hk, rfl, rfl, rfl, rfl⟩ := hrel
    by_cases hlt : k < 8
    · have hle := lrN_le (isZ ws) k
      have HN1 := Lib.hid (lr_grow (z := isZ ws) (k := k))
      have HN2 := Lib.hid (lr_more (z := isZ ws) (k := k))
      have HN3 := Lib.hid (lr_none (z := isZ ws) (k := k))
      have HZ : Hid (isZ ws k = (ws.getD k 0 == 0)) := rfl
      have HIX := Lib.hid (index_words ws k HS.out hlt)
      generalize (lrN (isZ ws) k).1 = a at *
      generalize (lrN (isZ ws) k).2.1 = s at *
      generalize (lrN (isZ ws) k).2.2 = r at *
      generalize ws.getD k 0 = x at *
      have hix := HIX.out
      by_cases h0 : x = 0
      · have HZ1 := Lib.hid (HZ.out.trans (show (x == 0) = true by simpa using h0))
        subst h0
        by_cases h1 : s < r + 1
        · have HN := Lib.hid (HN1.out HZ1.out h1)
          clear HN1 HN2 HN3 HZ HZ1
          go_wp2
          go_round
          case rel => exact ⟨k + 1, by omega, by go_num, by rw [HN.out]; go_num, by rw [HN.out]; go_num, by rw [HN.out]; go_num⟩
          case measure => simp [intOf]; omega
        · have HN := Lib.hid (HN2.out HZ1.out h1)
          clear HN1 HN2 HN3 HZ HZ1
          go_wp2
          go_round
          case rel => exact ⟨k + 1, by omega, by go_num, by rw [HN.out], by rw [HN.out], by rw [HN.out]; go_num⟩
          case measure => simp [intOf]; omega
      · have HZ1 := Lib.hid (HZ.out.trans (show (x == 0) = false by simpa using h0))
        have HN := Lib.hid (HN3.out HZ1.out)
        clear HN1 HN2 HN3 HZ HZ1
        have h0' : (x == 0) = false := by simpa using h0
        have h0'' : (x != 0) = true := by simpa using h0
        go_wp2
        go_round
        case rel => exact ⟨k + 1, by omega, by go_num, by rw [HN.out], by rw [HN.out], by rw [HN.out]; rfl⟩
        case measure => simp [intOf]; omega
    · obtain rfl : k = 8 := by omega
      go_wp2
      go_ret2
      exact ⟨rfl, hL⟩

/-- how many numbers 0 stand from a place on -/
def zrF (z : Nat → Bool) : Nat → Nat → Nat
  | 0, _ => 0
  | f + 1, a => if z a then 1 + zrF z f (a + 1) else 0
def zrN (z : Nat → Bool) (a : Nat) : Nat := zrF z (8 - a) a
theorem zr_end (z : Nat → Bool) : zrN z 8 = 0 := rfl
theorem zr_more {z : Nat → Bool} {a : Nat} (ha : a < 8) (h : z a = true) : zrN z a = 1 + zrN z (a + 1) := by
  unfold zrN
  rw [show 8 - a = 8 - (a + 1) + 1 by omega, zrF, if_pos h]
theorem zr_none {z : Nat → Bool} {a : Nat} (ha : a < 8) (h : z a = false) : zrN z a = 0 := by
  unfold zrN
  rw [show 8 - a = 8 - (a + 1) + 1 by omega, zrF, if_neg (by rw [h]; decide)]
theorem zrN_le (z : Nat → Bool) (a : Nat) : zrN z a ≤ 8 - a := by
  unfold zrN
  generalize 8 - a = f
  induction f generalizing a with
  | zero => simp [zrF]
  | succ f ih =>
    rw [zrF]
    split
    · have := ih (a + 1); omega
    · omega

set_option maxHeartbeats 1600000 in
set_option maxRecDepth 100000 in
theorem zrun_any (ws : List Int) (a : Nat) (w : World) (hs : ws.length = 8) (ha : a ≤ 8) :
    Calls Tryd.prog 23 #[wordsV ws, .int .i64 a] w fun e w' => e = .returned (.int .i64 (zrN (isZ ws) a : Nat)) ∧ Below w.heap.size w w' := by
  unfold wordsV
  have HS := Lib.hid hs
  clear hs
  have HB0 := Lib.hid (BlkN.new w 27 ws)
  have hL := Low.alloc w (.cells (cellsN ws).toArray 27)
  go_enter Tryd.func23, Tryd.ntmps23
  go_wp2_with fail
  go_loop [5] (fun i => ∃ k : Nat, a + k ≤ 8 ∧ i = .int .i64 k ∧ Hid (zrN (isZ ws) a = k + zrN (isZ ws) (a + k))) (fun i => 8 - (intOf i).toNat)
  case atStart => exact ⟨0, ha, rfl, Lib.hid (by simp)⟩
  case round =>
    obtain ⟨k, hk, rfl, HE⟩ := hrel
    by_cases hlt : a + k < 8
    · have hlt' : (a : Int) + k < 8 := by omega
      have h0 := HB0.out.cell (a + k)
      rw [cellsN_get (by rw [HS.out]; omega)] at h0
      have HM := Lib.hid (zr_more (z := isZ ws) hlt)
      have HN := Lib.hid (zr_none (z := isZ ws) hlt)
      have HZ : Hid (isZ ws (a + k) = (ws.getD (a + k) 0 == 0)) := rfl
      generalize ws.getD (a + k) 0 = x at *
      by_cases hx : x = 0
      · have HE2 := Lib.hid (show zrN (isZ ws) a = (k + 1) + zrN (isZ ws) (a + (k + 1)) by rw [HE.out, HM.out (HZ.out.trans (by simpa using hx)), ← Nat.add_assoc a]; omega)
        clear HE HM HN HZ
        subst hx
        go_wp2
        go_round
        case rel => exact ⟨k + 1, by omega, by go_num, HE2⟩
        case measure => simp [intOf]; omega
      · have HE2 := Lib.hid (show zrN (isZ ws) a = k by rw [HE.out, HN.out (HZ.out.trans (by simpa using hx))]; omega)
        clear HE HM HN HZ
        have h0' : (x == 0) = false := by simpa using hx
        go_wp2
        go_ret
        exact ⟨ret_i (by rw [HE2.out]), hL⟩
    · have hge : ¬ (a : Int) + k < 8 := by omega
      have HE2 := Lib.hid (show zrN (isZ ws) a = k by rw [HE.out, show a + k = 8 by omega, zr_end]; omega)
      go_wp2
      go_ret
      exact ⟨ret_i (by rw [HE2.out]), hL⟩
end Go.Proofs.YtcdeabiellefcaaDoor
