/- Stage 19: the document's at, Moved and Turned. Conditions: at most 1000 slots, hashes. -/
import Derived.Test.YtjmpcmgnbamniaaShA
import Derived.Test.YtjmpcmgnbamniaaPiB
import Derived.Test.YtjmpcmgnbamniaaU64
set_option maxRecDepth 100000
namespace Go.Proofs.Ytjmpcmgnbamniaa
open Go.RowKit
set_option linter.unusedVariables false

def atS (t : List Int) (i : Nat) : Int := if i < t.length then t.getD i 0 else 0
theorem rats_any (A : Option Addr) (n c : Nat) (t : List Int) (i : Nat) (w : World) (hn : n ≤ 1000) (hi : i ≤ 1000) (hb : Ns w w.heap.size A n t) :
    Calls Try.prog 19 #[.slice A n c, .int .i64 i] w fun e w' => e = .returned (.int .i64 (atS t i)) ∧ w' = w := by
  have HL := Lib.hid hb.len
  by_cases hlt : i < n
  · obtain ⟨b, o, rfl, _, hc⟩ := hb.at_ hlt
    have c0 := hc i hlt
    have hlt2 : (i : Int) < n := by omega
    have HE := Lib.hid (show atS t i = t.getD i 0 by unfold atS; rw [if_pos (by rw [HL.out]; exact hlt)])
    generalize t.getD i 0 = x at *
    clear hc
    go_enter Try.func19, Try.ntmps19
    go_wp2_with fail
    go_ret
    exact ⟨by rw [HE.out]; rfl, rfl⟩
  · have hlt2 : ¬ (i : Int) < n := by omega
    have HE := Lib.hid (show atS t i = 0 by unfold atS; rw [if_neg (by rw [HL.out]; exact hlt)])
    go_enter Try.func19, Try.ntmps19
    go_wp2_with fail
    go_ret
    exact ⟨by rw [HE.out]; rfl, rfl⟩
theorem both_lenS (was is_ : List Int) (i : Nat) : (bothS (was.take i) (is_.take i)).length ≤ i := by
  have h := (bothS_sub1 (was.take i) (is_.take i)).length_le
  have h2 := List.length_take_le i was
  omega
set_option maxHeartbeats 3200000 in
theorem rmoved_any (A B : Option Addr) (n c k d : Nat) (was is_ : List Int) (w : World) (hn : n ≤ 1000) (hk : k ≤ 1000) (ha : Ns w w.heap.size A n was) (hb : Ns w w.heap.size B k is_) :
    Calls Try.prog 10 #[.slice A n c, .slice B k d] w fun e w' => e = .returned (.int .i64 (movedS was is_ : Nat)) ∧ Low w w' := by
  have HA := Lib.hid ha
  have HB := Lib.hid hb
  have HLA := Lib.hid ha.len
  have HLB := Lib.hid hb.len
  clear ha hb
  have HTK := Lib.hid (bothS_take was is_)
  have HLE := Lib.hid (both_lenS was is_)
  have HAL := Lib.hid (show ∀ i, n ≤ i → k ≤ i → bothS (was.take i) (is_.take i) = bothS was is_ from fun i h1 h2 => bothS_all was is_ i (by rw [HLA.out]; exact h1) (by rw [HLB.out]; exact h2))
  have HMV := Lib.hid (show movedS was is_ = max n k - (bothS was is_).length by unfold movedS; rw [HLA.out, HLB.out])
  generalize movedS was is_ = mv at *
  go_enter Try.func10, Try.ntmps10
  go_wp2_with fail
  go_loopw [5, 6] (fun v5 v6 wr => ∃ (i z : Nat), (i ≤ n ∨ i ≤ k) ∧ v6 = .int .i64 i ∧ v5 = .int .i64 z ∧ z ≤ i ∧ Hid (z + (bothS (was.take i) (is_.take i)).length = i) ∧ Hid (Ns wr w.heap.size A n was) ∧ Hid (Ns wr w.heap.size B k is_) ∧ Hid (Low w wr)) (fun _ v _ => n + k - (intOf v).toNat)
  case atStart => exact ⟨0, 0, by omega, rfl, rfl, by omega, Lib.hid (by simp [bothS]), HA, HB, Lib.hid (Low.refl _)⟩
  case round =>
    clear HA HB
    obtain ⟨i, z, hi, rfl, rfl, hz, HZ, HA, HB, hL⟩ := hrel
    have HTK2 := Lib.hid (HTK.out i)
    have HDW := Lib.hid (show ∀ q, Ns (wr.drewN q) w.heap.size A n was ∧ Ns (wr.drewN q) w.heap.size B k is_ ∧ Low w (wr.drewN q) from fun q => ⟨HA.out.drewN q, HB.out.drewN q, below_drewN hL.out q⟩)
    have hcs : (i < n ∧ i < k) ∨ (i < n ∧ ¬ i < k) ∨ (¬ i < n ∧ i < k) ∨ (¬ i < n ∧ ¬ i < k) := by omega
    rcases hcs with ⟨h1, h2⟩ | ⟨h1, h2⟩ | ⟨h1, h2⟩ | ⟨h1, h2⟩
    · obtain ⟨b1, o1, rfl, _, hc1⟩ := HA.out.at_ h1
      obtain ⟨b2, o2, rfl, _, hc2⟩ := HB.out.at_ h2
      have c1' := hc1 i h1
      have c2' := hc2 i h2
      have g1 : (i : Int) < n := by omega
      have g2 : (i : Int) < k := by omega
      have g3 : ¬ (n : Int) ≤ i := by omega
      have g4 : ¬ (k : Int) ≤ i := by omega
      by_cases e : was.getD i 0 = is_.getD i 0
      · have HZ2 := Lib.hid (show z + (bothS (was.take (i + 1)) (is_.take (i + 1))).length = i + 1 by
          rw [HTK2.out, if_pos ⟨by rw [HLA.out]; exact h1, by rw [HLB.out]; exact h2, e⟩, List.length_append]
          have := HZ.out
          simp only [List.length_singleton]
          omega)
        rw [e] at c1'
        generalize is_.getD i 0 = x at c1' c2'
        have hxx : (x != x) = false := by simp
        clear hc1 hc2 HTK2 HZ HA HB hL e
        go_wp2_with fail
        go_quiet (fail)
        go_wp2_with fail
        go_roundw
        case rel => exact ⟨i + 1, z, by omega, by go_num, rfl, by omega, HZ2, Lib.hid (HDW.out _).1, Lib.hid (HDW.out _).2.1, Lib.hid (HDW.out _).2.2⟩
        case measure => simp [intOf]; omega
      · have HZ2 := Lib.hid (show z + 1 + (bothS (was.take (i + 1)) (is_.take (i + 1))).length = i + 1 by
          rw [HTK2.out, if_neg (fun h => e h.2.2), List.append_nil]
          have := HZ.out
          omega)
        have hxy : (was.getD i 0 != is_.getD i 0) = true := by simpa using e
        generalize was.getD i 0 = x at c1' hxy
        generalize is_.getD i 0 = y at c2' hxy
        clear hc1 hc2 HTK2 HZ HA HB hL e
        go_wp2_with fail
        go_quiet (fail)
        go_wp2_with fail
        go_roundw
        case rel => exact ⟨i + 1, z + 1, by omega, by go_num, by go_num, by omega, HZ2, Lib.hid (HDW.out _).1, Lib.hid (HDW.out _).2.1, Lib.hid (HDW.out _).2.2⟩
        case measure => simp [intOf]; omega
    · have HZ2 := Lib.hid (show z + 1 + (bothS (was.take (i + 1)) (is_.take (i + 1))).length = i + 1 by
        rw [HTK2.out, if_neg (fun h => h2 (by rw [← HLB.out]; exact h.2.1)), List.append_nil]
        have := HZ.out
        omega)
      have g1 : (i : Int) < n := by omega
      have g3 : ¬ (n : Int) ≤ i := by omega
      have g4 : (k : Int) ≤ i := by omega
      have g5 : k ≤ i := by omega
      have g6 : ¬ n ≤ i := by omega
      have g7 : decide ((k : Int) ≤ i) = true := decide_eq_true g4
      have g8 : decide ((n : Int) ≤ i) = false := decide_eq_false g3
      clear HTK2 HZ HA HB hL
      go_wp2_with fail
      go_quiet (fail)
      go_wp2_with fail
      go_roundw
      case rel => exact ⟨i + 1, z + 1, by omega, by go_num, by go_num, by omega, HZ2, Lib.hid (HDW.out _).1, Lib.hid (HDW.out _).2.1, Lib.hid (HDW.out _).2.2⟩
      case measure => simp [intOf]; omega
    · have HZ2 := Lib.hid (show z + 1 + (bothS (was.take (i + 1)) (is_.take (i + 1))).length = i + 1 by
        rw [HTK2.out, if_neg (fun h => h1 (by rw [← HLA.out]; exact h.1)), List.append_nil]
        have := HZ.out
        omega)
      have g1 : ¬ (i : Int) < n := by omega
      have g2 : (i : Int) < k := by omega
      have g3 : (n : Int) ≤ i := by omega
      have g5 : n ≤ i := by omega
      have g7 : decide ((n : Int) ≤ i) = true := decide_eq_true g3
      clear HTK2 HZ HA HB hL
      go_wp2_with fail
      go_quiet (fail)
      go_wp2_with fail
      go_roundw
      case rel => exact ⟨i + 1, z + 1, by omega, by go_num, by go_num, by omega, HZ2, Lib.hid (HDW.out _).1, Lib.hid (HDW.out _).2.1, Lib.hid (HDW.out _).2.2⟩
      case measure => simp [intOf]; omega
    · have HE := Lib.hid (show mv = z by
        have h5 := HZ.out
        rw [HAL.out i (by omega) (by omega)] at h5
        rw [HMV.out]
        omega)
      have g1 : ¬ (i : Int) < n := by omega
      have g2 : ¬ (i : Int) < k := by omega
      go_wp2_with fail
      go_ret
      exact ⟨by rw [HE.out]; rfl, hL.out⟩
end Go.Proofs.Ytjmpcmgnbamniaa
