/- What octets.Zeros, and the document's own Zeros, answer: whether each byte is 0. Condition: the slice is at most 2^47 bytes long. -/
import Derived.Test.YtkbgfddicpnbmaaOctA
namespace Go.Proofs.Ytkbgfddicpnbmaa
open Go.RowKit

def zerosB (xs : List Int) : Bool := xs.all fun x => x == 0
def ZeroTo (xs : List Int) (k : Nat) : Prop := ∀ j, j < k → xs.getD j 0 = 0
theorem ZeroTo.zero (xs : List Int) : ZeroTo xs 0 := fun j h => absurd h (by omega)
theorem ZeroTo.succ {xs : List Int} {k : Nat} (h : ZeroTo xs k) (e : xs.getD k 0 = 0) : ZeroTo xs (k + 1) := fun j hj => by
  rcases Nat.lt_or_ge j k with h1 | h1
  · exact h j h1
  · obtain rfl : j = k := by omega
    exact e
theorem zerosB_true {xs : List Int} (h : ZeroTo xs xs.length) : zerosB xs = true := by
  unfold zerosB
  rw [List.all_eq_true]
  intro x hx
  obtain ⟨i, hi, rfl⟩ := List.mem_iff_getElem.1 hx
  have := h i hi
  simp [List.getD, hi] at this
  simp [this]
theorem zerosB_false {xs : List Int} {k : Nat} (hk : k < xs.length) (h : xs.getD k 0 ≠ 0) : zerosB xs = false := by
  unfold zerosB
  rw [List.all_eq_false]
  refine ⟨xs[k], List.getElem_mem hk, ?_⟩
  have e : xs.getD k 0 = xs[k] := by simp [List.getD, hk]
  rw [e] at h
  simpa using h
theorem ret_bool {a b : Bool} (h : a = b) : Ending.returned (.bool a) = .returned (.bool b) := by rw [h]

set_option maxHeartbeats 400000 in
theorem zeros_any (A : Option Addr) (n c : Nat) (xs : List Int) (w : World) (hn : n ≤ 140737488355328) (hb : Bs w w.heap.size A n xs) :
    Calls Try.prog 54 #[.slice A n c] w fun e w' => e = .returned (.bool (zerosB xs)) ∧ w = w' := by
  go_enter Try.func54, Try.ntmps54
  go_wp2
  go_loop [7] (fun i => ∃ k : Nat, k ≤ n ∧ i = .int .i64 k ∧ ZeroTo xs k) (fun i => n - (intOf i).toNat)
  case atStart => exact ⟨0, Nat.zero_le _, rfl, ZeroTo.zero _⟩
  case round =>
    obtain ⟨k, hk, rfl, hz⟩ := hrel
    by_cases hlt : k < n
    · obtain ⟨b, o, rfl, _, hc⟩ := hb.mem (by omega)
      have h0 := hc k hlt
      clear hc
      by_cases he : xs.getD k 0 = 0
      · have hz1 := hz.succ he
        rw [he] at h0
        clear he
        go_wp2
        go_round
        case rel => exact ⟨k + 1, by omega, by go_num, hz1⟩
        case measure => simp [intOf]; omega
      · have hf := Lib.hid (zerosB_false (by rw [hb.len]; exact hlt) he)
        have he' : (xs.getD k 0 != 0) = true := by rw [bne_iff_ne]; exact he
        clear he
        generalize xs.getD k 0 = x at *
        go_wp2
        go_ret
        exact ⟨ret_bool hf.out.symm, rfl⟩
    · obtain rfl : k = n := by omega
      have hf := Lib.hid (zerosB_true (xs := xs) (by rw [hb.len]; exact hz))
      go_wp2
      go_ret
      exact ⟨ret_bool hf.out.symm, rfl⟩

end Go.Proofs.Ytkbgfddicpnbmaa
