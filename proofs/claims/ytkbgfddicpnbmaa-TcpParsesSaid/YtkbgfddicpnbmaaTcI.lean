/- What tcp.ahead and tcp.parts answer. Condition: at most 2^47 bytes. -/
import Derived.Test.YtkbgfddicpnbmaaTcG
import Derived.BigQuiet
namespace Go.Proofs.Ytkbgfddicpnbmaa
open Go.RowKit
set_option linter.unusedVariables false

/-- how many bytes stand ahead of the payload, or why that can't be said -/
def aheadS (xs : List Int) : Nat × Int :=
  if xs.length < 20 then (0, 3)
  else if xs.getD 12 0 % 16 ≠ 0 ∨ xs.getD 12 0 / 16 < 5 then (0, 5)
  else if (xs.length : Int) < 4 * (xs.getD 12 0 / 16) then (0, 3)
  else ((4 * (xs.getD 12 0 / 16)).toNat, 0)
def segS (xs : List Int) (m : Nat) (os : List Ob) : Sb := ⟨num2 xs 0, num2 xs 2, num4 xs 4, num4 xs 8, xs.getD 13 0, num2 xs 14, num2 xs 16, num2 xs 18, os, xs.drop m⟩
def parseS (xs : List Int) : Sb × Int :=
  if (aheadS xs).2 = 0 then
    (if (parseL ((xs.take (aheadS xs).1).drop 20)).2 = 0 then (segS xs (aheadS xs).1 (parseL ((xs.take (aheadS xs).1).drop 20)).1, 0) else (zeroSb, (parseL ((xs.take (aheadS xs).1).drop 20)).2))
  else (zeroSb, (aheadS xs).2)
theorem and15 (b : Int) (h0 : 0 ≤ b) (h1 : b < 256) : bits .and .u8 b 15 = b % 16 := by
  have h : ∀ n : Fin 256, bits .and .u8 (n.val : Int) 15 = (n.val : Int) % 16 := by decide +kernel
  have := h ⟨b.toNat, by omega⟩
  simpa [Int.toNat_of_nonneg h0] using this

set_option maxRecDepth 100000 in
set_option maxHeartbeats 800000 in
theorem ahead_any (A : Option Addr) (n c : Nat) (xs : List Int) (w : World) (hn : n ≤ 140737488355328) (hb : Bs w w.heap.size A n xs) :
    Calls Try.prog 32 #[.slice A n c] w fun e w' => e = .returned (.tuple #[.int .i64 ((aheadS xs).1 : Nat), .int .i64 (aheadS xs).2]) ∧ ∃ k, w' = w.drewN k := by
  have hl := hb.len
  by_cases h20 : n < 20
  · have HX := Lib.hid (show aheadS xs = (0, 3) by unfold aheadS; rw [if_pos (by omega)])
    clear hb
    go_enter Try.func32, Try.ntmps32
    go_wp2_with fail
    go_ret2
    exact ⟨by rw [HX.out]; rfl, 0, rfl⟩
  · obtain ⟨b, o, rfl, -, hc⟩ := hb.mem (by omega)
    have c12 := hc 12 (by omega)
    have hr := hb.nonneg 12
    have HX := Lib.hid (show aheadS xs = if xs.getD 12 0 % 16 ≠ 0 ∨ xs.getD 12 0 / 16 < 5 then (0, 5) else if (n : Int) < 4 * (xs.getD 12 0 / 16) then (0, 3) else ((4 * (xs.getD 12 0 / 16)).toNat, 0) by rw [← hl]; unfold aheadS; rw [if_neg (by omega)])
    clear hc hb hl
    generalize xs.getD 12 0 = x at *
    have a15 := and15 x hr.1 hr.2
    have n12 : (12 : Int) < n := by omega
    go_enter Try.func32, Try.ntmps32
    go_wp2_with fail
    go_quiet (fail)
    have hq1 : 0 ≤ x / 16 ∧ x / 16 < 16 := by omega
    have hq2 : 0 ≤ x % 16 ∧ x % 16 < 16 := by omega
    by_cases hf : x % 16 = 0
    · by_cases h5 : x / 16 < 5
      · rw [if_pos (Or.inr h5)] at HX
        have d5 : decide (4 * (x / 16) < 20) = true := decide_eq_true (by omega)
        have h5' : 4 * (x / 16) < 20 := by omega
        generalize x / 16 = y at *
        go_wp2_with fail
        go_ret2
        exact ⟨by rw [HX.out]; rfl, _, rfl⟩
      · rw [if_neg (fun h => h.elim (fun h => h hf) h5)] at HX
        have h5' : ¬ 4 * (x / 16) < 20 := by omega
        have d5 : decide (4 * (x / 16) < 20) = false := decide_eq_false h5'
        generalize x / 16 = y at *
        by_cases hs : (n : Int) < 4 * y
        · rw [if_pos hs] at HX
          go_wp2_with fail
          go_ret2
          exact ⟨by rw [HX.out]; rfl, _, rfl⟩
        · rw [if_neg hs] at HX
          go_wp2_with fail
          go_ret2
          exact ⟨by rw [HX.out]; simp [Int.toNat_of_nonneg (show 0 ≤ 4 * y by omega)], _, rfl⟩
    · rw [if_pos (Or.inl hf)] at HX
      go_wp2_with fail
      go_ret2
      exact ⟨by rw [HX.out]; rfl, _, rfl⟩

def partsC : List Value := [.int .i64 0, .func (.func 56) #[] #[], .int .i64 2, .func (.func 58) #[] #[], .int .i64 4, .func (.func 59) #[] #[], .int .i64 8, .func (.func 61) #[] #[],
  .int .i64 13, .func (.func 62) #[] #[], .int .i64 14, .func (.func 63) #[] #[], .int .i64 16, .func (.func 64) #[] #[], .int .i64 18, .func (.func 65) #[] #[]]
set_option maxHeartbeats 800000 in
theorem parts_any (w : World) : Calls Try.prog 34 #[] w fun e w' => e = .returned (.slice (some ⟨w.heap.size, 0, none⟩) 8 8) ∧ BlkV w' 63 w.heap.size partsC ∧ Low w w' ∧ w'.heap.size = w.heap.size + 1 := by
  go_enter Try.func34, Try.ntmps34
  go_wp2_with fail
  go_ret
  exact ⟨rfl, BlkV.new w 63 partsC, Low.alloc _ _, by simp⟩
end Go.Proofs.Ytkbgfddicpnbmaa
