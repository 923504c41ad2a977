/- Stage 15: the example's key, a hash as a number below another one, a word of at most eight bytes. No condition. -/
import Derived.Test.YtogmfhofdjiihaaKdE
set_option maxRecDepth 100000
namespace Go.Proofs.Ytogmfhofdjiihaa
open Go.RowKit
set_option linter.unusedVariables false

theorem kmod_any (u n : Int) (w : World) (hn : i64ok n) : Calls Try.prog 51 #[.int .u64 u, .int .i64 n] w fun e w' => e = .returned (.int .i64 (modK u n)) ∧ w = w' := by
  by_cases h : n < 1
  · have HE := Lib.hid (show modK u n = 0 by unfold modK; rw [if_pos h])
    go_enter Try.func51, Try.ntmps51
    go_wp2_with fail
    go_ret
    exact ⟨by rw [HE.out]; rfl, rfl⟩
  · have HE := Lib.hid (show modK u n = wrap64 (u.tmod n) by unfold modK; rw [if_neg h])
    have hw : IntKind.u64.wrap n = n := wraps_u64 _ (by omega) (by have := hn.2; omega)
    have hz : (n == 0) = false := by simp; omega
    have hz2 : ¬ n = 0 := by omega
    clear hn
    go_enter Try.func51, Try.ntmps51
    go_wp2_with fail
    go_ret
    exact ⟨by rw [HE.out]; rfl, rfl⟩
set_option maxHeartbeats 800000 in
theorem kword_any (A : Option Addr) (n c : Nat) (xs : List Int) (w : World) (hn : n ≤ 8) (hb : Bs w w.heap.size A n xs) :
    Calls Try.prog 68 #[.slice A n c] w fun e w' => e = .returned (.int .u64 (leK xs)) ∧ w = w' := by
  have HL := Lib.hid hb.len
  go_enter Try.func68, Try.ntmps68
  go_wp2_with fail
  go_loop [3, 7] (fun u i => ∃ k : Nat, k ≤ n ∧ i = .int .i64 k ∧ u = .int .u64 (leK (xs.take k))) (fun _ i => n - (intOf i).toNat)
  case atStart => exact ⟨0, Nat.zero_le _, rfl, rfl⟩
  case round =>
    obtain ⟨k, hk, rfl, rfl⟩ := hrel
    by_cases hlt : k < n
    · obtain ⟨b, o, rfl, _, hc⟩ := hb.mem (by omega)
      have h0 := hc k hlt
      have hx := hb.nonneg k
      have hlow := leK_small (xs.take k) (hb.all.take k) k (by rw [List.length_take]; omega)
      have HS := Lib.hid (leK_step xs k (by rw [HL.out]; exact hlt))
      have HO := Lib.hid (or_byteK k (by omega) (leK (xs.take k)) (xs.getD k 0) hlow.1 hlow.2 hx.1 hx.2)
      rw [← HS.out] at HO
      have hm : min (8 * (k : Int)).toNat 64 = 8 * k := by omega
      have hm0 : ¬ 8 * (k : Int) < 0 := by omega
      have hm1 : 0 ≤ 8 * (k : Int) := by omega
      have hm2 : 8 * (k : Int) ≤ 64 := by omega
      have hw8 : IntKind.u64.wrap (xs.getD k 0) = xs.getD k 0 := wraps_u64 _ hx.1 (by have := hx.2; omega)
      have ht : (8 * (k : Int)).toNat = 8 * k := by omega
      have HT := Lib.hid ht
      clear hc hlow HS ht
      generalize leK (xs.take k) = y at *
      generalize xs.getD k 0 = x at *
      go_wp2_with fail
      go_round
      case rel => exact ⟨k + 1, by omega, by go_num, by rw [HO.out]⟩
      case measure => simp [intOf]; omega
    · obtain rfl : k = n := by omega
      have HE := Lib.hid (show xs.take k = xs from List.take_of_length_le (by rw [HL.out]; exact Nat.le_refl _))
      go_wp2_with fail
      go_ret
      exact ⟨by rw [HE.out]; rfl, rfl⟩
end Go.Proofs.Ytogmfhofdjiihaa
