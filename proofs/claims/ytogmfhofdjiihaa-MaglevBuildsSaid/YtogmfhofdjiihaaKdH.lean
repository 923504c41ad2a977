/- Stage 15: the document's hash of bytes. Condition: at most 3000 bytes. -/
import Derived.Test.YtogmfhofdjiihaaKdG
import Derived.BigQuiet
set_option maxRecDepth 100000
namespace Go.Proofs.Ytogmfhofdjiihaa
open Go.RowKit
set_option linter.unusedVariables false

/-- the words taken so far, of all -/
def tookK (a b : Int) (ws : List Int) (k : Nat) : V4 := (ws.take k).foldl takeK (beginK a b)
theorem tookK_succ (a b : Int) (ws : List Int) (k : Nat) (h : k < ws.length) : tookK a b ws (k + 1) = takeK (tookK a b ws k) (ws.getD k 0) := by
  unfold tookK
  rw [List.take_succ_eq_append_getElem h, List.foldl_append]
  simp [List.getD, h]
theorem tookK_all (a b : Int) (xs : List Int) (m : Nat) (h : xs.length / 8 = m) : hashK (tookK a b (wordsK xs) (m + 1)) = sumK a b xs := by
  unfold tookK sumK
  rw [List.take_of_length_le (by unfold wordsK; simp [h])]
theorem wordsK_len (xs : List Int) (m : Nat) (h : xs.length / 8 = m) : (wordsK xs).length = m + 1 := by unfold wordsK; simp [h]

set_option maxHeartbeats 3200000 in
theorem rsumK_any (a b : Int) (A : Option Addr) (n c : Nat) (xs : List Int) (w : World) (hn : n ≤ 3000) (hb : Bs w w.heap.size A n xs) :
    Calls Try.prog 53 #[keyV a b, .slice A n c] w fun e w' => e = .returned (.int .u64 (sumK a b xs)) ∧ Low w w' := by
  unfold keyV
  have HL := Lib.hid hb.len
  have HB := Lib.hid hb
  clear hb
  go_enter Try.func53, Try.ntmps53
  go_wp2_with ((with_reducible refine wpList_box_v rfl _ (.tmp 0) rfl (keyC a b) rfl ?_); intro w1 HK hL hz1; refine Hid.out ?_)
  refine Lib.hid ?_
  have c0 := key_a HK
  have c1 := key_b HK
  clear HK hz1
  replace HB := Lib.hid (HB.out.below' hL hL.size)
  go_wp2_with fail
  go_quiet (fail)
  obtain ⟨w2, hw2⟩ : ∃ w2, w2 = w1.drewN nq := ⟨_, rfl⟩
  rw [← hw2]
  replace HB : Hid (Bs w2 w2.heap.size A n xs) := Lib.hid (by rw [hw2]; exact HB.out.drewN nq)
  replace hL : Hid (Low w w2) := Lib.hid (by rw [hw2]; exact below_drewN hL nq)
  clear hw2 c0 c1
  go_wp2_with fail
  refine (rwordsK_any A n c xs w2 hn HB.out).mono ?_
  rintro e w3 ⟨A', c', rfl, hE, hl⟩
  replace hL := Lib.hid (hL.out.trans hl)
  obtain ⟨m, hmn⟩ : ∃ m, m = n / 8 := ⟨_, rfl⟩
  rw [← hmn] at hE ⊢
  have hm2 : m ≤ 400 := by omega
  have HM := Lib.hid (show xs.length / 8 = m by rw [HL.out, hmn])
  have HE := Lib.hid hE
  have HWL := Lib.hid (wordsK_len xs m HM.out)
  have HS := Lib.hid (tookK_all a b xs m HM.out)
  have HSU := Lib.hid (tookK_succ a b (wordsK xs))
  obtain ⟨bb, o, e1, _, hc⟩ := hE.mem (by omega)
  subst e1
  have HC := Lib.hid (show ∀ k, k < m + 1 → w3.cell? ⟨bb, o + k, none⟩ = some (.int .u64 ((wordsK xs).getD k 0)) from fun k hk => by
    have h1 := hE.at_ (i := k) (by omega)
    have h2 := h1.2 0 (.int .u64 ((wordsK xs).getD k 0)) rfl
    rw [show o + k * u64E.k + 0 = o + k from by show o + k * 1 + 0 = o + k; omega] at h2
    exact h2)
  clear hE hl HB hmn hc HM HE
  generalize wordsK xs = ws at *
  go_wp2_with fail
  go_loop [5, 6, 7, 8, 10] (fun v5 v6 v7 v8 v10 => ∃ k : Nat, k ≤ m + 1 ∧ v10 = .int .i64 k ∧ v5 = .int .u64 (tookK a b ws k).a ∧ v6 = .int .u64 (tookK a b ws k).b ∧ v7 = .int .u64 (tookK a b ws k).c ∧ v8 = .int .u64 (tookK a b ws k).d) (fun _ _ _ _ i => m + 1 - (intOf i).toNat)
  case atStart => exact ⟨0, Nat.zero_le _, rfl, rfl, rfl, rfl, rfl⟩
  case round =>
    obtain ⟨k, hk, rfl, rfl, rfl, rfl, rfl⟩ := hrel
    by_cases hlt : k < m + 1
    · have h0 := HC.out k hlt
      have HK := Lib.hid (HSU.out k (by rw [HWL.out]; exact hlt))
      have hlt2 : (k : Int) < (m : Int) + 1 := by omega
      generalize ws.getD k 0 = x at *
      generalize tookK a b ws k = v at *
      go_wp2_with fail
      refine (rround_any ⟨v.a, v.b, v.c, xorK v.d x⟩ w3).mono ?_
      rintro e w4 ⟨rfl, rfl⟩
      go_wp2_with fail
      refine (rround_any (roundK ⟨v.a, v.b, v.c, xorK v.d x⟩) w3).mono ?_
      rintro e w4 ⟨rfl, rfl⟩
      go_wp2_with fail
      go_round
      case rel => exact ⟨k + 1, by omega, by go_num, by rw [HK.out]; rfl, by rw [HK.out]; rfl, by rw [HK.out]; rfl, by rw [HK.out]; rfl⟩
      case measure => simp [intOf]; omega
    · obtain rfl : k = m + 1 := by omega
      generalize tookK a b ws (m + 1) = v at *
      go_wp2_with fail
      go_loop [5, 6, 7, 8, 11] (fun v5 v6 v7 v8 v11 => ∃ k : Nat, k ≤ 4 ∧ v11 = .int .i64 k ∧ v5 = .int .u64 (roundsK k ⟨v.a, v.b, xorK v.c 255, v.d⟩).a ∧ v6 = .int .u64 (roundsK k ⟨v.a, v.b, xorK v.c 255, v.d⟩).b ∧ v7 = .int .u64 (roundsK k ⟨v.a, v.b, xorK v.c 255, v.d⟩).c ∧ v8 = .int .u64 (roundsK k ⟨v.a, v.b, xorK v.c 255, v.d⟩).d) (fun _ _ _ _ i => 4 - (intOf i).toNat)
      case atStart => exact ⟨0, Nat.zero_le _, rfl, rfl, rfl, rfl, rfl⟩
      case round =>
        obtain ⟨k, hk, rfl, rfl, rfl, rfl, rfl⟩ := hrel
        by_cases hlt : k < 4
        · have hlt2 : (k : Int) < 4 := by omega
          have HK := Lib.hid (show roundsK (k + 1) ⟨v.a, v.b, xorK v.c 255, v.d⟩ = roundK (roundsK k ⟨v.a, v.b, xorK v.c 255, v.d⟩) from rfl)
          go_wp2_with fail
          refine (rround_any (roundsK k ⟨v.a, v.b, xorK v.c 255, v.d⟩) w3).mono ?_
          rintro e w4 ⟨rfl, rfl⟩
          go_wp2_with fail
          go_round
          case rel => exact ⟨k + 1, by omega, by go_num, rfl, rfl, rfl, rfl⟩
          case measure => simp [intOf]; omega
        · obtain rfl : k = 4 := by omega
          go_wp2_with fail
          go_ret
          exact ⟨by rw [← HS.out]; rfl, hL.out⟩
end Go.Proofs.Ytogmfhofdjiihaa
