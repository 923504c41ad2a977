/- What the document's own Can answers: whether options can be. Condition: at most 2^47 options. -/
import Derived.Test.YtkbgfddicpnbmaaTpE
import Derived.WalkMore
namespace Go.Proofs.Ytkbgfddicpnbmaa
open Go.RowKit
set_option linter.unusedVariables false

theorem sum_take {l : List Ob} {i : Nat} (h : i < l.length) : sumO (l.take (i + 1)) = sumO (l.take i) + sizeO (l.getD i zeroB) := by
  unfold sumO
  rw [List.take_succ_eq_append_getElem h, List.map_append, List.sum_append]
  simp [List.getD, h]

theorem cap_full {S' : Nat} (h : 41 ≤ S') : (41 : Int) = ((min S' 41 : Nat) : Int) := by omega
/-- a sum that stops at 41 -/
theorem cap_step {t S S' : Nat} {x : Int} (h : t = min S 41) (hx : ((t : Int) + (S' - S) = x ∧ S ≤ S') ∨ (41 < S' ∧ 41 < x)) : (if 41 < x then 41 else x) = ((min S' 41 : Nat) : Int) := by
  split <;> omega

set_option maxRecDepth 100000 in
set_option maxHeartbeats 2000000 in
theorem trcan_any (A : Option Addr) (n c : Nat) (os : List Od) (w : World) (hn : n ≤ 140737488355328) (ho : Os w w.heap.size A n os) :
    Calls Try.prog 53 #[.slice A n c] w fun e w' => e = .returned (.int .i64 (canO (os.map Od.v))) ∧ w' = w := by
  have hlen := ho.len
  go_enter Try.func53, Try.ntmps53
  go_wp2_with fail
  go_loopw [3, 4] (fun s i wr => ∃ m t : Nat, m ≤ n ∧ i = .int .i64 m ∧ s = .int .i64 t ∧ t ≤ 41 ∧ wr = w ∧ Hid (t = min (sumO ((os.map Od.v).take m)) 41 ∧ chkO (os.map Od.v) = chkO ((os.map Od.v).drop m))) (fun s i _ => n - (intOf i).toNat)
  case atStart => exact ⟨0, 0, Nat.zero_le _, rfl, rfl, by omega, rfl, Lib.hid ⟨rfl, rfl⟩⟩
  case round =>
    obtain ⟨m, t, hm, rfl, rfl, ht, rfl, HC⟩ := hrel
    by_cases hmn : m < n
    · obtain ⟨b, p, rfl, hbl, hc⟩ := ho.mem (by omega)
      obtain ⟨c1, c2⟩ := hc m hmn
      have hok := ho.at_ hmn
      have hcd := chk_drop (l := os.map Od.v) (i := m) (by simp; omega)
      have hst := sum_take (l := os.map Od.v) (i := m) (by simp; omega)
      rw [getD_v] at hst
      rw [getD_v, ← HC.out.2] at hcd
      obtain ⟨o, hoo⟩ : ∃ o, o = os.getD m zeroO := ⟨_, rfl⟩
      rw [← hoo] at c1 c2 hok hcd hst
      clear hc hoo
      obtain ⟨kk, DA, dn, dc, d⟩ := o
      obtain ⟨hk, hdn, hbs⟩ := hok
      dsimp only at c1 c2 hk hdn hbs
      replace hcd : chkO (os.map Od.v) = if kk < 1 ∨ 255 < kk then 2 else if fitsO kk dn = false then 5 else chkO ((os.map Od.v).drop (m + 1)) := by rw [← hbs.len]; exact hcd
      have HCD := Lib.hid hcd
      have HST := Lib.hid hst
      have HO := Lib.hid ho
      have HBS := Lib.hid hbs
      clear hcd ho hst hbs
      unfold i64ok at hk
      by_cases hk1 : kk < 1
      · go_wp2_with fail
        go_ret
        refine ⟨?_, rfl⟩
        have e2 := HCD.out
        rw [if_pos (.inl hk1)] at e2
        rw [show canO (os.map Od.v) = 2 by unfold canO; rw [e2]; rfl]
        rfl
      · by_cases hk2 : 255 < kk
        · go_wp2_with fail
          go_ret
          refine ⟨?_, rfl⟩
          have e2 := HCD.out
          rw [if_pos (.inr hk2)] at e2
          rw [show canO (os.map Od.v) = 2 by unfold canO; rw [e2]; rfl]
          rfl
        · go_wp2_with fail
          refine (rlong_any kk _).mono ?_
          rintro e w1 ⟨rfl, rfl⟩
          have e2 := HCD.out
          rw [if_neg (by omega)] at e2
          have hlr := longR_range kk
          cases hf : fitsO kk dn
          · rw [hf, if_pos rfl] at e2
            have HE := Lib.hid e2
            obtain ⟨hf1, hf2⟩ : ¬ longR kk < 0 ∧ ¬ longR kk = dn := by simpa [fitsO] using hf
            generalize longR kk = L at *
            clear e2 hf c1 c2
            have hb : (L != (dn : Int)) = true := by simpa using hf2
            go_wp2_with fail
            go_ret
            refine ⟨?_, rfl⟩
            rw [show canO (os.map Od.v) = 5 by unfold canO; rw [HE.out]; rfl]
            rfl
          · rw [hf, if_neg (by simp)] at e2
            have HE := Lib.hid e2
            clear e2
            by_cases hk3 : kk = 1
            · subst hk3
              have hd0 := fits_nop hf
              subst hd0
              rw [show longR 1 = 0 by decide]
              clear hf hlr
              go_wp2_with fail
              have hsz : sizeO (Od.v ⟨1, DA, 0, dc, d⟩) = 1 := rfl
              exact ⟨⟨m + 1, _, by omega, rfl, congrArg (Value.int .i64) (cap_step HC.out.1 (by rw [HST.out, hsz]; omega)), Nat.min_le_right _ _, trivial, Lib.hid ⟨rfl, HE.out⟩⟩, by simp [intOf]; omega⟩
            · have hsz : sizeO (Od.v ⟨kk, DA, dn, dc, d⟩) = 2 + dn := by rw [← HBS.out.len]; unfold sizeO; exact if_neg hk3
              have HSZ := Lib.hid hsz
              have hf1 : longR kk < 0 ∨ longR kk = dn := by simpa [fitsO] using hf
              have hk4 : (kk == 1) = false := by simpa using hk3
              generalize longR kk = L at *
              have hg : (L < 0) ∨ (¬ L < 0 ∧ (L != (dn : Int)) = false) := by
                by_cases h0 : L < 0
                · exact .inl h0
                · exact .inr ⟨h0, by simp; omega⟩
              clear hf hsz hf1
              by_cases hd : 40 < dn
              · rcases hg with hg | ⟨hg, hg2⟩
                · go_wp2_with fail
                  exact ⟨⟨m + 1, _, by omega, rfl, congrArg (Value.int .i64) (cap_full (S' := sumO ((os.map Od.v).take (m + 1))) (by rw [HST.out, HSZ.out]; omega)), Nat.min_le_right _ _, trivial, Lib.hid ⟨rfl, HE.out⟩⟩, by simp [intOf]; omega⟩
                · go_wp2_with fail
                  exact ⟨⟨m + 1, _, by omega, rfl, congrArg (Value.int .i64) (cap_full (S' := sumO ((os.map Od.v).take (m + 1))) (by rw [HST.out, HSZ.out]; omega)), Nat.min_le_right _ _, trivial, Lib.hid ⟨rfl, HE.out⟩⟩, by simp [intOf]; omega⟩
              · rcases hg with hg | ⟨hg, hg2⟩
                · go_wp2_with fail
                  exact ⟨⟨m + 1, _, by omega, rfl, congrArg (Value.int .i64) (cap_step HC.out.1 (by rw [HST.out, HSZ.out]; omega)), Nat.min_le_right _ _, trivial, Lib.hid ⟨rfl, HE.out⟩⟩, by simp [intOf]; omega⟩
                · go_wp2_with fail
                  exact ⟨⟨m + 1, _, by omega, rfl, congrArg (Value.int .i64) (cap_step HC.out.1 (by rw [HST.out, HSZ.out]; omega)), Nat.min_le_right _ _, trivial, Lib.hid ⟨rfl, HE.out⟩⟩, by simp [intOf]; omega⟩
    · obtain rfl : m = n := by omega
      have hchk : chkO (os.map Od.v) = 0 := by rw [HC.out.2, List.drop_of_length_le (by simp [hlen])]; rfl
      have hsum : t = min (sumO (os.map Od.v)) 41 := by rw [HC.out.1, List.take_of_length_le (by simp [hlen])]
      have HCHK := Lib.hid hchk
      have HSUM := Lib.hid hsum
      clear hchk hsum ho hlen HC
      by_cases h4 : 40 < t
      · go_wp2_with fail
        go_ret
        refine ⟨?_, rfl⟩
        have := HSUM.out
        rw [show canO (os.map Od.v) = 8 by unfold canO; rw [if_pos HCHK.out, if_pos (by omega)]]
        rfl
      · go_wp2_with fail
        go_ret
        refine ⟨?_, rfl⟩
        have := HSUM.out
        rw [show canO (os.map Od.v) = 0 by unfold canO; rw [if_pos HCHK.out, if_neg (by omega)]]
        rfl
end Go.Proofs.Ytkbgfddicpnbmaa
