/- What tlv.Can, and the document's own, answer: whether parts can be. Condition: at most 2^47 parts. -/
import Derived.Test.YtnfiijbnfmcpjaaTlA
import Derived.Test.YtnfiijbnfmcpjaaTpM
import Derived.Test.YtnfiijbnfmcpjaaVals
import Derived.WalkMore
namespace Go.Proofs.Ytnfiijbnfmcpjaa
open Go.RowKit
set_option linter.unusedVariables false

/-- what is left of 256, never below -1 -/
def leftT (s : Nat) : Int := if 256 < s then -1 else 256 - s
theorem leftT_range (s : Nat) : -1 ≤ leftT s ∧ leftT s ≤ 256 := by unfold leftT; split <;> omega
theorem leftT_step {s s' dn : Nat} (h : s' = s + (2 + dn)) : (if leftT s - 2 - dn < -1 then (-1 : Int) else leftT s - 2 - dn) = leftT s' := by
  subst h
  unfold leftT
  repeat' split
  all_goals omega
theorem capT_step {t S S' dn : Nat} (h : t = min S 257) (hs : S' = S + (2 + dn)) : (if 257 < (t : Int) + 2 + dn then 257 else (t : Int) + 2 + dn) = ((min S' 257 : Nat) : Int) := by
  split <;> omega
theorem bad_lt {k : Int} (h : k < 1) : badT k := .inl h
theorem bad_gt {k : Int} (h : 255 < k) : badT k := .inr (.inl h)
theorem bad_four : badT 4 := .inr (.inr rfl)

set_option maxRecDepth 100000 in
set_option maxHeartbeats 2000000 in
theorem tlcan_any (A : Option Addr) (n c : Nat) (os : List Od) (w : World) (hn : n ≤ 140737488355328) (ho : Os w w.heap.size A n os) :
    Calls Try.prog 23 #[.slice A n c] w fun e w' => e = .returned (.int .i64 (canT (os.map Od.v))) ∧ Below w.heap.size w w' := by
  have hlen := ho.len
  go_enter Try.func23, Try.ntmps23
  go_wp2_with fail
  go_loopw [3, 8] (fun s i wr => ∃ (m : Nat) (t : Int), m ≤ n ∧ i = .int .i64 m ∧ s = .int .i64 t ∧ (-1 ≤ t ∧ t ≤ 256) ∧ Below w.heap.size w wr ∧ Hid (t = leftT (sumT ((os.map Od.v).take m)) ∧ chkT (os.map Od.v) = chkT ((os.map Od.v).drop m))) (fun s i _ => n - (intOf i).toNat)
  case atStart => exact ⟨0, 256, Nat.zero_le _, rfl, rfl, by omega, Below.refl _ _, Lib.hid ⟨rfl, rfl⟩⟩
  case round =>
    obtain ⟨m, t, hm, rfl, rfl, ht, hB, HC⟩ := hrel
    by_cases hmn : m < n
    · obtain ⟨b, p, rfl, hbl, hc⟩ := ho.mem (by omega)
      obtain ⟨q1, q2⟩ := hc m hmn
      have hok := ho.at_ hmn
      have hcd := chkT_drop (l := os.map Od.v) (i := m) (by simp; omega)
      have hst := sumT_take (l := os.map Od.v) (i := m) (by simp; omega)
      rw [getV] at hst
      rw [getV, ← HC.out.2] at hcd
      obtain ⟨o, hoo⟩ : ∃ o, o = os.getD m zeroO := ⟨_, rfl⟩
      rw [← hoo] at q1 q2 hok hcd hst
      have c1 := (hB.cell (p := ⟨b, p + m * 2, none⟩) hbl).trans q1
      have c2 := (hB.cell (p := ⟨b, p + m * 2 + 1, none⟩) hbl).trans q2
      clear hc hoo q1 q2
      obtain ⟨kk, DA, dn, dc, d⟩ := o
      obtain ⟨hk, hdn, hbs⟩ := hok
      dsimp only at c1 c2 hk hdn hbs
      replace hcd : chkT (os.map Od.v) = if badT kk then 2 else if 255 < dn then 4 else chkT ((os.map Od.v).drop (m + 1)) := by rw [← hbs.len]; exact hcd
      replace hst : sumT ((os.map Od.v).take (m + 1)) = sumT ((os.map Od.v).take m) + (2 + dn) := by rw [← hbs.len]; exact hst
      have hsz := hB.size
      have HBE := Lib.hid (hB.alloc hsz (.cells #[.int .i64 kk, .slice DA dn dc] 65))
      have HCD := Lib.hid hcd
      have HST := Lib.hid hst
      have HO := Lib.hid ho
      clear hcd ho hst hbs
      unfold i64ok at hk
      have hbad : badT kk → canT (os.map Od.v) = 2 := fun hb => by unfold canT; rw [HCD.out, if_pos hb]; rfl
      have HBAD := Lib.hid hbad
      clear hbad
      by_cases hk1 : kk < 1
      · go_wp2_with fail
        go_ret
        exact ⟨by rw [HBAD.out (bad_lt hk1)]; rfl, HBE.out⟩
      · by_cases hk2 : 255 < kk
        · go_wp2_with fail
          go_ret
          exact ⟨by rw [HBAD.out (bad_gt hk2)]; rfl, HBE.out⟩
        · by_cases hk4 : kk = 4
          · subst hk4
            go_wp2_with fail
            go_ret
            exact ⟨by rw [HBAD.out bad_four]; rfl, HBE.out⟩
          · have hkb : (kk == 4) = false := by simpa using hk4
            have e2 := HCD.out
            rw [if_neg (by unfold badT; omega)] at e2
            clear hk4
            by_cases hd : 255 < dn
            · rw [if_pos hd] at e2
              have HE := Lib.hid e2
              clear e2
              go_wp2_with fail
              go_ret
              exact ⟨by rw [show canT (os.map Od.v) = 4 by unfold canT; rw [HE.out]; rfl]; rfl, HBE.out⟩
            · rw [if_neg hd] at e2
              have HE := Lib.hid e2
              clear e2
              go_wp2_with fail
              refine ⟨⟨m + 1, leftT (sumT ((os.map Od.v).take (m + 1))), by omega, rfl, ?_, leftT_range _, HBE.out, Lib.hid ⟨rfl, HE.out⟩⟩, by simp [intOf]; omega⟩
              refine congrArg (Value.int .i64) ?_
              rw [HC.out.1]
              exact leftT_step HST.out
    · obtain rfl : m = n := by omega
      have hchk : chkT (os.map Od.v) = 0 := by rw [HC.out.2, List.drop_of_length_le (by simp [hlen])]; rfl
      have hsum : t = leftT (sumT (os.map Od.v)) := by rw [HC.out.1, List.take_of_length_le (by simp [hlen])]
      have HCHK := Lib.hid hchk
      have HSUM := Lib.hid hsum
      clear hchk hsum ho hlen HC
      by_cases h4 : t < 0
      · go_wp2_with fail
        go_ret
        refine ⟨?_, hB⟩
        have := HSUM.out
        unfold leftT at this
        rw [show canT (os.map Od.v) = 8 by unfold canT; rw [if_pos HCHK.out, if_pos (by split at this <;> omega)]]
        rfl
      · go_wp2_with fail
        go_ret
        refine ⟨?_, hB⟩
        have := HSUM.out
        unfold leftT at this
        rw [show canT (os.map Od.v) = 0 by unfold canT; rw [if_pos HCHK.out, if_neg (by split at this <;> omega)]]
        rfl

set_option maxRecDepth 100000 in
set_option maxHeartbeats 2000000 in
theorem rtlcan_any (A : Option Addr) (n c : Nat) (os : List Od) (w : World) (hn : n ≤ 140737488355328) (ho : Os w w.heap.size A n os) :
    Calls Try.prog 34 #[.slice A n c] w fun e w' => e = .returned (.int .i64 (canT (os.map Od.v))) ∧ w' = w := by
  have hlen := ho.len
  go_enter Try.func34, Try.ntmps34
  go_wp2_with fail
  go_loopw [3, 4] (fun s i wr => ∃ m t : Nat, m ≤ n ∧ i = .int .i64 m ∧ s = .int .i64 t ∧ t ≤ 257 ∧ wr = w ∧ Hid (t = min (sumT ((os.map Od.v).take m)) 257 ∧ chkT (os.map Od.v) = chkT ((os.map Od.v).drop m))) (fun s i _ => n - (intOf i).toNat)
  case atStart => exact ⟨0, 0, Nat.zero_le _, rfl, rfl, by omega, rfl, Lib.hid ⟨rfl, rfl⟩⟩
  case round =>
    obtain ⟨m, t, hm, rfl, rfl, ht, rfl, HC⟩ := hrel
    by_cases hmn : m < n
    · obtain ⟨b, p, rfl, hbl, hc⟩ := ho.mem (by omega)
      obtain ⟨c1, c2⟩ := hc m hmn
      have hok := ho.at_ hmn
      have hcd := chkT_drop (l := os.map Od.v) (i := m) (by simp; omega)
      have hst := sumT_take (l := os.map Od.v) (i := m) (by simp; omega)
      rw [getV] at hst
      rw [getV, ← HC.out.2] at hcd
      obtain ⟨o, hoo⟩ : ∃ o, o = os.getD m zeroO := ⟨_, rfl⟩
      rw [← hoo] at c1 c2 hok hcd hst
      clear hc hoo
      obtain ⟨kk, DA, dn, dc, d⟩ := o
      obtain ⟨hk, hdn, hbs⟩ := hok
      dsimp only at c1 c2 hk hdn hbs
      replace hcd : chkT (os.map Od.v) = if badT kk then 2 else if 255 < dn then 4 else chkT ((os.map Od.v).drop (m + 1)) := by rw [← hbs.len]; exact hcd
      replace hst : sumT ((os.map Od.v).take (m + 1)) = sumT ((os.map Od.v).take m) + (2 + dn) := by rw [← hbs.len]; exact hst
      have HCD := Lib.hid hcd
      have HST := Lib.hid hst
      have HO := Lib.hid ho
      clear hcd ho hst hbs
      unfold i64ok at hk
      have hbad : badT kk → canT (os.map Od.v) = 2 := fun hb => by unfold canT; rw [HCD.out, if_pos hb]; rfl
      have HBAD := Lib.hid hbad
      clear hbad
      by_cases hk1 : kk < 1
      · go_wp2_with fail
        go_ret
        exact ⟨by rw [HBAD.out (bad_lt hk1)]; rfl, rfl⟩
      · by_cases hk2 : 255 < kk
        · go_wp2_with fail
          go_ret
          exact ⟨by rw [HBAD.out (bad_gt hk2)]; rfl, rfl⟩
        · by_cases hk4 : kk = 4
          · subst hk4
            go_wp2_with fail
            go_ret
            exact ⟨by rw [HBAD.out bad_four]; rfl, rfl⟩
          · have hkb : (kk == 4) = false := by simpa using hk4
            have e2 := HCD.out
            rw [if_neg (by unfold badT; omega)] at e2
            clear hk4
            by_cases hd : 255 < dn
            · rw [if_pos hd] at e2
              have HE := Lib.hid e2
              clear e2
              go_wp2_with fail
              go_ret
              exact ⟨by rw [show canT (os.map Od.v) = 4 by unfold canT; rw [HE.out]; rfl]; rfl, rfl⟩
            · rw [if_neg hd] at e2
              have HE := Lib.hid e2
              clear e2
              go_wp2_with fail
              exact ⟨⟨m + 1, _, by omega, rfl, congrArg (Value.int .i64) (capT_step HC.out.1 HST.out), Nat.min_le_right _ _, trivial, Lib.hid ⟨rfl, HE.out⟩⟩, by simp [intOf]; omega⟩
    · obtain rfl : m = n := by omega
      have hchk : chkT (os.map Od.v) = 0 := by rw [HC.out.2, List.drop_of_length_le (by simp [hlen])]; rfl
      have hsum : t = min (sumT (os.map Od.v)) 257 := by rw [HC.out.1, List.take_of_length_le (by simp [hlen])]
      have HCHK := Lib.hid hchk
      have HSUM := Lib.hid hsum
      clear hchk hsum ho hlen HC
      by_cases h4 : 256 < t
      · go_wp2_with fail
        go_ret
        refine ⟨?_, rfl⟩
        have := HSUM.out
        rw [show canT (os.map Od.v) = 8 by unfold canT; rw [if_pos HCHK.out, if_pos (by omega)]]
        rfl
      · go_wp2_with fail
        go_ret
        refine ⟨?_, rfl⟩
        have := HSUM.out
        rw [show canT (os.map Od.v) = 0 by unfold canT; rw [if_pos HCHK.out, if_neg (by omega)]]
        rfl
end Go.Proofs.Ytnfiijbnfmcpjaa
