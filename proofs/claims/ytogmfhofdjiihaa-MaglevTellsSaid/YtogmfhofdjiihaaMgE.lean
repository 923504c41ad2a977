/- Stage 17: members in memory; the document's Right. Condition: at most 40 members. -/
import Derived.Test.YtogmfhofdjiihaaMgD
import Derived.Test.YtogmfhofdjiihaaEl
import Derived.Test.YtogmfhofdjiihaaKdG
import Derived.BigQuiet
set_option maxRecDepth 100000
namespace Go.Proofs.Ytogmfhofdjiihaa
open Go.RowKit
set_option linter.unusedVariables false

/-- members in a slice -/
def mbrE : Elt Mbr := ⟨fun x => [.int .i64 x.n, .int .i64 x.w], fun x => i64ok x.n ∧ i64ok x.w, 2, by decide, fun _ _ => rfl, fun a u hu => by
  rcases List.mem_cons.1 hu with rfl | hu
  · rfl
  · obtain rfl := List.mem_singleton.1 hu
    rfl, zeroMbr, by unfold i64ok zeroMbr; simp⟩
theorem mbr_cells {w : World} {B b o n : Nat} {l : List Mbr} (h : Es mbrE w B (some ⟨b, o, none⟩) n l) {i : Nat} (hi : i < n) :
    w.cell? ⟨b, o + i * 2, none⟩ = some (.int .i64 (l.getD i zeroMbr).n) ∧ w.cell? ⟨b, o + i * 2 + 1, none⟩ = some (.int .i64 (l.getD i zeroMbr).w) := by
  have h1 := (h.at_ hi).2
  exact ⟨h1 0 _ rfl, h1 1 _ rfl⟩
theorem member_size : (Try.prog.info? 40).map (·.size) = some 2 := by kernel_rfl

theorem wrongM_bad {l : List Mbr} {i : Nat} (h : badM (l.getD i zeroMbr) = true) : wrongM l i = 2 := by unfold wrongM; rw [if_pos h]
theorem wrongM_twice {l : List Mbr} {i k : Nat} (h : badM (l.getD i zeroMbr) = false) (hk : k < i) (hi : i ≤ l.length) (e : (l.getD k zeroMbr).n = (l.getD i zeroMbr).n) : wrongM l i = 9 := by
  unfold wrongM
  rw [h]
  have ht : twiceM l i = true := by
    unfold twiceM
    rw [List.any_eq_true]
    have hkl : k < l.length := by omega
    exact ⟨l[k], List.mem_take_iff_getElem.2 ⟨k, by omega, rfl⟩, by rw [← getD_memM l k hkl]; simpa using e⟩
  rw [ht]
  rfl
theorem wrongM_fine {l : List Mbr} {i : Nat} (h : badM (l.getD i zeroMbr) = false) (hn : ∀ k, k < i → (l.getD k zeroMbr).n ≠ (l.getD i zeroMbr).n) : wrongM l i = 0 := by
  unfold wrongM
  rw [h]
  have ht : twiceM l i = false := by
    unfold twiceM
    rw [List.any_eq_false]
    intro y hy
    obtain ⟨k, hk, rfl⟩ := List.mem_take_iff_getElem.1 hy
    have h1 := hn k (by omega)
    rw [getD_memM l k (by omega)] at h1
    simpa using h1
  rw [ht]
  rfl

set_option maxHeartbeats 3200000 in
set_option maxRecDepth 100000 in
theorem rright_any (A : Option Addr) (n c : Nat) (l : List Mbr) (w : World) (hn : n ≤ 40) (hb : Es mbrE w w.heap.size A n l) :
    Calls Try.prog 12 #[.slice A n c] w fun e w' => e = .returned (.int .i64 (rightM l)) ∧ Low w w' := by
  have HB := Lib.hid hb
  have HL := Lib.hid hb.len
  clear hb
  go_enter Try.func12, Try.ntmps12
  go_wp2_with fail
  go_loopw [3] (fun v wr => ∃ i : Nat, i ≤ n ∧ v = .int .i64 i ∧ Hid (∀ j, j < i → wrongM l j = 0) ∧ Hid (Es mbrE wr w.heap.size A n l) ∧ Hid (Low w wr)) (fun v _ => n - (intOf v).toNat)
  case atStart => exact ⟨0, by omega, rfl, Lib.hid fun j h => by omega, HB, Lib.hid (Low.refl _)⟩
  case round =>
    clear HB
    obtain ⟨i, hi, rfl, HW, HB, hL⟩ := hrel
    by_cases hlt : i < n
    · obtain ⟨b, o, rfl, hbb, hcc⟩ := HB.out.mem (by omega)
      clear hbb hcc
      obtain ⟨c0, c1⟩ := mbr_cells HB.out hlt
      have HBAD := Lib.hid (fun h => rightM_first l i (by rw [HL.out]; exact hlt) HW.out (by rw [wrongM_bad (l := l) (i := i) h]; omega))
      have HBD := Lib.hid (show badM (l.getD i zeroMbr) = decide ((l.getD i zeroMbr).n < 1 ∨ 65535 < (l.getD i zeroMbr).n ∨ (l.getD i zeroMbr).w < 0 ∨ 4 < (l.getD i zeroMbr).w) from rfl)
      have HWB := Lib.hid (@wrongM_bad l i)
      obtain ⟨p, hp⟩ : ∃ p, p = (l.getD i zeroMbr).n := ⟨_, rfl⟩
      obtain ⟨q, hq⟩ : ∃ q, q = (l.getD i zeroMbr).w := ⟨_, rfl⟩
      rw [← hp] at c0
      rw [← hq] at c1
      rw [← hp, ← hq] at HBD
      have hcs : p < 1 ∨ (¬ p < 1 ∧ 65535 < p) ∨ (¬ p < 1 ∧ ¬ 65535 < p ∧ q < 0) ∨ (¬ p < 1 ∧ ¬ 65535 < p ∧ ¬ q < 0 ∧ 4 < q) ∨ (¬ p < 1 ∧ ¬ 65535 < p ∧ ¬ q < 0 ∧ ¬ 4 < q) := by omega
      rcases hcs with h1 | ⟨h1, h2⟩ | ⟨h1, h2, h3⟩ | ⟨h1, h2, h3, h4⟩ | ⟨h1, h2, h3, h4⟩
      all_goals
        first
          | (have hbad : badM (l.getD i zeroMbr) = true := by rw [HBD.out]; exact decide_eq_true (by omega)
             have HE := Lib.hid ((HBAD.out hbad).trans (HWB.out hbad))
             clear HBAD HWB hbad HBD hp hq
             go_wp2_with fail
             go_ret
             exact ⟨by rw [HE.out]; rfl, hL.out⟩)
          | skip
      have hbad : badM (l.getD i zeroMbr) = false := by rw [HBD.out]; exact decide_eq_false (by omega)
      have HTW := Lib.hid (fun k h e => rightM_first l i (by rw [HL.out]; exact hlt) HW.out (by rw [wrongM_twice (k := k) hbad h (by rw [HL.out]; omega) e]; omega))
      have HT9 := Lib.hid (fun k h e => wrongM_twice (l := l) (i := i) (k := k) hbad h (by rw [HL.out]; omega) e)
      have HFN := Lib.hid (fun h => wrongM_fine (l := l) (i := i) hbad h)
      rw [← hp] at HTW HT9 HFN
      have HP := Lib.hid hp
      clear HBAD HWB hbad HBD hp hq
      go_wp2_with fail
      clear c0 c1
      obtain ⟨wo, rfl⟩ : ∃ wo, wo = wr := ⟨_, rfl⟩
      go_loopw [4] (fun v wr => ∃ k : Nat, k ≤ i ∧ v = .int .i64 k ∧ Hid (∀ j, j < k → (l.getD j zeroMbr).n ≠ p) ∧ Hid (Es mbrE wr w.heap.size (some ⟨b, o, none⟩) n l) ∧ Hid (Low w wr)) (fun v _ => i - (intOf v).toNat)
      case atStart => exact ⟨0, by omega, rfl, Lib.hid fun j h => by omega, HB, hL⟩
      case round =>
        clear HB hL
        obtain ⟨k, hk, rfl, HK, HB, hL⟩ := hrel
        by_cases hlk : k < i
        · obtain ⟨d0, _⟩ := mbr_cells HB.out (show k < n by omega)
          obtain ⟨e0, _⟩ := mbr_cells HB.out hlt
          obtain ⟨y, hy⟩ : ∃ y, y = (l.getD k zeroMbr).n := ⟨_, rfl⟩
          rw [← hy] at d0
          have HPI := Lib.hid (show (l.getD i zeroMbr).n = p from HP.out.symm)
          rw [HPI.out] at e0
          by_cases hyp : y = p
          · have HE := Lib.hid ((HTW.out k hlk (by rw [← hy]; exact hyp)).trans (HT9.out k hlk (by rw [← hy]; exact hyp)))
            clear HTW HT9 HFN hy HPI
            subst hyp
            go_wp2_with fail
            go_quiet (fail)
            go_wp2_with fail
            go_ret
            exact ⟨by rw [HE.out]; rfl, below_drewN hL.out _⟩
          · have HK2 := Lib.hid (show ∀ j, j < k + 1 → (l.getD j zeroMbr).n ≠ p from fun j hj => by
              by_cases hjk : j = k
              · rw [hjk, ← hy]
                exact hyp
              · exact HK.out j (by omega))
            have hyp2 : (y == p) = false := by simpa using hyp
            clear HTW HT9 HFN hy HPI HK
            go_wp2_with fail
            go_quiet (fail)
            go_wp2_with fail
            go_roundw
            case rel => exact ⟨k + 1, by omega, by go_num, HK2, Lib.hid (HB.out.keep fun _ _ => rfl), Lib.hid (below_drewN hL.out _)⟩
            case measure => simp [intOf]; omega
        · obtain rfl : k = i := by omega
          have HW2 := Lib.hid (show ∀ j, j < k + 1 → wrongM l j = 0 from fun j hj => by
            by_cases hjk : j = k
            · rw [hjk]
              exact HFN.out HK.out
            · exact HW.out j (by omega))
          clear HTW HT9 HFN HK HW
          go_wp2_with fail
          go_roundw
          case rel =>
            first
            | exact ⟨k + 1, by omega, by go_num, HW2, HB, hL⟩
            | ((repeat apply Exists.intro); exact ⟨⟨k + 1, by omega, by go_num, HW2, HB, hL⟩, rfl⟩)
          case measure => simp [intOf]; omega
    · obtain rfl : i = n := by omega
      have HE := Lib.hid (rightM_last l (by rw [HL.out]; exact HW.out))
      rw [HL.out] at HE
      by_cases h16 : 16 < i
      · rw [if_pos h16] at HE
        go_wp2_with fail
        go_ret
        exact ⟨by rw [HE.out]; rfl, hL.out⟩
      · rw [if_neg h16] at HE
        go_wp2_with fail
        go_ret
        exact ⟨by rw [HE.out]; rfl, hL.out⟩
end Go.Proofs.Ytogmfhofdjiihaa
