/- What Segment answers, topt's and the document's: how long segments may be. Condition: at most 2^47 options. -/
import Derived.Test.YtibgonmngjajgaaTpC
import Derived.Test.YtibgonmngjajgaaOctU
import Derived.WalkMore
namespace Go.Proofs.Ytibgonmngjajgaa
open Go.RowKit
set_option linter.unusedVariables false

def segO : List Ob → Int
  | [] => 1220
  | o :: l => if o.1 = 2 ∧ o.2.length = 2 then num2 o.2 0 else segO l
theorem seg_drop {os : List Od} {i : Nat} (h : i < os.length) : segO ((os.map Od.v).drop i) = if (os.getD i zeroO).k = 2 ∧ (os.getD i zeroO).d.length = 2 then num2 (os.getD i zeroO).d 0 else segO ((os.map Od.v).drop (i + 1)) := by
  have e : (os.map Od.v).drop i = (os.getD i zeroO).v :: (os.map Od.v).drop (i + 1) := by
    rw [List.drop_eq_getElem_cons (by simpa using h)]
    simp [List.getD, h]
  rw [e]
  rfl
theorem fits_mss (n : Nat) : fitsO 2 n = decide (n = 2) := by
  unfold fitsO
  rw [show longR 2 = 2 by decide]
  by_cases h : n = 2
  · subst h; rfl
  · have h2 : ¬ (2 : Int) = n := by omega
    simp [h, h2]

set_option maxHeartbeats 800000 in
theorem rseg_any (A : Option Addr) (n c : Nat) (os : List Od) (w : World) (hn : n ≤ 140737488355328) (ho : Os w w.heap.size A n os) :
    Calls Try.prog 18 #[.slice A n c] w fun e w' => e = .returned (.int .i64 (segO (os.map Od.v))) ∧ Below w.heap.size w w' := by
  have hlen := ho.len
  obtain ⟨r, hr⟩ : ∃ r, r = segO (os.map Od.v) := ⟨_, rfl⟩
  rw [← hr]
  have HR := Lib.hid hr
  clear hr
  go_enter Try.func18, Try.ntmps18
  go_wp2_with fail
  go_loopw [3] (fun i wr => ∃ m : Nat, m ≤ n ∧ i = .int .i64 m ∧ wr = w ∧ Hid (r = segO ((os.map Od.v).drop m))) (fun i _ => n - (intOf i).toNat)
  case atStart => exact ⟨0, Nat.zero_le _, rfl, rfl, HR⟩
  case round =>
    obtain ⟨m, hm, rfl, rfl, HE⟩ := hrel
    by_cases hmn : m < n
    · obtain ⟨b, p, rfl, hbl, hc⟩ := ho.mem (by omega)
      obtain ⟨c1, c2⟩ := hc m hmn
      have hok := ho.at_ hmn
      have hfd := seg_drop (os := os) (i := m) (by omega)
      rw [← HE.out] at hfd
      obtain ⟨o, hoo⟩ : ∃ o, o = os.getD m zeroO := ⟨_, rfl⟩
      rw [← hoo] at c1 c2 hok hfd
      clear hc hoo
      obtain ⟨kk, DA, dn, dc, d⟩ := o
      obtain ⟨hk, hdn, hbs⟩ := hok
      dsimp only at c1 c2 hk hdn hbs hfd
      have HO := Lib.hid ho
      have hdl := hbs.len
      by_cases he : kk = 2
      · subst he
        by_cases hd : dn = 2
        · subst hd
          rw [if_pos ⟨rfl, hdl⟩] at hfd
          have HF := Lib.hid hfd
          obtain ⟨b2, o2, rfl, hbl2, hc2⟩ := hbs.mem (by omega)
          have e0 : wr.cell? ⟨b2, o2, none⟩ = some (.int .u8 (d.getD 0 0)) := hc2 0 (by omega)
          have e1 := hc2 1 (by omega)
          have v0 := hbs.nonneg 0
          have v1 := hbs.nonneg 1
          unfold num2 at HF
          rw [Nat.zero_add] at HF
          generalize d.getD 0 0 = y0 at *
          generalize d.getD 1 0 = y1 at *
          clear hfd hbs ho hc2 hdl
          go_wp2_with fail
          go_quiet (fail)
          go_wp2_with fail
          go_ret
          rw [HF.out]
          exact ⟨rfl, below_drewN (Below.refl _ _) _⟩
        · rw [if_neg (fun h => hd (by omega))] at hfd
          have HF := Lib.hid hfd
          have heb : ((dn : Int) == 2) = false := by simp; omega
          clear hfd ho hbs
          go_wp2_with fail
          exact ⟨⟨m + 1, by omega, rfl, trivial, HF⟩, by simp [intOf]; omega⟩
      · rw [if_neg (fun h => he h.1)] at hfd
        have HF := Lib.hid hfd
        have heb : (kk == 2) = false := by simpa using he
        clear hfd he ho hbs
        go_wp2_with fail
        exact ⟨⟨m + 1, by omega, rfl, trivial, HF⟩, by simp [intOf]; omega⟩
    · obtain rfl : m = n := by omega
      have HF := Lib.hid (show r = 1220 by rw [HE.out, List.drop_of_length_le (by simp [hlen])]; rfl)
      clear ho HE
      go_wp2_with fail
      go_ret
      rw [HF.out]
      exact ⟨rfl, Below.refl _ _⟩

set_option maxHeartbeats 800000 in
theorem seg_any (A : Option Addr) (n c : Nat) (os : List Od) (w : World) (hn : n ≤ 140737488355328) (ho : Os w w.heap.size A n os) :
    Calls Try.prog 17 #[.slice A n c] w fun e w' => e = .returned (.int .i64 (segO (os.map Od.v))) ∧ Below w.heap.size w w' := by
  have hlen := ho.len
  obtain ⟨r, hr⟩ : ∃ r, r = segO (os.map Od.v) := ⟨_, rfl⟩
  rw [← hr]
  have HR := Lib.hid hr
  clear hr
  go_enter Try.func17, Try.ntmps17
  go_wp2_with fail
  go_loopw [9] (fun i wr => ∃ m : Nat, m ≤ n ∧ i = .int .i64 m ∧ Below w.heap.size w wr ∧ Hid (r = segO ((os.map Od.v).drop m))) (fun i _ => n - (intOf i).toNat)
  case atStart => exact ⟨0, Nat.zero_le _, rfl, Below.refl _ _, HR⟩
  case round =>
    obtain ⟨m, hm, rfl, hB, HE⟩ := hrel
    by_cases hmn : m < n
    · obtain ⟨b, p, rfl, hbl, hc⟩ := ho.mem (by omega)
      obtain ⟨q1, q2⟩ := hc m hmn
      have hok := ho.at_ hmn
      have hfd := seg_drop (os := os) (i := m) (by omega)
      rw [← HE.out] at hfd
      obtain ⟨o, hoo⟩ : ∃ o, o = os.getD m zeroO := ⟨_, rfl⟩
      rw [← hoo] at q1 q2 hok hfd
      have c1 := (hB.cell (p := ⟨b, p + m * 2, none⟩) hbl).trans q1
      have c2 := (hB.cell (p := ⟨b, p + m * 2 + 1, none⟩) hbl).trans q2
      clear hc hoo q1 q2
      obtain ⟨kk, DA, dn, dc, d⟩ := o
      obtain ⟨hk, hdn, hbs⟩ := hok
      dsimp only at c1 c2 hk hdn hbs hfd
      have hl1 := Low.alloc wr (.cells #[.int .i64 kk, .slice DA dn dc] 39)
      have HBS := Lib.hid hbs
      have HO := Lib.hid ho
      have hsz := hB.size
      have hBe := hB.trans (hl1.mono hsz)
      rw [hbs.len] at hfd
      clear ho hbs
      by_cases he : kk = 2
      · subst he
        have HBE := Lib.hid hBe
        have HG := Lib.hid (heap_alloc_new wr (.cells #[.int .i64 2, .slice DA dn dc] 39))
        have HFA := Lib.hid (show dn = 2 → r = num2 d 0 from fun h => by rw [hfd]; exact if_pos ⟨rfl, h⟩)
        have HFB := Lib.hid (show dn ≠ 2 → r = segO ((os.map Od.v).drop (m + 1)) from fun h => by rw [hfd]; exact if_neg fun e => h e.2)
        clear hl1 hfd
        go_wp2_with fail
        refine (fits_any 2 dn _ (by unfold i64ok; omega) (by omega)).mono ?_
        rintro e w1 ⟨rfl, hB1⟩
        rw [fits_mss]
        have hB2 := HBE.out.trans (hB1.mono HBE.out.size)
        by_cases hd : dn = 2
        · subst hd
          have HF := Lib.hid (HFA.out rfl)
          rw [show decide ((2 : Nat) = 2) = true from rfl]
          have g1 : w1.cell? ⟨wr.heap.size, 1, none⟩ = some (.slice DA 2 dc) := by
            rw [hB1.cell (p := ⟨wr.heap.size, 1, none⟩) (by simp), cell_of_row _ wr.heap.size 1 _ _ _ HG.out]; rfl
          clear c1 c2 hB1
          go_wp2_with fail
          refine (u16_yes DA 2 dc 0 0 d w1 (by omega) (HBS.out.below' hB2 hB2.size) rfl (by omega)).mono ?_
          rintro e w2 ⟨rfl, j, rfl⟩
          have hB3 := below_drewN hB2 j
          generalize w1.drewN j = w2 at *
          clear g1
          go_wp2_with fail
          go_ret
          rw [HF.out]
          exact ⟨rfl, hB3⟩
        · have HF := Lib.hid (HFB.out hd)
          rw [decide_eq_false hd]
          clear c1 c2 hB1
          go_wp2_with fail
          exact ⟨⟨m + 1, by omega, rfl, hB2, HF⟩, by simp [intOf]; omega⟩
      · rw [if_neg (fun h => he h.1)] at hfd
        have HF := Lib.hid hfd
        have heb : (kk != 2) = true := by simpa using he
        clear hfd he
        go_wp2_with fail
        exact ⟨⟨m + 1, by omega, rfl, hBe, HF⟩, by simp [intOf]; omega⟩
    · obtain rfl : m = n := by omega
      have HF := Lib.hid (show r = 1220 by rw [HE.out, List.drop_of_length_le (by simp [hlen])]; rfl)
      clear ho HE
      go_wp2_with fail
      go_ret
      rw [HF.out]
      exact ⟨rfl, hB⟩
end Go.Proofs.Ytibgonmngjajgaa
