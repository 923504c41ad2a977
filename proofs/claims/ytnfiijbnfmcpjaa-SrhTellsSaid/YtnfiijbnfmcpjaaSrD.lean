/- What srh.Can, and the document's own, answer: whether a routing header can be. Condition: at most 2^47 segments and parts. -/
import Derived.Test.YtnfiijbnfmcpjaaSrB
import Derived.Test.YtnfiijbnfmcpjaaTlB
namespace Go.Proofs.Ytnfiijbnfmcpjaa
open Go.RowKit
set_option linter.unusedVariables false

def numsR (x : Rb) : List Int := [x.nx, x.le, x.fl, x.tg]
def topR (k : Nat) : Int := if k = 3 then 65535 else 255
def insR (l : List Int) (k : Nat) : Prop := ∀ j, j < k → 0 ≤ l.getD j 0 ∧ l.getD j 0 ≤ topR j
theorem insR_zero (l : List Int) : insR l 0 := fun j h => absurd h (by omega)
theorem insR_succ {l : List Int} {k : Nat} (h : insR l k) (h0 : 0 ≤ l.getD k 0) (h1 : l.getD k 0 ≤ topR k) : insR l (k + 1) := fun j hj => by
  rcases Nat.lt_or_ge j k with h2 | h2
  · exact h j h2
  · obtain rfl : j = k := by omega
    exact ⟨h0, h1⟩
theorem fitR_false {x : Rb} {k : Nat} (hk : k < 4) (h : ¬ (0 ≤ (numsR x).getD k 0 ∧ (numsR x).getD k 0 ≤ topR k)) : canR x = 2 := by
  have hf : fitR x = false := by
    unfold fitR
    rw [decide_eq_false_iff_not]
    rintro ⟨h1, h2, h3, h4⟩
    apply h
    obtain rfl | rfl | rfl | rfl : k = 0 ∨ k = 1 ∨ k = 2 ∨ k = 3 := by omega
    · exact h1
    · exact h2
    · exact h3
    · exact h4
  unfold canR
  rw [hf]
  rfl
theorem fitR_true {x : Rb} (h : insR (numsR x) 4) : canR x = if x.sg.length = 0 ∨ 10 < x.sg.length then 8 else if (x.sg.length : Int) ≤ x.le then 5 else canT x.tl := by
  have hf : fitR x = true := by
    unfold fitR
    rw [decide_eq_true_iff]
    exact ⟨h 0 (by omega), h 1 (by omega), h 2 (by omega), h 3 (by omega)⟩
  unfold canR
  rw [hf]
  rfl

set_option maxRecDepth 100000 in
set_option maxHeartbeats 1600000 in
theorem srcan_any (s : Sr) (w : World) (hs : s.ok w w.heap.size) : Calls Try.prog 11 #[srV s] w fun e w' => e = .returned (.int .i64 (canR s.v)) ∧ Below w.heap.size w w' := by
  unfold srV
  have HT := Lib.hid hs
  have hgm := hs.gm
  have HSG := Lib.hid (show s.v.sg.length = s.gm from hs.sg.len)
  clear hs
  go_enter Try.func11, Try.ntmps11
  go_wp2_with ((with_reducible refine wpList_box_sr rfl (.tmp 0) rfl s rfl ?_); intro w1 HB hL hz1; refine Hid.out ?_)
  refine Lib.hid ?_
  obtain ⟨c0, c1, c2, c3, c4, c5⟩ := BlkR.cells HB
  replace HB := Lib.hid HB
  clear c3 c4 c5
  go_wp2_with fail
  have hl2 := Low.alloc w1 (.cells #[.int .i64 s.nx, .int .i64 s.le, .int .i64 s.fl] 3)
  have hk2 : BlkV (w1.alloc (.cells #[.int .i64 s.nx, .int .i64 s.le, .int .i64 s.fl] 3)) 3 w1.heap.size ([s.nx, s.le, s.fl].map (.int .i64)) := BlkV.new w1 _ _
  rw [hz1] at hk2
  replace HB := Lib.hid (HB.out.below hl2 HB.out.lt)
  have hL2 := hL.trans hl2
  clear hL hl2 c0 c1 c2
  generalize w1.alloc (.cells #[.int .i64 s.nx, .int .i64 s.le, .int .i64 s.fl] 3) = w2 at *
  have HK := Lib.hid hk2
  clear hk2 hz1
  go_loop [13] (fun i => ∃ k : Nat, k ≤ 3 ∧ i = .int .i64 k ∧ Hid (insR (numsR s.v) k)) (fun i => 3 - (intOf i).toNat)
  case atStart => exact ⟨0, by omega, rfl, Lib.hid (insR_zero _)⟩
  case round =>
    obtain ⟨k, hk, rfl, HI⟩ := hrel
    by_cases hlt : k < 3
    · have h0 : w2.cell? ⟨w.heap.size + 1, k, none⟩ = some (.int .i64 ((numsR s.v).getD k 0)) := by
        rw [HK.out.cell k]
        obtain rfl | rfl | rfl : k = 0 ∨ k = 1 ∨ k = 2 := by omega
        · rfl
        · rfl
        · rfl
      have ht : topR k = 255 := by unfold topR; rw [if_neg (by omega)]
      have HF := Lib.hid (fun h => fitR_false (x := s.v) (k := k) (by omega) h)
      have HS := Lib.hid (fun h0 h1 => insR_succ HI.out (l := numsR s.v) (k := k) h0 h1)
      rw [ht] at HF HS
      generalize (numsR s.v).getD k 0 = x at *
      clear ht
      by_cases hx0 : x < 0
      · go_wp2_with fail
        go_ret
        exact ⟨by rw [HF.out (by omega)]; rfl, hL2⟩
      · have hx0' : decide (x < 0) = false := decide_eq_false hx0
        by_cases hx1 : 255 < x
        · go_wp2_with fail
          go_ret
          exact ⟨by rw [HF.out (by omega)]; rfl, hL2⟩
        · have hx1' : decide (255 < x) = false := decide_eq_false hx1
          go_wp2_with fail
          go_round
          case rel => exact ⟨k + 1, by omega, by go_num, Lib.hid (HS.out (by omega) (by omega))⟩
          case measure => simp [intOf]; omega
    · obtain rfl : k = 3 := by omega
      obtain ⟨c0, c1, c2, c3, c4, c5⟩ := BlkR.cells HB.out
      clear c0 c2
      have HF := Lib.hid (fun h => fitR_false (x := s.v) (k := 3) (by omega) h)
      replace HF : Hid (¬ (0 ≤ s.tg ∧ s.tg ≤ 65535) → canR s.v = 2) := HF
      by_cases hx0 : s.tg < 0
      · go_wp2_with fail
        go_ret
        exact ⟨by rw [HF.out (by omega)]; rfl, hL2⟩
      · have hx0' : decide (s.tg < 0) = false := decide_eq_false hx0
        by_cases hx1 : 65535 < s.tg
        · go_wp2_with fail
          go_ret
          exact ⟨by rw [HF.out (by omega)]; rfl, hL2⟩
        · have hx1' : decide (65535 < s.tg) = false := decide_eq_false hx1
          have HC := Lib.hid (fitR_true (x := s.v) (insR_succ HI.out (show 0 ≤ s.tg by omega) (show s.tg ≤ 65535 by omega)))
          rw [HSG.out] at HC
          replace HC : Hid (canR s.v = if s.gm = 0 ∨ 10 < s.gm then 8 else if (s.gm : Int) ≤ s.le then 5 else canT (s.tl.map Od.v)) := HC
          by_cases hg0 : s.gm = 0
          · have hb0 : decide ((s.gm : Int) = 0) = true := by simp [hg0]
            have HC2 := Lib.hid (HC.out.trans (if_pos (.inl hg0)))
            go_wp2_with fail
            go_ret
            exact ⟨by rw [HC2.out]; rfl, hL2⟩
          · have hb0 : ((s.gm : Int) == 0) = false := by simp [hg0]
            by_cases hg1 : 10 < s.gm
            · have hb1 : decide (10 < (s.gm : Int)) = true := by simp; omega
              have HC2 := Lib.hid (HC.out.trans (if_pos (.inr hg1)))
              go_wp2_with fail
              go_ret
              exact ⟨by rw [HC2.out]; rfl, hL2⟩
            · have hb1 : decide (10 < (s.gm : Int)) = false := by simp; omega
              have HC2 := Lib.hid (HC.out.trans (if_neg (by omega)))
              by_cases hl : (s.gm : Int) ≤ s.le
              · have HC3 := Lib.hid (HC2.out.trans (if_pos hl))
                go_wp2_with fail
                go_ret
                exact ⟨by rw [HC3.out]; rfl, hL2⟩
              · have HC3 := Lib.hid (HC2.out.trans (if_neg hl))
                go_wp2_with fail
                refine (tlcan_any s.tA s.tm s.tc s.tl w2 (by have := HT.out.tm; omega) (HT.out.low hL2).tl).mono ?_
                rintro e w3 ⟨rfl, hB3⟩
                have hL3 := hL2.trans hB3
                clear hB3
                go_wp2_with fail
                go_ret
                exact ⟨by rw [HC3.out]; rfl, hL3⟩
theorem four_sizeR : (Try.prog.info? 63).map (·.size) = some 4 := by kernel_rfl
theorem four_zeroR : (Try.prog.info? 63).map (·.zero) = some (some (.agg ([0, 0, 0, 0].map (Value.int .i64)).toArray)) := by kernel_rfl
set_option maxRecDepth 100000 in
set_option maxHeartbeats 1600000 in
theorem rsrcan_any (s : Sr) (w : World) (hs : s.ok w w.heap.size) : Calls Try.prog 20 #[srV s] w fun e w' => e = .returned (.int .i64 (canR s.v)) ∧ Below w.heap.size w w' := by
  unfold srV
  have HT := Lib.hid hs
  have hgm := hs.gm
  have HSG := Lib.hid (show s.v.sg.length = s.gm from hs.sg.len)
  clear hs
  go_enter Try.func20, Try.ntmps20
  go_wp2_with ((with_reducible refine wpList_box_sr rfl (.tmp 0) rfl s rfl ?_); intro w1 HB hL hz1; refine Hid.out ?_)
  refine Lib.hid ?_
  obtain ⟨c0, c1, c2, c3, c4, c5⟩ := BlkR.cells HB
  replace HB := Lib.hid HB
  clear c4 c5
  go_wp2_with ((with_reducible refine wpList_alloc_v rfl 63 rfl ([0, 0, 0, 0].map (Value.int .i64)) four_zeroR ?_); intro w1' HZ hl2 hz2; refine Hid.out ?_)
  refine Lib.hid ?_
  replace HB := Lib.hid (HB.out.below hl2 HB.out.lt)
  rw [hz1] at HZ hz2
  replace HZ := Lib.hid HZ
  replace hL := hL.trans hl2
  clear hl2 hz1 c0 c1 c2 c3
  have HSV := Lib.hid (show Value.agg ((numsR s.v).map (Value.int .i64)).toArray = Value.agg #[.int .i64 s.nx, .int .i64 s.le, .int .i64 s.fl, .int .i64 s.tg] from rfl)
  have HON := Lib.hid (show ((numsR s.v).map (Value.int .i64)).toArray.all (·.oneCell') = true by simp [numsR, Value.oneCell'])
  go_wp2_with ((refine wpList_store_v rfl 63 (.tmp 3) (.tmp 13) rfl (w.heap.size + 1) rfl ((numsR s.v).map (Value.int .i64)) HSV.out.symm _ _ HZ.out rfl (by rw [four_sizeR]; rfl) HON.out ?_); intro w2 HK hb2 hz2; refine Hid.out ?_)
  refine Lib.hid ?_
  replace HB := Lib.hid (HB.out.below hb2 (by omega))
  have hL2 : Low w w2 := Below.trans hL (hb2.mono (by omega))
  replace HK := Lib.hid HK
  clear HZ hz2 hb2 hL
  go_wp2_with fail
  go_loop [4] (fun i => ∃ k : Nat, k ≤ 4 ∧ i = .int .i64 k ∧ Hid (insR (numsR s.v) k)) (fun i => 4 - (intOf i).toNat)
  case atStart => exact ⟨0, by omega, rfl, Lib.hid (insR_zero _)⟩
  case round =>
    obtain ⟨k, hk, rfl, HI⟩ := hrel
    by_cases hlt : k < 4
    · have h0 : w2.cell? ⟨w.heap.size + 1, k, none⟩ = some (.int .i64 ((numsR s.v).getD k 0)) := by
        rw [HK.out.cell k]
        simp [List.getD, show k < (numsR s.v).length from hlt]
      have HF := Lib.hid (fun h => fitR_false (x := s.v) (k := k) (by omega) h)
      have HS := Lib.hid (fun h0 h1 => insR_succ HI.out (l := numsR s.v) (k := k) h0 h1)
      obtain ⟨tp, htp⟩ : ∃ tp, tp = topR k := ⟨_, rfl⟩
      rw [← htp] at HF HS
      have HTP := Lib.hid htp
      clear htp
      generalize (numsR s.v).getD k 0 = x at *
      by_cases hx0 : x < 0
      · go_wp2_with fail
        go_ret
        exact ⟨by rw [HF.out (by omega)]; rfl, hL2⟩
      · have hx0' : decide (x < 0) = false := decide_eq_false hx0
        by_cases hx1 : 65535 < x
        · have HX := Lib.hid (show canR s.v = 2 from HF.out (by
            have := HTP.out
            unfold topR at this
            split at this <;> omega))
          go_wp2_with fail
          go_ret
          exact ⟨by rw [HX.out]; rfl, hL2⟩
        · have hx1' : decide (65535 < x) = false := decide_eq_false hx1
          by_cases hk3 : k < 3
          · have d3 : decide ((k : Int) < 3) = true := by simp; omega
            have HT3 := Lib.hid (show tp = 255 by rw [HTP.out]; unfold topR; rw [if_neg (by omega)])
            by_cases hx2 : 255 < x
            · have hx2' : decide (255 < x) = true := decide_eq_true hx2
              have HX := Lib.hid (show canR s.v = 2 from HF.out (by rw [HT3.out]; omega))
              go_wp2_with fail
              go_ret
              exact ⟨by rw [HX.out]; rfl, hL2⟩
            · have hx2' : decide (255 < x) = false := decide_eq_false hx2
              have HX := Lib.hid (HS.out (by omega) (by rw [HT3.out]; omega))
              go_wp2_with fail
              go_round
              case rel => exact ⟨k + 1, by omega, by go_num, HX⟩
              case measure => simp [intOf]; omega
          · obtain rfl : k = 3 := by omega
            have HX := Lib.hid (HS.out (by omega) (by rw [HTP.out]; show x ≤ 65535; omega))
            go_wp2_with fail
            go_round
            case rel => exact ⟨4, by omega, by go_num, HX⟩
            case measure => simp [intOf]
    · obtain rfl : k = 4 := by omega
      obtain ⟨c0, c1, c2, c3, c4, c5⟩ := BlkR.cells HB.out
      clear c0 c2 c3
      have HC := Lib.hid (fitR_true (x := s.v) HI.out)
      rw [HSG.out] at HC
      replace HC : Hid (canR s.v = if s.gm = 0 ∨ 10 < s.gm then 8 else if (s.gm : Int) ≤ s.le then 5 else canT (s.tl.map Od.v)) := HC
      by_cases hg0 : s.gm = 0
      · have hb0 : decide ((s.gm : Int) = 0) = true := by simp [hg0]
        have HC2 := Lib.hid (HC.out.trans (if_pos (.inl hg0)))
        go_wp2_with fail
        go_ret
        exact ⟨by rw [HC2.out]; rfl, hL2⟩
      · have hb0 : ((s.gm : Int) == 0) = false := by simp [hg0]
        by_cases hg1 : 10 < s.gm
        · have hb1 : decide (10 < (s.gm : Int)) = true := by simp; omega
          have HC2 := Lib.hid (HC.out.trans (if_pos (.inr hg1)))
          go_wp2_with fail
          go_ret
          exact ⟨by rw [HC2.out]; rfl, hL2⟩
        · have hb1 : decide (10 < (s.gm : Int)) = false := by simp; omega
          have HC2 := Lib.hid (HC.out.trans (if_neg (by omega)))
          by_cases hl : (s.gm : Int) ≤ s.le
          · have HC3 := Lib.hid (HC2.out.trans (if_pos hl))
            go_wp2_with fail
            go_ret
            exact ⟨by rw [HC3.out]; rfl, hL2⟩
          · have HC3 := Lib.hid (HC2.out.trans (if_neg hl))
            go_wp2_with fail
            refine (rtlcan_any s.tA s.tm s.tc s.tl w2 (by have := HT.out.tm; omega) (HT.out.low hL2).tl).mono ?_
            rintro e w3 ⟨rfl, rfl⟩
            go_wp2_with fail
            go_ret
            exact ⟨by rw [HC3.out]; rfl, hL2⟩
end Go.Proofs.Ytnfiijbnfmcpjaa
