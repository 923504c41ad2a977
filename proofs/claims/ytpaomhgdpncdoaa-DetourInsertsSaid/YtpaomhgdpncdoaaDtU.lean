/- The document's Insert. Condition: at most 2^47 - 4096 bytes, others and parts. -/
import Derived.Test.YtpaomhgdpncdoaaDtT
import Derived.Test.YtpaomhgdpncdoaaJSrA
namespace Go.Proofs.Ytpaomhgdpncdoaa
open Go.RowKit
set_option linter.unusedVariables false

/-- the segments behind j rounds: the last one, and j others, the last ones first -/
def segJ (l : List (List Int)) (d : List Int) (j : Nat) : List (List Int) := d :: (l.drop (l.length - j)).reverse
theorem segJ_zero (l : List (List Int)) (d : List Int) : segJ l d 0 = [d] := by unfold segJ; simp
theorem segJ_all (l : List (List Int)) (d : List Int) : segJ l d l.length = (l ++ [d]).reverse := by unfold segJ; simp
theorem segJ_next (l : List (List Int)) (d : List Int) {j : Nat} (hj : j < l.length) : segJ l d (j + 1) = segJ l d j ++ [l.getD (l.length - 1 - j) zero16] := by
  unfold segJ
  have e : l.drop (l.length - (j + 1)) = l.getD (l.length - 1 - j) zero16 :: l.drop (l.length - j) := by
    have h := List.drop_eq_getElem_cons (l := l) (i := l.length - (j + 1)) (by omega)
    rw [h, show l.length - (j + 1) + 1 = l.length - j by omega]
    congr 1
    simp [List.getD, show l.length - (j + 1) = l.length - 1 - j by omega, show l.length - 1 - j < l.length by omega]
  rw [e, List.reverse_cons]
  rfl
theorem OwnA.block {t : TypeId} {w : World} {base n c : Nat} {A : Option Addr} {l : List (List Int)} (h : OwnA t w base A n c l) : ∀ k, (Value.slice A n c).ownBlock = some k → ∃ cs z, w.heap[k]? = some (.cells cs t z) := fun k hk => by
  rcases h.1.2 with ⟨e, _⟩ | ⟨g, cap, cur, hv, hbg, hg, r⟩
  · rw [e] at hk; simp [Value.ownBlock] at hk
  · rw [hv] at hk
    simp [Value.ownBlock] at hk
    subst hk
    exact ⟨_, _, hg⟩
theorem OwnA.ne {t t2 : TypeId} {w : World} {base n c g : Nat} {A : Option Addr} {l : List (List Int)} {vs : List Value} (h : OwnA t w base A n c l) (hb : BlkV w t2 g vs) (ht : t ≠ t2) : (Value.slice A n c).ownBlock ≠ some g := fun e => by
  obtain ⟨cs, z, hc⟩ := h.block g e
  have h2 : w.heap[g]? = some (.cells vs.toArray t2 (0, 0)) := hb
  rw [h2] at hc
  injection hc with hc
  injection hc with _ h3 _
  exact ht h3.symm
theorem OwnA.elsewhere {t : TypeId} {w w' : World} {base n c : Nat} {A : Option Addr} {l : List (List Int)} (h : OwnA t w base A n c l) (hk : ∀ k, (Value.slice A n c).ownBlock = some k → w'.heap[k]? = w.heap[k]?) : OwnA t w' base A n c l := by
  refine ⟨⟨h.1.1, ?_⟩, h.2⟩
  rcases h.1.2 with e | ⟨g, cap, cur, hv, hbg, hg, r⟩
  · exact .inl e
  · exact .inr ⟨g, cap, cur, hv, hbg, by rw [hk g (by rw [hv]; rfl)]; exact hg, r⟩
theorem OwnA.ofBlk {t : TypeId} {w : World} {g : Nat} {s : List Int} (h : Blk w t g s) (hs : s.length = 16) (ha : AllB s) {base : Nat} (hb : base ≤ g) : OwnA t w base (some ⟨g, 0, none⟩) 1 1 [s] :=
  ⟨⟨by simp [cellsB_length, hs], .inr ⟨g, 1, (cellsB s).toArray, rfl, hb, h, Nat.le_refl _, by simp [maxLen], by simp [cellsB_length, hs], by simp [List.take_of_length_le, cellsB_length, hs]⟩⟩, .cons hs ha .nil, rfl⟩
section
variable (A : Option Addr) (n c : Nat) (xs : List Int) (vA : Option Addr) (m vc : Nat) (l : List (List Int)) (tA : Option Addr) (tn tc : Nat) (os : List Od) (w : World)
    (hn : n ≤ 140737488351232) (hc : n ≤ c) (hc2 : c ≤ 9223372036854775807) (hb : Bs w w.heap.size A n xs) (hm : m ≤ 140737488351232) (hv : As w w.heap.size vA m l) (ht : tn ≤ 140737488351232) (hp : Os w w.heap.size tA tn os)
include hn hc hc2 hb hm hv ht hp
set_option maxHeartbeats 6400000 in
set_option maxRecDepth 100000 in
theorem rinsert_any : Calls Try.prog 16 #[.slice A n c, .slice vA m vc, .slice tA tn tc] w fun e w' => GivesR w (insL xs l (os.map Od.v)).length (insL xs l (os.map Od.v)) (insE xs l (os.map Od.v)) e w' := by
  obtain ⟨i0, hi, hz0, hz1, hz2⟩ := info_parts info5
  have HI := Lib.hid (And.intro hi (And.intro hz0 (And.intro hz1 hz2)))
  clear hi hz0 hz1 hz2
  have HB := Lib.hid hb
  have HVI := Lib.hid hv
  have HP := Lib.hid hp
  have HIL := Lib.hid (show insL xs l (os.map Od.v) = if insE xs l (os.map Od.v) = 0 then headL (sizedH (((putR (viaR xs l (os.map Od.v))).length + (xs.length - 40) : Nat) : Int) (viaH xs l)) ++ (putR (viaR xs l (os.map Od.v)) ++ xs.drop 40) else [] from rfl)
  clear hb hv hp
  go_enter Try.func16, Try.ntmps16
  go_wp2_with fail
  refine (rhead_any A n c xs w hn HB.out).mono ?_
  rintro e w3 ⟨rfl, hL⟩
  replace hL : Low w w3 := hL
  have hWOK : (wholeH xs).ok := by
    unfold wholeH
    split
    · rename_i h; exact getL_ok HB.out.all (wholeE_zero h).2.1
    · exact zeroH_ok
  obtain ⟨h, hh⟩ : ∃ h, h = wholeH xs := ⟨_, rfl⟩
  obtain ⟨er, her⟩ : ∃ er, er = wholeE xs := ⟨_, rfl⟩
  rw [← hh] at hWOK ⊢
  rw [← her]
  have HER := Lib.hid her.symm
  have HHW := Lib.hid (show er = 0 → h = getL xs from fun e => by rw [hh]; unfold wholeH; rw [if_pos (her.symm.trans e)])
  have HO := Lib.hid hWOK
  have HS := Lib.hid HO.out.s
  have HD := Lib.hid HO.out.d
  unfold headV
  clear hh her hWOK
  go_wp2_with ((with_reducible refine wpList_alloc_v rfl 41 rfl (headC zeroH) (by kernel_rfl) ?_); intro w4 HZ4 hl4 hz4; refine Hid.out ?_)
  refine Lib.hid ?_
  clear hz4
  replace HZ4 := Lib.hid HZ4
  have HLl4 := Lib.hid hl4
  clear hl4
  go_wp2_with ((with_reducible refine wpList_store_headB rfl (.tmp 8) (.tmp 17) rfl w3.heap.size rfl h rfl zeroH HZ4.out rfl rfl HS.out HD.out ?_); intro w6 HG6 hb6 hz6 ho6; refine Hid.out ?_)
  refine Lib.hid ?_
  have hL5 : Low w3 w6 := Below.trans HLl4.out hb6
  have hsz3 := hL.size
  replace hL := hL.trans hL5
  have c3 := HG6.cell 3
  replace c3 : _ = some (Value.int .i64 h.nx) := c3
  have hg3 : w3.heap.size < w6.heap.size := HG6.lt
  replace HG6 := Lib.hid HG6
  clear hb6 hz6 ho6 HZ4 HLl4 hL5
  generalize w3.heap.size = g8 at *
  by_cases he : er = 0
  · subst he
    have hgl := HHW.out rfl
    obtain ⟨_, h40, _, _, hln⟩ := wholeE_zero HER.out
    rw [← hgl] at hln
    rw [HB.out.len] at h40 hln
    have HVL := Lib.hid HVI.out.len
    have HH := Lib.hid hgl
    have HCan := Lib.hid (show canB h = true by rw [hgl]; exact getL_can HB.out.all)
    have HLN := Lib.hid hln
    clear hgl hln
    by_cases hk : h.nx = 43 ∨ h.nx = 0
    · have HQ := Lib.hid (insE_kind (l := l) (tl := os.map Od.v) HER.out (by rw [← HH.out]; exact hk))
      have HR2 := Lib.hid (show insL xs l (os.map Od.v) = [] by rw [HIL.out, if_neg (by rw [HQ.out]; decide)])
      have HC3 := Lib.hid c3
      clear c3
      rcases hk with hk | hk
      all_goals
        have c3 := HC3.out
        rw [hk] at c3
        go_wp2_with fail
        go_ret2
        rw [HR2.out]
        exact ⟨none, 0, by rw [HQ.out]; rfl, Nat.le_refl _, by omega, Bs.nil _ _ _, hL⟩
    · have hk1 : (h.nx == 43) = false := by simp; omega
      have hk2 : (h.nx == 0) = false := by simp; omega
      have HK2 : Hid (¬ ((getL xs).nx = 43 ∨ (getL xs).nx = 0)) := Lib.hid (by rw [← HH.out]; exact hk)
      clear hk
      by_cases hmm : m = 0 ∨ 9 < m
      · have HQ := Lib.hid (insE_many (tl := os.map Od.v) HER.out HK2.out (by rw [HVL.out]; exact hmm))
        have HR2 := Lib.hid (show insL xs l (os.map Od.v) = [] by rw [HIL.out, if_neg (by rw [HQ.out]; decide)])
        rcases hmm with hmm | hmm
        · subst hmm
          go_wp2_with fail
          go_ret2
          rw [HR2.out]
          exact ⟨none, 0, by rw [HQ.out]; rfl, Nat.le_refl _, by omega, Bs.nil _ _ _, hL⟩
        · have hm0 : ((m : Int) == 0) = false := by simp; omega
          have hm9 : decide ((9 : Int) < m) = true := decide_eq_true (by omega)
          go_wp2_with fail
          go_ret2
          rw [HR2.out]
          exact ⟨none, 0, by rw [HQ.out]; rfl, Nat.le_refl _, by omega, Bs.nil _ _ _, hL⟩
      · have hm0 : ((m : Int) == 0) = false := by simp; omega
        have hm9 : decide ((9 : Int) < m) = false := decide_eq_false (by omega)
        have hM0 : 0 < m := by omega
        have hM9 : m ≤ 9 := by omega
        have HMM := Lib.hid (show ¬ (l.length = 0 ∨ 9 < l.length) by rw [HVL.out]; exact hmm)
        clear hmm
        go_wp2_with (first
          | (with_reducible refine wpList_load_at rfl (.tmp 42) rfl g8 21 rfl h.d HD.out (BlkV.atDst HG6.out HS.out) ?_)
          | ((with_reducible refine wpList_one_addr rfl (.tmp 43) rfl h.d rfl HD.out ?_); intro w7 HK7 hl7 hz7; refine Hid.out ?_))
        refine Lib.hid ?_
        have hszl6 := hL.size
        have hsz7 := hl7.size
        have HOA := Lib.hid (OwnA.ofBlk (base := w6.heap.size) HK7 HD.out HO.out.vd (Nat.le_refl _))
        have hgd : w6.heap.size < w7.heap.size := HK7.lt
        have hL7 := hL.trans hl7
        have HG7 := Lib.hid (HG6.out.below hl7 HG6.out.lt)
        have hbv := run_build_via h.nx (m : Nat) (some ⟨w6.heap.size, 0, none⟩) tA 1 1 tn tc w7
        clear HK7 hl7 hz7 HG6 hm0 hm9 c3 hk1 hk2
        go_wp2_with ((with_reducible refine wpList_alloc_sr rfl rfl ?_); intro w8 HZ8 hl8 hz8; refine Hid.out ?_)
        refine Lib.hid ?_
        replace HZ8 := Lib.hid HZ8
        clear hz8 hbv
        go_wp2_with (refine wpList_store_srB rfl (.tmp 10) (.tmp 46) rfl w7.heap.size rfl ⟨h.nx, (m : Nat), 0, 0, some ⟨w6.heap.size, 0, none⟩, 1, 1, [h.d], tA, tn, tc, os⟩ rfl zeroSr HZ8.out ?_; intro w9 HG9 hb9 hz9 ho9; refine Hid.out ?_)
        refine Lib.hid ?_
        have hl9 : Low w7 w9 := Below.trans hl8 hb9
        replace HOA := Lib.hid (HOA.out.below hl9)
        have hL9 := hL7.trans hl9
        replace HG7 := Lib.hid (HG7.out.below hl9 HG7.out.lt)
        have hg9 : w7.heap.size < w9.heap.size := HG9.lt
        replace HG9 := Lib.hid HG9
        have hg8l : g8 < w6.heap.size := hg3
        clear hl8 hb9 hz9 ho9 HZ8 hl9 hL hL7
        generalize w7.heap.size = g10 at *
        have hwm : IntKind.i64.wrap ((m : Int) - 1) = (m : Int) - 1 := wraps_i64 _ (by omega) (by omega)
        generalize w6.heap.size = gd at *
        obtain ⟨bv, ov, rfl, hbv, hcv⟩ := HVI.out.mem hM0
        clear hcv
        go_wp2_with fail
        clear hwm
        have hre := Lib.hid (Below.refl gd w9)
        have HS0 : Hid (OwnA 39 w9 gd (some ⟨gd, 0, none⟩) (0 + 1) 1 (segJ l h.d 0)) := Lib.hid (by rw [segJ_zero]; exact HOA.out)
        have HG90 : Hid (BlkR w9 g10 ⟨h.nx, (m : Nat), 0, 0, some ⟨gd, 0, none⟩, 0 + 1, 1, segJ l h.d 0, tA, tn, tc, os⟩) := Lib.hid (by rw [segJ_zero]; exact HG9.out)
        go_loopw [11] (fun i wr => ∃ j : Nat, j ≤ m ∧ i = .int .i64 ((m : Int) - 1 - j) ∧ ∃ (A' : Option Addr) (c' : Nat), Hid (OwnA 39 wr gd A' (j + 1) c' (segJ l h.d j)) ∧ Hid (BlkR wr g10 ⟨h.nx, (m : Nat), 0, 0, A', j + 1, c', segJ l h.d j, tA, tn, tc, os⟩) ∧ Hid (Below gd w9 wr) ∧ g10 < wr.heap.size) (fun i _ => (intOf i + 1).toNat)
        case atStart => exact ⟨0, Nat.zero_le _, by go_num, _, _, HS0, HG90, hre, hg9⟩
        case round =>
          clear HS0 HG90 hre HOA HG9
          obtain ⟨j, hj, rfl, A', c', HOA, HG, HBR, hgw⟩ := hrel
          have hLr : Low w wr := Below.trans hL9 (HBR.out.mono (by omega))
          by_cases hlt : j < m
          · obtain ⟨k, hk⟩ : ∃ k : Nat, k = m - 1 - j := ⟨_, rfl⟩
            have hki : (m : Int) - 1 - (j : Int) = (k : Int) := by omega
            have hkm : k < m := by omega
            have hkj : k + j + 1 = m := by omega
            have HSN := Lib.hid (segJ_next l h.d (j := j) (by rw [HVL.out]; exact hlt))
            rw [HVL.out, ← hk] at HSN
            rw [hki]
            have HKJ := Lib.hid hkj
            have hrg := (HVI.out.at_ hkm).2
            obtain ⟨x16, xa⟩ := HVI.out.all.getD k
            obtain ⟨x, hx⟩ : ∃ x, x = l.getD k zero16 := ⟨_, rfl⟩
            rw [← hx] at HSN hrg x16 xa
            have HRG := Lib.hid hrg
            have HX16 := Lib.hid x16
            clear hk hki hkj hx hrg
            go_wp2_with fail
            refine wp_region_planN (fun y => Low w y) (.rd 0 (.rd 2 (.rd 3 (.rd 4 (.rd 5 (.fork 1 (.act 6 (.act 7 (.rd 8 (.act 9 (.done))))) 6 (.act 1 (.act 7 (.rd 8 (.act 9 (.done)))))))))))
              (by kernel_rfl) (by kernel_rfl) (by kernel_rfl) (Below.drew hLr) ?_
            replace HOA : Hid (OwnA 39 wr.drew gd A' (j + 1) c' (segJ l h.d j)) := Lib.hid (HOA.out.below (Below.drew (Below.refl _ _)))
            replace HG : Hid (BlkR wr.drew g10 ⟨h.nx, (m : Nat), 0, 0, A', j + 1, c', segJ l h.d j, tA, tn, tc, os⟩) := HG
            replace HBR := Lib.hid (show Below gd w9 wr.drew from Below.drew HBR.out)
            replace hLr : Low w wr.drew := Below.drew hLr
            replace hgw : g10 < wr.drew.heap.size := hgw
            generalize wr.drew = w2 at *
            iterate 5 (refine walkS_read (v := _) rfl (by rfl) (by intro y hy; first | exact exec_load_at (b := bv) (p := ov + k * 16) rfl HX16.out (rangeAt_below HRG.out hy hbv) | (go_simp; try rfl)) ?_; simp only [Act.put, List.setIfInBounds_toArray, List.set_cons_zero, List.set_cons_succ])
            refine walkS_forkD ?fa ?fb
            case' fb =>
              refine walkS_act rfl (by rfl) (fun K hK => ?_)
              refine wp_one_addrD (.tmp 59) rfl x rfl HX16.out ?_
              have hl := Low.alloc w2 (.cells (cellsB x).toArray 39)
              have HON := Lib.hid (As.one_ w2 39 x HX16.out xa (B := (w2.alloc (.cells (cellsB x).toArray 39)).heap.size) (by simp))
              have HOA3 := Lib.hid (HOA.out.below hl)
              have HG3 := Lib.hid (HG.out.below hl HG.out.lt)
              have hLr3 := hLr.trans hl
              have HBR3 := Lib.hid (HBR.out.trans (hl.mono (show gd ≤ w2.heap.size by omega)))
              have hgw3 := Nat.lt_of_lt_of_le hgw hl.size
              refine hK _ _ hLr3 ?_
              clear hK K hl
              simp only [Act.put, List.setIfInBounds_toArray, List.set_cons_zero, List.set_cons_succ]
              generalize w2.alloc (.cells (cellsB x).toArray 39) = w3 at *
              generalize w2.heap.size = g2 at *
              refine walkS_act rfl (by rfl) (fun K hK => ?_)
              have c4 := (BlkR.cells HG3.out).2.2.2.2.1
              dsimp only at c4
              go_simp
              refine hK _ _ hLr3 ?_
              clear hK K c4
            case' fa =>
              refine walkS_act rfl (by rfl) (fun K hK => ?_)
              have c4 := (BlkR.cells HG.out).2.2.2.2.1
              dsimp only at c4
              go_simp
              refine hK _ _ hLr ?_
              clear hK K c4
              refine walkS_act rfl (by rfl) (fun K hK => ?_)
              refine wp_one_addrD (.tmp 59) rfl x rfl HX16.out ?_
              have hl := Low.alloc w2 (.cells (cellsB x).toArray 39)
              have HON := Lib.hid (As.one_ w2 39 x HX16.out xa (B := (w2.alloc (.cells (cellsB x).toArray 39)).heap.size) (by simp))
              have HOA3 := Lib.hid (HOA.out.below hl)
              have HG3 := Lib.hid (HG.out.below hl HG.out.lt)
              have hLr3 := hLr.trans hl
              have HBR3 := Lib.hid (HBR.out.trans (hl.mono (show gd ≤ w2.heap.size by omega)))
              have hgw3 := Nat.lt_of_lt_of_le hgw hl.size
              refine hK _ _ hLr3 ?_
              clear hK K hl
              simp only [Act.put, List.setIfInBounds_toArray, List.set_cons_zero, List.set_cons_succ]
              generalize w2.alloc (.cells (cellsB x).toArray 39) = w3 at *
              generalize w2.heap.size = g2 at *
            all_goals
              obtain ⟨ia, hia, iz0, iz1, iz2⟩ := info_parts info_addrR
              refine walkS_act rfl (by rfl) (fun K hK => ?_)
              refine wp_append_as (.tmp 55) (.tmp 60) 23 rfl gd 39 ia Try.underlying23 hia iz0 iz1 iz2 A' (j + 1) c' (segJ l h.d j) rfl HOA3.out (some ⟨g2, 0, none⟩) 1 1 w3.heap.size [x] rfl HON.out (by omega) (by omega) ?_
              intro A5 c5 w5 ho5 hgr hob
              have hltA := HOA3.out.lt
              have hne := HOA3.out.ne HG3.out (by decide)
              have hB5 := HBR3.out.grown hgr (by omega) fun k e => (hltA k e).1
              have hL5 := hLr3.grown hgr (by omega) fun k e => by have := (hltA k e).1; omega
              have HG5 := Lib.hid (show BlkR w5 g10 ⟨h.nx, (m : Nat), 0, 0, A', j + 1, c', segJ l h.d j, tA, tn, tc, os⟩ from (hgr.block g10 hgw3 (fun e => hne e.symm)).trans HG3.out)
              have hgw5 := Nat.lt_of_lt_of_le hgw3 hgr.size
              rw [← HSN.out] at ho5
              refine hK _ _ hL5 ?_
              clear hK K hia iz0 iz1 iz2 hgr hob hltA hne HOA3 HG3 HON
              simp only [Act.put, List.setIfInBounds_toArray, List.set_cons_zero, List.set_cons_succ]
              refine walkS_read (v := _) rfl (by rfl) (by intro y hy; go_simp; try rfl) ?_
              simp only [Act.put, List.setIfInBounds_toArray, List.set_cons_zero, List.set_cons_succ]
              refine walkS_act rfl (by rfl) (fun K hK => ?_)
              have c4 := (BlkR.cells HG5.out).2.2.2.2.1
              have f4 := HG5.out.frozen 4
              dsimp only at c4
              go_simp
              have HG6' : Hid (BlkR (w5.setCell ⟨g10, 4, none⟩ (.slice A5 (j + 1 + 1) c5)) g10 ⟨h.nx, (m : Nat), 0, 0, A5, j + 1 + 1, c5, segJ l h.d (j + 1), tA, tn, tc, os⟩) := Lib.hid (BlkV.set_ HG5.out 4 (.slice A5 (j + 1 + 1) c5))
              have hne5 := ho5.ne HG5.out (by decide)
              have HOA6 := Lib.hid (ho5.elsewhere (w' := w5.setCell ⟨g10, 4, none⟩ (.slice A5 (j + 1 + 1) c5)) (fun k hk => setCell_others w5 ⟨g10, 4, none⟩ _ k (fun e => hne5 (by rw [hk, e]))))
              have hL6 : Low w (w5.setCell ⟨g10, 4, none⟩ (.slice A5 (j + 1 + 1) c5)) := hL5.setCell (p := ⟨g10, 4, none⟩) (by show w.heap.size ≤ g10; omega) _
              have HB6 := Lib.hid (hB5.setCell (p := ⟨g10, 4, none⟩) (by show gd ≤ g10; omega) (.slice A5 (j + 1 + 1) c5))
              have hgw6 : g10 < (w5.setCell ⟨g10, 4, none⟩ (.slice A5 (j + 1 + 1) c5)).heap.size := by simpa using hgw5
              refine hK _ _ hL6 ?_
              clear hK K c4 f4 hne5 ho5 HG5 hB5 hL5
              try simp only [Act.put]
              generalize w5.setCell ⟨g10, 4, none⟩ (.slice A5 (j + 1 + 1) c5) = w6x at *
              refine walkS_done ?_
              have hwk : IntKind.i64.wrap ((k : Int) - 1) = (k : Int) - 1 := by
                rcases Nat.eq_zero_or_pos k with e | e
                · subst e; rfl
                · exact wraps_i64 _ (by omega) (by omega)
              go_wp2_with fail
              exact ⟨⟨j + 1, by omega, congrArg (Value.int .i64) (by have := HKJ.out; omega), _, _, HOA6, HG6', HB6, hgw6⟩, by simp [intOf]⟩
          · obtain rfl : j = m := by omega
            have hki : (j : Int) - 1 - (j : Int) = -1 := by omega
            rw [hki]
            have HSA := Lib.hid (show segJ l h.d j = (l ++ [h.d]).reverse by rw [← HVL.out]; exact segJ_all l h.d)
            rw [HSA.out] at HOA HG
            obtain ⟨sp, hsp⟩ : ∃ sp : Sr, sp = ⟨h.nx, (j : Nat), 0, 0, A', j + 1, c', (l ++ [h.d]).reverse, tA, tn, tc, os⟩ := ⟨_, rfl⟩
            have HR := Lib.hid (show sp.v = viaR xs l (os.map Od.v) by rw [hsp]; unfold viaR; rw [HVL.out, ← HH.out]; rfl)
            have HSok := Lib.hid (show sp.ok wr wr.heap.size by rw [hsp]; exact ⟨HO.out.nx, by unfold i64ok; dsimp only; omega, by unfold i64ok; dsimp only; omega, by unfold i64ok; dsimp only; omega, by dsimp only; omega, HOA.out.lies (Nat.le_refl _), ht, HP.out.below' hLr hLr.size⟩)
            rw [← hsp] at HG
            have HG8w := Lib.hid (HG7.out.below HBR.out (show g8 < gd by omega))
            clear hki hsp HSA HOA HG7 HBR
            go_wp2_with (with_reducible refine wpList_load_sr rfl (.tmp 10) rfl g10 rfl sp HG.out ?_)
            refine (rsrput_any sp wr HSok.out).mono ?_
            rintro e w9b ⟨A9, c9, rfl, ho9, hl9⟩
            rw [HR.out] at ho9 ⊢
            have hL10 := hLr.trans (show Low wr w9b from hl9)
            have HG9c := Lib.hid (HG8w.out.below hl9 HG8w.out.lt)
            have hp424 : (putR (viaR xs l (os.map Od.v))).length ≤ 424 := putR_len_le (by rw [← HR.out]; exact HSok.out.sg.all)
            obtain ⟨r, hr⟩ : ∃ r, r = viaR xs l (os.map Od.v) := ⟨_, rfl⟩
            rw [← hr] at ho9 HIL hp424 ⊢
            have HRR := Lib.hid hr
            clear hr HG hl9 HSok HG8w hLr HR
            obtain ⟨ps, hps⟩ : ∃ ps, ps = putR r := ⟨_, rfl⟩
            rw [← hps] at ho9 HIL hp424 ⊢
            have HPS := Lib.hid hps
            clear hps
            obtain ⟨z, hz⟩ : ∃ z, z = ps.length := ⟨_, rfl⟩
            rw [← hz] at ho9 HIL hp424 ⊢
            have HZL := Lib.hid hz.symm
            clear hz
            obtain ⟨er, her⟩ : ∃ er, er = canR r := ⟨_, rfl⟩
            rw [← her]
            have HCR := Lib.hid her.symm
            clear her
            by_cases hcan : er = 0
            · subst hcan
              have HRN := Lib.hid (show insE xs l (os.map Od.v) = if 1500 < n + z then 4 else 0 by
                by_cases h5 : 1500 < n + z
                · rw [if_pos h5]; exact insE_long HER.out HK2.out HMM.out (by rw [← HRR.out]; exact HCR.out) (by rw [← HRR.out, ← HPS.out, HZL.out, HB.out.len]; exact h5)
                · rw [if_neg h5]; exact insE_ok HER.out HK2.out HMM.out (by rw [← HRR.out]; exact HCR.out) (by rw [← HRR.out, ← HPS.out, HZL.out, HB.out.len]; exact h5))
              have HO9 := Lib.hid ho9
              have hg8r : g8 < wr.heap.size := by omega
              have hwz : IntKind.i64.wrap ((n : Int) + (z : Int)) = (n : Int) + (z : Int) := wraps_i64 _ (by omega) (by omega)
              clear ho9
              by_cases h15 : 1500 < n + z
              · have HQ := Lib.hid (HRN.out.trans (if_pos h15))
                have HR2 := Lib.hid (show insL xs l (os.map Od.v) = [] by rw [HIL.out, if_neg (by rw [HQ.out]; decide)])
                have hd15 : decide ((1500 : Int) < (n : Int) + (z : Int)) = true := decide_eq_true (by omega)
                go_wp2_with fail
                go_ret2
                rw [HR2.out]
                exact ⟨none, 0, by rw [HQ.out]; rfl, Nat.le_refl _, by omega, Bs.nil _ _ _, hL10⟩
              · have HQ := Lib.hid (HRN.out.trans (if_neg h15))
                have HR2 := Lib.hid (HIL.out.trans (if_pos HQ.out))
                have hd15 : decide ((1500 : Int) < (n : Int) + (z : Int)) = false := decide_eq_false (by omega)
                go_wp2_with fail
                have hrv : w.rangeAt bv ov (cellsB (l.getD 0 zero16)) := by have h := (HVI.out.at_ hM0).2; rwa [Nat.zero_mul, Nat.add_zero] at h
                obtain ⟨v16, va⟩ := HVI.out.all.getD 0
                obtain ⟨hVO, hVC⟩ := viaH_ok (l := l) HB.out.all (by rw [HB.out.len]; exact h40) HVI.out.all
                have HVH := Lib.hid (show viaH xs l = toH (l.getD 0 zero16) (setNx 43 h) by rw [HH.out]; rfl)
                obtain ⟨v0, hv0⟩ : ∃ v0, v0 = l.getD 0 zero16 := ⟨_, rfl⟩
                rw [← hv0] at hrv v16 va HVH
                have HLH := HLN.out
                have hwl : IntKind.i64.wrap (h.ln + (z : Int)) = h.ln + (z : Int) := wraps_i64 _ (by omega) (by omega)
                have HVO := Lib.hid hVO
                have HVC := Lib.hid hVC
                clear hv0 hd15 HLH hwz hVO hVC
                refine wp_region_planS (fun y => Low w y) (.rd 0 (.rd 1 (.rd 2 (.rd 3 (.rd 5 (.rd 6 (.act 4 (.rd 7 (.rd 8 (.act 9 (.rd 10 (.act 11 (.rd 12 (.act 13 (.done)))))))))))))))
                  (by kernel_rfl) (by kernel_rfl) (fun _ _ d _ _ h => by cases d <;> exact h) (by kernel_rfl) (Below.drew hL10) ?_
                replace HG9c : Hid (BlkH w9b.drew g8 h) := HG9c
                replace HO9 := Lib.hid (HO9.out.others (w' := w9b.drew) (fun _ _ => rfl))
                replace hL10 : Low w w9b.drew := Below.drew hL10
                generalize w9b.drew = w10 at *
                iterate 6 (refine walkS_read (v := _) rfl (by rfl) (by intro y hy; first | exact exec_load_at rfl v16 (rangeAt_below hrv hy hbv) | (go_simp; try rfl)) ?_; simp only [Act.put, List.setIfInBounds_toArray, List.set_cons_zero, List.set_cons_succ])
                refine walkS_act rfl (by rfl) (fun K hK => ?_)
                have c2 := HG9c.out.cell 2
                replace c2 : _ = some (Value.int .i64 h.ln) := c2
                go_simp
                refine hK _ _ hL10 ?_
                clear hK K c2
                iterate 2 (refine walkS_read (v := _) rfl (by rfl) (by intro y hy; go_simp; try rfl) ?_; simp only [Act.put, List.setIfInBounds_toArray, List.set_cons_zero, List.set_cons_succ])
                refine walkS_act rfl (by rfl) (fun K hK => ?_)
                have c3 := HG9c.out.cell 3
                replace c3 : _ = some (Value.int .i64 h.nx) := c3
                have f3 := HG9c.out.frozen 3
                go_simp
                have hlo : w.heap.size ≤ g8 := by omega
                have HG11 : Hid (BlkH (w10.setCell ⟨g8, 3, none⟩ (.int .i64 43)) g8 (setNx 43 h)) := Lib.hid (BlkV.set_ HG9c.out 3 (.int .i64 43))
                have hL11 : Low w (w10.setCell ⟨g8, 3, none⟩ (.int .i64 43)) := hL10.setCell (p := ⟨g8, 3, none⟩) hlo _
                have HB11 := Lib.hid (HO9.out.others (fun k hk => setCell_others w10 ⟨g8, 3, none⟩ (.int .i64 43) k (by show k ≠ g8; omega)))
                refine hK _ _ hL11 ?_
                clear hK K c3 f3 HG9c hL10 HO9
                generalize w10.setCell ⟨g8, 3, none⟩ (.int .i64 43) = w11 at *
                refine walkS_read (v := _) rfl (by rfl) (by intro y hy; go_simp; try rfl) ?_
                simp only [Act.put, List.setIfInBounds_toArray, List.set_cons_zero, List.set_cons_succ]
                refine walkS_act rfl (by rfl) (fun K hK => ?_)
                refine wp_store_dst (.tmp 86) (.tmp 79) rfl g8 rfl v0 rfl (setNx 43 h) HG11.out HS.out HD.out v16 (fun HG12 => ?_)
                have hL12 : Low w (w11.setCells g8 21 (cellsB v0)) := low_setMid hlo (cellsB v0) 21 w11 w hL11
                have HB12 := Lib.hid (HB11.out.others (fun k hk => setCells_others (g := g8) (cellsB v0) 21 w11 k (show k ≠ g8 by omega)))
                refine hK _ _ hL12 ?_
                rw [← HVH.out] at HG12
                replace HG12 := Lib.hid HG12
                clear hK K HG11 hL11 HB11
                simp only [Act.put]
                generalize w11.setCells g8 21 (cellsB v0) = w12 at *
                refine walkS_read (v := _) rfl (by rfl) (by intro y hy; go_simp; try rfl) ?_
                simp only [Act.put, List.setIfInBounds_toArray, List.set_cons_zero, List.set_cons_succ]
                refine walkS_act rfl (by rfl) (fun K hK => ?_)
                have c2 := HG12.out.cell 2
                replace c2 : _ = some (Value.int .i64 (viaH xs l).ln) := c2
                have f2 := HG12.out.frozen 2
                go_simp
                have HG13 : Hid (BlkH (w12.setCell ⟨g8, 2, none⟩ (.int .i64 (h.ln + z))) g8 (sizedH (h.ln + z) (viaH xs l))) := Lib.hid (BlkV.set_ HG12.out 2 (.int .i64 (h.ln + z)))
                have hL13 : Low w (w12.setCell ⟨g8, 2, none⟩ (.int .i64 (h.ln + z))) := hL12.setCell (p := ⟨g8, 2, none⟩) hlo _
                have HB13 := Lib.hid (HB12.out.others (fun k hk => setCell_others w12 ⟨g8, 2, none⟩ (.int .i64 (h.ln + z)) k (by show k ≠ g8; omega)))
                refine hK _ _ hL13 ?_
                clear hK K c2 f2 HG12 hL12 HB12 hrv v16 va HVH hwl
                try simp only [Act.put]
                generalize w12.setCell ⟨g8, 2, none⟩ (.int .i64 (h.ln + z)) = w13 at *
                unfold walkS
                have hlnn : h.ln + (z : Int) = ((z + (n - 40) : Nat) : Int) := by have := HLN.out; omega
                rw [hlnn] at HG13
                have H15 := Lib.hid h15
                clear hlnn h15
                go_wp2_with fail
                obtain ⟨b, o, rfl, hbl, hcc⟩ := HB.out.mem (by omega)
                obtain ⟨A2, hs2, hA2⟩ := slc_from b o n c 40 40 hc rfl h40
                have HB2 := Lib.hid (HB.out.cutFrom h40 hA2)
                have HS2 := Lib.hid hs2
                rw [HB.out.len] at HR2
                obtain ⟨h3, hh3⟩ : ∃ h3, h3 = sizedH ((z + (n - 40) : Nat) : Int) (viaH xs l) := ⟨_, rfl⟩
                have HO3 := Lib.hid (show h3.ok by rw [hh3]; exact sizedH_ok HVO.out (by unfold i64ok; omega))
                have HPL := Lib.hid (show putL h3 = headL h3 by rw [hh3]; exact putL_yes (sizedH_can HVC.out (by omega) (by have := H15.out; omega)))
                rw [← hh3] at HG13 HR2
                have HHL := Lib.hid (headL_length HO3.out)
                have hdl : Hid ((xs.drop 40).length = n - 40) := Lib.hid (by rw [List.length_drop, HB.out.len])
                clear hs2 hA2 hcc hbl hh3
                refine wp_region_planS (fun y => BlkH y g8 h3) (.rd 0 (.rd 2 (.rd 4 (.rd 5 (.act 1 (.act 3 (.act 6 (.rd 7 (.rd 8 (.done))))))))))
                  (by kernel_rfl) (by kernel_rfl) (fun _ _ d _ _ h => by cases d <;> exact h) (by kernel_rfl) HG13.out ?_
                replace HG13 : Hid (BlkH w13.drew g8 h3) := HG13
                replace hL13 : Low w w13.drew := Below.drew hL13
                replace HB13 := Lib.hid (HB13.out.others (w' := w13.drew) (fun _ _ => rfl))
                generalize w13.drew = w14 at *
                have i40 : (40 : Int) ≤ n := by omega
                iterate 4 (refine walkS_read (v := _) rfl (by rfl) (by intro y hy; first | exact exec_load_head rfl hy HO3.out.s HO3.out.d | exact slc_exec (HS2.out y) | (go_simp; try rfl)) ?_; simp only [Act.put, List.setIfInBounds_toArray, List.set_cons_zero, List.set_cons_succ])
                obtain ⟨N, hN⟩ : ∃ N, N = n - 40 := ⟨_, rfl⟩
                obtain ⟨cN, hcN⟩ : ∃ N, N = c - 40 := ⟨_, rfl⟩
                rw [← hN] at HB2 hdl ⊢
                rw [← hcN]
                have hNb : z + N ≤ 1500 := by have := H15.out; omega
                clear HS2 hN hcN i40
                refine walkS_act rfl (by rfl) (fun K hK => ?_)
                go_simp
                refine (rput_any h3 w14 HO3.out).mono ?_
                rintro e w15 ⟨v, rfl, A5, c5, rfl, ho5, hl5⟩
                rw [HPL.out, HHL.out] at ho5
                rw [HPL.out, HHL.out]
                go_simp
                have HG15 := Lib.hid (HG13.out.below hl5 HG13.out.lt)
                refine hK _ _ HG15.out ?_
                have hg814 : g8 < w14.heap.size := HG13.out.lt
                clear hK K HG13
                have hL15 := hL13.trans hl5
                have hb2 := HB2.out.below' hL15 hL15.size
                have hbx := (HB13.out.bs (Nat.le_refl _)).below' (show Below w14.heap.size w14 w15 from hl5) hl5.size
                have hszl5 := hl5.size
                refine walkS_act rfl (by rfl) (fun K hK => ?_)
                obtain ⟨hi, hz0, hz1, hz2⟩ := HI.out
                refine wp_append_bs (.tmp 89) (.tmp 90) 22 rfl w14.heap.size 5 i0 Try.underlying22 hi hz0 hz1 hz2 A5 40 c5 (headL h3) rfl ho5 A9 z c9 w15.heap.size ps rfl hbx (by omega) hszl5 ?_
                intro A6 c6 w16 ho6 hgr hob
                have hlt := ho5.lt
                have hB6 : Below w14.heap.size w14 w16 := (show Below w14.heap.size w14 w15 from hl5).grown hgr hszl5 fun k e => (hlt k e).1
                have hG16 : BlkH w16 g8 h3 := (hB6.block g8 hg814).trans ((show Below w14.heap.size w14 w15 from hl5).block g8 hg814 |>.symm.trans HG15.out)
                have hL16 := hL13.trans (show Low w14 w16 from hB6)
                replace hb2 := HB2.out.below' hL16 hL16.size
                have hszl6 := hB6.size
                refine hK _ _ hG16 ?_
                clear hK K hgr hob hlt ho5 hbx hl5
                simp only [Act.put, List.setIfInBounds_toArray, List.set_cons_zero, List.set_cons_succ]
                refine walkS_act rfl (by rfl) (fun K hK => ?_)
                refine wp_append_bs (.tmp 91) (.tmp 93) 22 rfl w14.heap.size 5 i0 Try.underlying22 hi hz0 hz1 hz2 A6 (40 + z) c6 (headL h3 ++ ps) rfl ho6 A2 N cN w16.heap.size (xs.drop 40) rfl hb2 (by omega) hszl6 ?_
                intro A7 c7 w17 ho7 hgr hob
                have hlt := ho6.lt
                have hB7 : Below w14.heap.size w14 w17 := hB6.grown hgr hszl6 fun k e => (hlt k e).1
                have hG17 : BlkH w17 g8 h3 := (hB7.block g8 hg814).trans ((hB6.block g8 hg814).symm.trans hG16)
                refine hK _ _ hG17 ?_
                clear hK K hi hz0 hz1 hz2 hgr hob hlt ho6 hb2 hG16 hG17 HG15
                have hL17 := hL13.trans (show Low w14 w17 from hB7)
                have hcap := ho7.cap
                simp only [maxLen] at hcap
                rw [List.append_assoc] at ho7
                have HB7 := Lib.hid (ho7.bs (Nat.le_refl _))
                clear ho7 hB7 hB6
                simp only [Act.put, List.setIfInBounds_toArray, List.set_cons_zero, List.set_cons_succ]
                iterate 2 (refine walkS_read (v := _) rfl (by rfl) (by intro y hy; go_simp; try rfl) ?_; simp only [Act.put, List.setIfInBounds_toArray, List.set_cons_zero, List.set_cons_succ])
                unfold walkS
                go_wp2_with fail
                go_ret2
                exact GivesR.of HR2.out HQ.out (by rw [len_back HO3.out, List.length_append, HZL.out, hdl.out]; omega) hcap.1 (by omega) HB7.out hL17
            · have heb : (er != 0) = true := by simpa using hcan
              have HQ := Lib.hid (insE_can (tl := os.map Od.v) HER.out HK2.out HMM.out (by rw [← HRR.out, HCR.out]; exact hcan))
              rw [← HRR.out, HCR.out] at HQ
              have HR2 := Lib.hid (show insL xs l (os.map Od.v) = [] by rw [HIL.out, if_neg (by rw [HQ.out]; exact hcan)])
              clear ho9
              go_wp2_with fail
              go_ret2
              rw [HR2.out]
              exact ⟨none, 0, by rw [HQ.out]; rfl, Nat.le_refl _, by omega, Bs.nil _ _ _, hL10⟩
  · have heb : (er != 0) = true := by simpa using he
    have HQ := Lib.hid (insE_whole (l := l) (tl := os.map Od.v) (by rw [HER.out]; exact he))
    rw [HER.out] at HQ
    have HR2 := Lib.hid (show insL xs l (os.map Od.v) = [] by rw [HIL.out, if_neg (by rw [HQ.out]; exact he)])
    clear HIL c3
    go_wp2_with fail
    go_ret2
    rw [HR2.out]
    exact ⟨none, 0, by rw [HQ.out]; rfl, Nat.le_refl _, by omega, Bs.nil _ _ _, hL⟩
end
end Go.Proofs.Ytpaomhgdpncdoaa
