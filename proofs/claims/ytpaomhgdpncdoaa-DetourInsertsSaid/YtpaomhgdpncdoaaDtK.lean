/- detour.Insert: any packet by way of others. Condition: at most 2^47 - 4096 bytes, others and parts. -/
import Derived.Test.YtpaomhgdpncdoaaDtJ
import Derived.Test.YtpaomhgdpncdoaaJSrA
namespace Go.Proofs.Ytpaomhgdpncdoaa
open Go.RowKit
set_option linter.unusedVariables false

/-- the routing header by way of l, with parts; why it can't be put in, and the packet then -/
def viaR (xs : List Int) (l : List (List Int)) (tl : List Ob) : Rb := ⟨(getL xs).nx, (l.length : Nat), 0, 0, (l ++ [(getL xs).d]).reverse, tl⟩
def insE (xs : List Int) (l : List (List Int)) (tl : List Ob) : Int :=
  if wholeE xs = 0 then (if (getL xs).nx = 43 ∨ (getL xs).nx = 0 then 7 else if l.length = 0 ∨ 9 < l.length then 8 else if canR (viaR xs l tl) = 0 then (if 1500 < xs.length + (putR (viaR xs l tl)).length then 4 else 0) else canR (viaR xs l tl)) else wholeE xs
def viaH (xs : List Int) (l : List (List Int)) : Hd := toH (l.getD 0 zero16) (setNx 43 (getL xs))
def insL (xs : List Int) (l : List (List Int)) (tl : List Ob) : List Int :=
  if insE xs l tl = 0 then headL (sizedH (((putR (viaR xs l tl)).length + (xs.length - 40) : Nat) : Int) (viaH xs l)) ++ (putR (viaR xs l tl) ++ xs.drop 40) else []
theorem insE_whole {xs : List Int} {l : List (List Int)} {tl : List Ob} (h : wholeE xs ≠ 0) : insE xs l tl = wholeE xs := by unfold insE; rw [if_neg h]
theorem insE_kind {xs : List Int} {l : List (List Int)} {tl : List Ob} (h : wholeE xs = 0) (h2 : (getL xs).nx = 43 ∨ (getL xs).nx = 0) : insE xs l tl = 7 := by unfold insE; rw [if_pos h, if_pos h2]
theorem insE_many {xs : List Int} {l : List (List Int)} {tl : List Ob} (h : wholeE xs = 0) (h2 : ¬ ((getL xs).nx = 43 ∨ (getL xs).nx = 0)) (h3 : l.length = 0 ∨ 9 < l.length) : insE xs l tl = 8 := by unfold insE; rw [if_pos h, if_neg h2, if_pos h3]
theorem insE_can {xs : List Int} {l : List (List Int)} {tl : List Ob} (h : wholeE xs = 0) (h2 : ¬ ((getL xs).nx = 43 ∨ (getL xs).nx = 0)) (h3 : ¬ (l.length = 0 ∨ 9 < l.length)) (h4 : canR (viaR xs l tl) ≠ 0) : insE xs l tl = canR (viaR xs l tl) := by unfold insE; rw [if_pos h, if_neg h2, if_neg h3, if_neg h4]
theorem insE_long {xs : List Int} {l : List (List Int)} {tl : List Ob} (h : wholeE xs = 0) (h2 : ¬ ((getL xs).nx = 43 ∨ (getL xs).nx = 0)) (h3 : ¬ (l.length = 0 ∨ 9 < l.length)) (h4 : canR (viaR xs l tl) = 0) (h5 : 1500 < xs.length + (putR (viaR xs l tl)).length) : insE xs l tl = 4 := by unfold insE; rw [if_pos h, if_neg h2, if_neg h3, if_pos h4, if_pos h5]
theorem insE_ok {xs : List Int} {l : List (List Int)} {tl : List Ob} (h : wholeE xs = 0) (h2 : ¬ ((getL xs).nx = 43 ∨ (getL xs).nx = 0)) (h3 : ¬ (l.length = 0 ∨ 9 < l.length)) (h4 : canR (viaR xs l tl) = 0) (h5 : ¬ 1500 < xs.length + (putR (viaR xs l tl)).length) : insE xs l tl = 0 := by unfold insE; rw [if_pos h, if_neg h2, if_neg h3, if_pos h4, if_neg h5]
theorem BlkV.atDst {w : World} {g : Nat} {h : Hd} (hb : BlkH w g h) (hs : h.s.length = 16) : w.rangeAt g 21 (cellsB h.d) := fun j v hv => by
  rw [hb.cell]
  show (headC h)[21 + j]? = some v
  rw [← hv, show 21 + j = (16 + j) + 1 + 1 + 1 + 1 + 1 by omega]
  show (cellsB h.s ++ cellsB h.d)[16 + j]? = _
  rw [List.getElem?_append_right (by rw [cellsB_length, hs]; omega), cellsB_length, hs, show 16 + j - 16 = j by omega]
theorem run_build_via (x y : Int) (A B : Option Addr) (n c m d : Nat) (w : World) : (Instr.build 26 #[(0, .int .i64 x), (1, .int .i64 y), (4, .slice A n c), (5, .slice B m d)]).run Try.prog w = .ok (.agg #[.int .i64 x, .int .i64 y, .int .i64 0, .int .i64 0, .slice A n c, .slice B m d]) w := by kernel_rfl

theorem setCells_others {g : Nat} : ∀ (us : List Value) (o : Nat) (w : World) (k : Nat), k ≠ g → (w.setCells g o us).heap[k]? = w.heap[k]?
  | [], _, _, _, _ => rfl
  | u :: r, o, w, k, h => (setCells_others r (o + 1) _ k h).trans (setCell_others w ⟨g, o, none⟩ u k h)
theorem OwnB.others {t : TypeId} {w w' : World} {base n c : Nat} {A : Option Addr} {ys : List Int} (h : OwnB t w base A n c ys) (hk : ∀ k : Nat, base ≤ k → w'.heap[k]? = w.heap[k]?) : OwnB t w' base A n c ys := by
  refine ⟨⟨h.1.1, ?_⟩, h.2⟩
  rcases h.1.2 with e | ⟨g, cap, cur, e, hbg, hg, r⟩
  · exact .inl e
  · exact .inr ⟨g, cap, cur, e, hbg, by rw [hk g hbg]; exact hg, r⟩
theorem wp_store_dst {o : Oper} {a : Act} {w : World} {K : Act → World → Prop} {Q : Exit → Act → World → Prop} (x y : Operand) (ho : o.op = .store 39 x y) (g : Nat) (hx : a.eval x = .pointer (some ⟨g, 21, none⟩)) (d : List Int) (hy : a.eval y = .agg (cellsB d).toArray)
    (h : Hd) (hb : BlkH w g h) (hs : h.s.length = 16) (hd : h.d.length = 16) (hn : d.length = 16)
    (hk : BlkH (w.setCells g 21 (cellsB d)) g (toH d h) → K (a.put o.dst undef) (w.setCells g 21 (cellsB d))) : o.wp Try.prog a w K Q :=
  wp_store_mid 39 x y ho g 21 (cellsB d).toArray hx hy (hb.there 21 _ (by simp [headC_length hs hd, cellsB_length, hn])) (by rw [addr_size]; simp [cellsB_length, hn])
    (all_oneCell_toArray (cellsB_one d)) (by
      have h2 := BlkV.setMid (cellsB d) 21 w _ hb
      rw [setCs_dst h d hs hd hn] at h2
      exact hk h2)
theorem viaH_ok {xs : List Int} {l : List (List Int)} (ha : AllB xs) (hl : 40 ≤ xs.length) (hv : AllA l) : (viaH xs l).ok ∧ canB (viaH xs l) = true :=
  ⟨toH_ok (setNx_ok (getL_ok ha hl) (by unfold i64ok; omega)) (hv.getD 0).1 (hv.getD 0).2, toH_can (setNx_can (getL_can ha) (by omega) (by omega))⟩

section
variable (A : Option Addr) (n c : Nat) (xs : List Int) (vA : Option Addr) (m vc : Nat) (l : List (List Int)) (tA : Option Addr) (tn tc : Nat) (os : List Od) (w : World)
    (hn : n ≤ 140737488355328) (hc : n ≤ c) (hc2 : c ≤ 9223372036854775807) (hb : Bs w w.heap.size A n xs) (hm : m ≤ 140737488351232) (hv : As w w.heap.size vA m l) (ht : tn ≤ 140737488351232) (hp : Os w w.heap.size tA tn os)
include hn hc hc2 hb hm hv ht hp
set_option maxHeartbeats 6400000 in
set_option maxRecDepth 100000 in
theorem insert_any : Calls Try.prog 15 #[.slice A n c, .slice vA m vc, .slice tA tn tc] w fun e w' => GivesR w (insL xs l (os.map Od.v)).length (insL xs l (os.map Od.v)) (insE xs l (os.map Od.v)) e w' := by
  have hmf : ∀ (fn : Fn) (first cap : Array Value) (u : World), (Instr.makeFunc fn first cap).run Try.prog u = .ok (.func fn first cap) u := fun _ _ _ _ => rfl
  have HB := Lib.hid hb
  have HVI := Lib.hid hv
  have HP := Lib.hid hp
  have HIL := Lib.hid (show insL xs l (os.map Od.v) = if insE xs l (os.map Od.v) = 0 then headL (sizedH (((putR (viaR xs l (os.map Od.v))).length + (xs.length - 40) : Nat) : Int) (viaH xs l)) ++ (putR (viaR xs l (os.map Od.v)) ++ xs.drop 40) else [] from rfl)
  clear hb hv hp
  go_enter_defers Try.func15, Try.ntmps15
  go_wp2_with ((with_reducible refine wpList_alloc_e rfl rfl ?_); intro w2 HE hL hz2; refine Hid.out ?_)
  refine Lib.hid ?_
  have hg1 : w.heap.size < w2.heap.size := HE.lt
  replace HE := Lib.hid HE
  clear hz2
  go_wp2_with fail
  by_cases hw : wholeE xs = 0
  · refine (dwhole_any A n c xs w2 hn hc hc2 (HB.out.below' hL hL.size) hw).mono ?_
    rintro e w3 ⟨rfl, hl3⟩
    replace hL := Low.trans hL hl3
    replace HE := Lib.hid (HE.out.below hl3 HE.out.lt)
    have hsz2 := hl3.size
    clear hl3
    obtain ⟨hget, h40, _, _, hln⟩ := wholeE_zero hw
    have hHO := getL_ok HB.out.all h40
    have hCan := getL_can HB.out.all
    have HLen := Lib.hid HB.out.len
    have HVL := Lib.hid HVI.out.len
    have HW := Lib.hid hw
    have hkx : ((getL xs).nx = 43 ∨ (getL xs).nx = 0) → insE xs l (os.map Od.v) = 7 := insE_kind hw
    have HKX := Lib.hid hkx
    have HO := Lib.hid hHO
    have HCan := Lib.hid hCan
    obtain ⟨h, hh⟩ : ∃ h, h = getL xs := ⟨_, rfl⟩
    rw [← hh] at HO HCan HKX hln ⊢
    have HH := Lib.hid hh
    have HS := Lib.hid HO.out.s
    have HD := Lib.hid HO.out.d
    rw [HB.out.len] at h40
    clear hkx hh hCan hHO hget hw
    unfold headV
    go_wp2_with ((with_reducible refine wpList_alloc_v rfl 41 rfl (headC zeroH) (by kernel_rfl) ?_); intro w4 HZ4 hl4 hz4; refine Hid.out ?_)
    refine Lib.hid ?_
    clear hz4
    replace HZ4 := Lib.hid HZ4
    have HLl4 := Lib.hid hl4
    clear hl4
    go_wp2_with ((with_reducible refine wpList_store_headB rfl (.tmp 8) (.tmp 12) rfl w3.heap.size rfl h rfl zeroH HZ4.out rfl rfl HS.out HD.out ?_); intro w6 HG6 hb6 hz6 ho6; refine Hid.out ?_)
    refine Lib.hid ?_
    have hL5 : Low w3 w6 := Below.trans HLl4.out hb6
    replace HE := Lib.hid (HE.out.below hL5 HE.out.lt)
    replace hL := hL.trans hL5
    have c3 := HG6.cell 3
    replace c3 : _ = some (Value.int .i64 h.nx) := c3
    have hg3 : w3.heap.size < w6.heap.size := HG6.lt
    replace HG6 := Lib.hid HG6
    clear hb6 hz6 ho6 HZ4 HLl4 hL5
    generalize w3.heap.size = g8 at *
    by_cases hk : h.nx = 43 ∨ h.nx = 0
    · have HQ := Lib.hid (HKX.out hk)
      have HR2 := Lib.hid (show insL xs l (os.map Od.v) = [] by rw [HIL.out, if_neg (by rw [HQ.out]; decide)])
      have HC3 := Lib.hid c3
      clear c3
      rcases hk with hk | hk
      all_goals
        have c3 := HC3.out
        rw [hk] at c3
        go_wp2_with fail
        refine (demand_no 7 w6).mono ?_
        rintro e w6 ⟨rfl, rfl⟩
        unfold Thrown
        go_wp2_with fail
        rw [HR2.out]
        refine door_panic 7 (by simp [go_sem]) (icatch_panic ⟨w.heap.size, 0, none⟩ _ 7 [] w6 (BlkE.c HE.out) (BlkE.f HE.out)) _ (results_tmp_cell Try.results15 _ _ w.heap.size _ 7 rfl rfl (BlkE.c (blkE HE.out 7))) ?_
        exact ⟨none, 0, by rw [HQ.out]; rfl, Nat.le_refl _, by omega, Bs.nil _ _ _, hL.setCell (p := ⟨w.heap.size, 0, none⟩) (Nat.le_refl _) _⟩
    · have hk1 : (h.nx != 43) = true := by simp; omega
      have hk2 : (h.nx != 0) = true := by simp; omega
      have HK := Lib.hid hk
      clear hk
      go_wp2_with fail
      refine (demand_yes 7 w6).mono ?_
      rintro e w6 ⟨rfl, rfl⟩
      clear hk1 hk2 c3
      have HK2 : Hid (¬ ((getL xs).nx = 43 ∨ (getL xs).nx = 0)) := Lib.hid (by rw [← HH.out]; exact HK.out)
      by_cases hmm : m = 0 ∨ 9 < m
      · have HQ := Lib.hid (insE_many (tl := os.map Od.v) HW.out HK2.out (by rw [HVL.out]; exact hmm))
        have HR2 := Lib.hid (show insL xs l (os.map Od.v) = [] by rw [HIL.out, if_neg (by rw [HQ.out]; decide)])
        rcases hmm with hmm | hmm
        · subst hmm
          go_wp2_with fail
          refine (demand_no 8 w6).mono ?_
          rintro e w6 ⟨rfl, rfl⟩
          unfold Thrown
          go_wp2_with fail
          rw [HR2.out]
          refine door_panic 8 (by simp [go_sem]) (icatch_panic ⟨w.heap.size, 0, none⟩ _ 8 [] w6 (BlkE.c HE.out) (BlkE.f HE.out)) _ (results_tmp_cell Try.results15 _ _ w.heap.size _ 8 rfl rfl (BlkE.c (blkE HE.out 8))) ?_
          exact ⟨none, 0, by rw [HQ.out]; rfl, Nat.le_refl _, by omega, Bs.nil _ _ _, hL.setCell (p := ⟨w.heap.size, 0, none⟩) (Nat.le_refl _) _⟩
        · have hm0 : (0 : Int) < m := by omega
          have hm9 : decide ((m : Int) ≤ 9) = false := decide_eq_false (by omega)
          go_wp2_with fail
          refine (demand_no 8 w6).mono ?_
          rintro e w6 ⟨rfl, rfl⟩
          unfold Thrown
          go_wp2_with fail
          rw [HR2.out]
          refine door_panic 8 (by simp [go_sem]) (icatch_panic ⟨w.heap.size, 0, none⟩ _ 8 [] w6 (BlkE.c HE.out) (BlkE.f HE.out)) _ (results_tmp_cell Try.results15 _ _ w.heap.size _ 8 rfl rfl (BlkE.c (blkE HE.out 8))) ?_
          exact ⟨none, 0, by rw [HQ.out]; rfl, Nat.le_refl _, by omega, Bs.nil _ _ _, hL.setCell (p := ⟨w.heap.size, 0, none⟩) (Nat.le_refl _) _⟩
      · have hm0 : (0 : Int) < m := by omega
        have hm9 : (m : Int) ≤ 9 := by omega
        have hM0 : 0 < m := by omega
        have hM9 : m ≤ 9 := by omega
        have HMM := Lib.hid (show ¬ (l.length = 0 ∨ 9 < l.length) by rw [HVL.out]; exact hmm)
        clear hmm
        go_wp2_with fail
        refine (demand_yes 8 w6).mono ?_
        rintro e w6 ⟨rfl, rfl⟩
        clear hm0 hm9
        obtain ⟨bv, ov, rfl, hbv, hcv⟩ := HVI.out.mem hM0
        clear hcv
        have HR := Lib.hid (show viaR xs l (os.map Od.v) = ⟨h.nx, (m : Nat), 0, 0, (l ++ [h.d]).reverse, os.map Od.v⟩ by unfold viaR; rw [HVL.out, ← HH.out])
        obtain ⟨r, hr⟩ : ∃ r, r = viaR xs l (os.map Od.v) := ⟨_, rfl⟩
        rw [← hr] at HR HIL
        have HRR := Lib.hid hr
        have vd := HO.out.vd
        have hnx := HO.out.nx
        clear hr
        go_wp2_with fail
        by_cases hcan : canR r = 0
        · have HRN := Lib.hid (show insE xs l (os.map Od.v) = if 1500 < n + (putR r).length then 4 else 0 by
            by_cases h5 : 1500 < n + (putR r).length
            · rw [if_pos h5]; exact insE_long HW.out HK2.out HMM.out (by rw [← HRR.out]; exact hcan) (by rw [← HRR.out, HLen.out]; exact h5)
            · rw [if_neg h5]; exact insE_ok HW.out HK2.out HMM.out (by rw [← HRR.out]; exact hcan) (by rw [← HRR.out, HLen.out]; exact h5))
          have HCR := Lib.hid hcan
          refine wp_region_planN (fun y => BlkH y g8 h) (.rd 0 (.rd 1 (.rd 2 (.rd 3 (.rd 4 (.rd 5 (.rd 6 (.rd 8 (.act 7 (.rd 9 (.act 10 (.rd 11 (.rd 12 (.act 13 (.rd 14 (.done))))))))))))))))
            (by kernel_rfl) (by kernel_rfl) (by kernel_rfl) HG6.out ?_
          replace HE : Hid (BlkV w6.drew 27 w.heap.size [.int .i64 0]) := HE
          replace HG6 : Hid (BlkH w6.drew g8 h) := HG6
          replace hL : Low w w6.drew := Below.drew hL
          clear hcan hg3
          generalize w6.drew = w7 at *
          iterate 8 (refine walkS_read (v := _) rfl (by rfl) (by intro y hy; have e3 : y.cell? ⟨g8, 3, none⟩ = some (.int .i64 h.nx) := BlkV.cell hy 3; first | exact exec_load_mid rfl (BlkV.atDst hy HS.out) HD.out | (go_simp; try rfl)) ?_; simp only [Act.put, List.setIfInBounds_toArray, List.set_cons_zero, List.set_cons_succ])
          refine walkS_act rfl (by rfl) (fun K hK => ?_)
          go_simp
          refine (segments_of h.d ⟨bv, ov, none⟩ m vc l w7 HD.out vd hM0 hM9 (HVI.out.below' hL hL.size)).mono ?_
          rintro e w8 ⟨A8, c8, rfl, ho8, hl8⟩
          go_simp
          have HG8 := Lib.hid (HG6.out.below hl8 HG6.out.lt)
          refine hK _ _ HG8.out ?_
          clear hK K
          replace HE := Lib.hid (HE.out.below hl8 HE.out.lt)
          replace hL := hL.trans hl8
          have HA8 := Lib.hid (ho8.lies (Nat.le_refl _))
          clear hl8 ho8 HG6
          have hbv2 := run_build_via h.nx (m : Nat) A8 tA (m + 1) c8 tn tc
          refine walkS_read (v := _) rfl (by rfl) (by intro y hy; have hbv3 := hbv2 y; go_simp; try rfl) ?_
          simp only [Act.put, List.setIfInBounds_toArray, List.set_cons_zero, List.set_cons_succ]
          obtain ⟨sp, hsp⟩ : ∃ sp : Sr, sp = ⟨h.nx, (m : Nat), 0, 0, A8, m + 1, c8, (l ++ [h.d]).reverse, tA, tn, tc, os⟩ := ⟨_, rfl⟩
          have HSV := Lib.hid (show Value.agg #[.int .i64 h.nx, .int .i64 (m : Nat), .int .i64 0, .int .i64 0, .slice A8 (m + 1) c8, .slice tA tn tc] = srV sp by rw [hsp]; rfl)
          have HSR := Lib.hid (show sp.v = r by rw [hsp, HR.out]; rfl)
          have HSok := Lib.hid (show sp.ok w8 w8.heap.size by rw [hsp]; exact ⟨hnx, by unfold i64ok; dsimp only; omega, by unfold i64ok; dsimp only; omega, by unfold i64ok; dsimp only; omega, by dsimp only; omega, HA8.out, ht, HP.out.below' hL hL.size⟩)
          clear hsp
          rw [HSV.out]
          refine walkS_act rfl (by rfl) (fun K hK => ?_)
          go_simp
          refine (srput_any sp w8 HSok.out).mono ?_
          rintro e w9 ⟨A9, c9, rfl, ho9, hl9⟩
          rw [HSR.out] at ho9 ⊢
          rw [HCR.out]
          have HG9 := Lib.hid (HG8.out.below hl9 HG8.out.lt)
          have hp424 : (putR r).length ≤ 424 := putR_len_le (by rw [← HSR.out]; exact HSok.out.sg.all)
          obtain ⟨ps, hps⟩ : ∃ ps, ps = putR r := ⟨_, rfl⟩
          rw [← hps] at ho9 HRN HIL hp424 ⊢
          clear hps
          obtain ⟨z, hz⟩ : ∃ z, z = ps.length := ⟨_, rfl⟩
          rw [← hz] at ho9 HRN HIL hp424 ⊢
          have HZL := Lib.hid hz.symm
          clear hz
          go_simp
          refine hK _ _ HG9.out ?_
          clear hK K
          replace HE := Lib.hid (HE.out.below hl9 HE.out.lt)
          replace hL := hL.trans hl9
          have hcap9 := ho9.cap
          simp only [maxLen] at hcap9
          have hg8w := HG8.out.lt
          have HB9 := Lib.hid ho9
          clear hl9 ho9 HG8 HSok HSV HSR HA8
          iterate 2 (refine walkS_read (v := _) rfl (by rfl) (by intro y hy; go_simp; try rfl) ?_; simp only [Act.put, List.setIfInBounds_toArray, List.set_cons_zero, List.set_cons_succ])
          refine walkS_act rfl (by rfl) (fun K hK => ?_)
          go_simp
          refine (mustb_yes A9 z c9 w9).mono ?_
          rintro e w9 ⟨rfl, rfl⟩
          go_simp
          refine hK _ _ HG9.out ?_
          clear hK K
          refine walkS_read (v := _) rfl (by rfl) (by intro y hy; go_simp; try rfl) ?_
          simp only [Act.put, List.setIfInBounds_toArray, List.set_cons_zero, List.set_cons_succ]
          refine walkS_done ?_
          have hwz : IntKind.i64.wrap ((n : Int) + (z : Int)) = (n : Int) + (z : Int) := wraps_i64 _ (by omega) (by omega)
          by_cases h15 : 1500 < n + z
          · have HQ := Lib.hid (HRN.out.trans (if_pos h15))
            have HR2 := Lib.hid (show insL xs l (os.map Od.v) = [] by rw [HIL.out, if_neg (by rw [HQ.out]; decide)])
            have hd15 : decide ((n : Int) + (z : Int) ≤ 1500) = false := decide_eq_false (by omega)
            go_wp2_with fail
            refine (demand_no 4 w9).mono ?_
            rintro e w9 ⟨rfl, rfl⟩
            unfold Thrown
            go_wp2_with fail
            rw [HR2.out]
            refine door_panic 4 (by simp [go_sem]) (icatch_panic ⟨w.heap.size, 0, none⟩ _ 4 [] w9 (BlkE.c HE.out) (BlkE.f HE.out)) _ (results_tmp_cell Try.results15 _ _ w.heap.size _ 4 rfl rfl (BlkE.c (blkE HE.out 4))) ?_
            exact ⟨none, 0, by rw [HQ.out]; rfl, Nat.le_refl _, by omega, Bs.nil _ _ _, hL.setCell (p := ⟨w.heap.size, 0, none⟩) (Nat.le_refl _) _⟩
          · have HQ := Lib.hid (HRN.out.trans (if_neg h15))
            have HR2 := Lib.hid (HIL.out.trans (if_pos HQ.out))
            have hd15 : decide ((n : Int) + (z : Int) ≤ 1500) = true := decide_eq_true (by omega)
            go_wp2_with fail
            refine (demand_yes 4 w9).mono ?_
            rintro e w9 ⟨rfl, rfl⟩
            go_wp2_with fail
            have hrv : w.rangeAt bv ov (cellsB (l.getD 0 zero16)) := by have h := (HVI.out.at_ hM0).2; rwa [Nat.zero_mul, Nat.add_zero] at h
            obtain ⟨v16, va⟩ := HVI.out.all.getD 0
            obtain ⟨hVO, hVC⟩ := viaH_ok (l := l) HB.out.all (by rw [HLen.out]; exact h40) HVI.out.all
            have HVO := Lib.hid hVO
            have HVC := Lib.hid hVC
            have HVH := Lib.hid (show viaH xs l = toH (l.getD 0 zero16) (setNx 43 h) by rw [HH.out]; rfl)
            obtain ⟨v0, hv0⟩ : ∃ v0, v0 = l.getD 0 zero16 := ⟨_, rfl⟩
            rw [← hv0] at hrv v16 va HVH
            have hm1 : (0 : Int) < m := by omega
            have H15 := Lib.hid h15
            clear hv0 hVO hVC hd15 h15
            refine wp_region_planN (fun y => Low w y) (.rd 0 (.rd 1 (.rd 2 (.rd 3 (.act 4 (.rd 5 (.act 6 (.done))))))))
              (by kernel_rfl) (by kernel_rfl) (by kernel_rfl) (Below.drew hL) ?_
            replace HE : Hid (BlkV w9.drew 27 w.heap.size [.int .i64 0]) := HE
            replace HG9 : Hid (BlkH w9.drew g8 h) := HG9
            replace HB9 := Lib.hid (HB9.out.others (w' := w9.drew) (fun _ _ => rfl))
            replace hL : Low w w9.drew := Below.drew hL
            generalize w9.drew = w10 at *
            iterate 4 (refine walkS_read (v := _) rfl (by rfl) (by intro y hy; first | exact exec_load_at rfl v16 (rangeAt_below hrv hy hbv) | (go_simp; try rfl)) ?_; simp only [Act.put, List.setIfInBounds_toArray, List.set_cons_zero, List.set_cons_succ])
            refine walkS_act rfl (by rfl) (fun K hK => ?_)
            have c3 := HG9.out.cell 3
            replace c3 : _ = some (Value.int .i64 h.nx) := c3
            have f3 := HG9.out.frozen 3
            go_simp
            have hlo : w.heap.size ≤ g8 := by omega
            have HG11 : Hid (BlkH (w10.setCell ⟨g8, 3, none⟩ (.int .i64 43)) g8 (setNx 43 h)) := Lib.hid (BlkV.set_ HG9.out 3 (.int .i64 43))
            have hL11 : Low w (w10.setCell ⟨g8, 3, none⟩ (.int .i64 43)) := hL.setCell (p := ⟨g8, 3, none⟩) hlo _
            have HE11 := Lib.hid (HE.out.others (setCell_others w10 ⟨g8, 3, none⟩ (.int .i64 43)) (by show w.heap.size ≠ g8; omega))
            have HB11 := Lib.hid (HB9.out.others (fun k hk => setCell_others w10 ⟨g8, 3, none⟩ (.int .i64 43) k (by show k ≠ g8; omega)))
            refine hK _ _ hL11 ?_
            clear hK K c3 f3 HG9 hL HE HB9
            generalize w10.setCell ⟨g8, 3, none⟩ (.int .i64 43) = w11 at *
            refine walkS_read (v := _) rfl (by rfl) (by intro y hy; go_simp; try rfl) ?_
            simp only [Act.put, List.setIfInBounds_toArray, List.set_cons_zero, List.set_cons_succ]
            refine walkS_act rfl (by rfl) (fun K hK => ?_)
            refine wp_store_dst (.tmp 56) (.tmp 54) rfl g8 rfl v0 rfl (setNx 43 h) HG11.out HS.out HD.out v16 (fun HG12 => ?_)
            have hL12 := low_setMid hlo (cellsB v0) 21 w11 w hL11
            have HE12 := Lib.hid (HE11.out.others (setCells_others (g := g8) (cellsB v0) 21 w11) (show w.heap.size ≠ g8 by omega))
            have HB12 := Lib.hid (HB11.out.others (fun k hk => setCells_others (g := g8) (cellsB v0) 21 w11 k (show k ≠ g8 by omega)))
            refine hK _ _ hL12 ?_
            rw [← HVH.out] at HG12
            replace HG12 := Lib.hid HG12
            clear hK K HG11 hL11 HE11 HB11
            simp only [Act.put]
            generalize w11.setCells g8 21 (cellsB v0) = w12 at *
            refine walkS_done ?_
            clear hrv v16 va HVH hm1
            obtain ⟨h3, hh3⟩ : ∃ h3, h3 = viaH xs l := ⟨_, rfl⟩
            rw [← hh3] at HG12 HVO HVC HR2
            obtain ⟨b, o, rfl, hbl, hcc⟩ := HB.out.mem (by omega)
            obtain ⟨A2, hs2, hA2⟩ := slc_from b o n c 40 40 hc rfl h40
            have HB2 := Lib.hid (HB.out.cutFrom h40 hA2)
            have HS2 := Lib.hid hs2
            clear hs2 hA2 hcc hbl hh3
            go_wp2_with fail
            refine wp_region_planN (fun y => BlkH y g8 h3) (.rd 0 (.rd 1 (.rd 2 (.rd 3 (.act 4 (.act 5 (.rd 6 (.act 7 (.done)))))))))
              (by kernel_rfl) (by kernel_rfl) (by kernel_rfl) HG12.out ?_
            replace HE12 : Hid (BlkV w12.drew 27 w.heap.size [.int .i64 0]) := HE12
            replace HG12 : Hid (BlkH w12.drew g8 h3) := HG12
            replace HB12 := Lib.hid (HB12.out.others (w' := w12.drew) (fun _ _ => rfl))
            replace hL12 : Low w w12.drew := Below.drew hL12
            generalize w12.drew = w13 at *
            have i40 : (40 : Int) ≤ n := by omega
            iterate 4 (refine walkS_read (v := _) rfl (by rfl) (by intro y hy; first | exact exec_load_head rfl hy HVO.out.s HVO.out.d | exact slc_exec (HS2.out y) | (go_simp; try rfl)) ?_; simp only [Act.put, List.setIfInBounds_toArray, List.set_cons_zero, List.set_cons_succ])
            have hdl : Hid ((xs.drop 40).length = n - 40) := Lib.hid (by rw [List.length_drop, HLen.out])
            rw [HLen.out] at HR2
            obtain ⟨N, hN⟩ : ∃ N, N = n - 40 := ⟨_, rfl⟩
            obtain ⟨cN, hcN⟩ : ∃ N, N = c - 40 := ⟨_, rfl⟩
            rw [← hN] at HB2 HR2 hdl ⊢
            rw [← hcN]
            have hNb : z + N ≤ 65535 := by have := H15.out; omega
            clear HS2 hN hcN i40
            refine walkS_act rfl (by rfl) (fun K hK => ?_)
            go_simp
            refine hK _ _ (HG12.out.alloc _) ?_
            clear hK K
            have hl := Low.alloc w13 (.cells #[.slice A9 z c9, .slice A2 N cN] 22)
            have hrow := heap_alloc_new w13 (.cells #[.slice A9 z c9, .slice A2 N cN] 22 (0, 0))
            replace HG12 := Lib.hid (HG12.out.alloc (.cells #[.slice A9 z c9, .slice A2 N cN] 22))
            replace HE12 := Lib.hid (HE12.out.below hl HE12.out.lt)
            replace hL12 := hL12.trans hl
            have hb2 := HB2.out.below' hL12 hL12.size
            have hb9 := (HB12.out.bs (Nat.le_refl _)).below' hl hl.size
            clear hl HB12
            generalize w13.alloc (.cells #[.slice A9 z c9, .slice A2 N cN] 22) = w14 at *
            generalize w13.heap.size = g13 at *
            refine walkS_act rfl (by rfl) (fun K hK => ?_)
            go_simp
            have HFL := Lib.hid (show ([ps, xs.drop 40] : List (List Int)).flatten.length = z + N by simp only [List.flatten_cons, List.flatten_nil, List.append_nil, List.length_append]; rw [HZL.out, hdl.out])
            refine (packet_any h3 (some ⟨g13, 0, none⟩) 2 2 [(A9, z, c9), (A2, N, cN)] [ps, xs.drop 40] (z + N) w14 HVO.out HVC.out rfl (by omega) (Row.two hrow hb9 hb2) HFL.out hNb).mono ?_
            rintro e w15 ⟨A4, c4, rfl, ho4, hl4⟩
            go_simp
            have HG15 := Lib.hid (HG12.out.below hl4 HG12.out.lt)
            refine hK _ _ HG15.out ?_
            clear hK K HG12 hb2 hb9 hrow
            have HE15 := Lib.hid (HE12.out.below hl4 HE12.out.lt)
            have hL15 := hL12.trans hl4
            have hcap := ho4.cap
            simp only [maxLen] at hcap
            have hbs := ho4.bs (Nat.le_refl _)
            rw [List.flatten_cons, List.flatten_cons, List.flatten_nil, List.append_nil] at hbs
            have hln4 := hbs.len
            have HBS := Lib.hid hbs
            have HLN4 := Lib.hid hln4
            clear ho4 hl4 hbs hL12 HE12 hln4
            refine walkS_read (v := _) rfl (by rfl) (by intro y hy; go_simp; try rfl) ?_
            simp only [Act.put, List.setIfInBounds_toArray, List.set_cons_zero, List.set_cons_succ]
            refine walkS_act rfl (by rfl) (fun K hK => ?_)
            have cE := BlkE.c HE15.out
            have fE := BlkE.f HE15.out
            go_simp
            refine hK _ _ (HG15.out.far (p := ⟨w.heap.size, 0, none⟩) (by show g8 ≠ w.heap.size; omega) _) ?_
            clear hK K fE
            have HB16 := Lib.hid (HBS.out.setNum cE (.int .i64 0))
            have HE16 := Lib.hid (blkE HE15.out 0)
            have hL16 : Low w (w15.setCell ⟨w.heap.size, 0, none⟩ (.int .i64 0)) := hL15.setCell (p := ⟨w.heap.size, 0, none⟩) (Nat.le_refl _) _
            have hz16 : (w15.setCell ⟨w.heap.size, 0, none⟩ (.int .i64 0)).heap.size = w15.heap.size := by simp
            rw [← hz16] at HB16
            clear HE15 HBS HG15 cE hL15
            generalize w15.setCell ⟨w.heap.size, 0, none⟩ (.int .i64 0) = w16 at *
            refine walkS_done ?_
            go_wp2_with fail
            have hz17 : (w16.setCell ⟨w.heap.size, 0, none⟩ (.int .i64 0)).heap.size = w16.heap.size := by simp
            refine door_ret (by simp [go_sem]) (icatch_idle ⟨w.heap.size, 0, none⟩ _ w16 (BlkE.c HE16.out) (BlkE.f HE16.out)) _ (results_tmp_cell Try.results15 _ _ w.heap.size _ 0 rfl rfl (BlkE.c (blkE HE16.out 0))) ?_
            exact GivesR.of HR2.out HQ.out HLN4.out hcap.1 (by omega) (by rw [hz17]; exact HB16.out.setNum (BlkE.c HE16.out) _) (hL16.setCell (p := ⟨w.heap.size, 0, none⟩) (Nat.le_refl _) _)
        · have HQ := Lib.hid (insE_can (tl := os.map Od.v) HW.out HK2.out HMM.out (by rw [← HRR.out]; exact hcan))
          rw [← HRR.out] at HQ
          have HR2 := Lib.hid (show insL xs l (os.map Od.v) = [] by rw [HIL.out, if_neg (by rw [HQ.out]; exact hcan)])
          obtain ⟨er, her⟩ : ∃ er, er = canR r := ⟨_, rfl⟩
          rw [← her] at HQ hcan
          have HER := Lib.hid her
          clear her
          refine wp_region_planD (fun y => BlkH y g8 h) (fun cc a u => cc = [{ v := errV er, recovered := false }] ∧ a.tmps.getD 6 undef = .slice none 0 0 ∧ a.tmps.getD 7 undef = .pointer (some ⟨w.heap.size, 0, none⟩) ∧ a.defers = [{ target := .fn (.func 36) #[.pointer (some ⟨w.heap.size, 0, none⟩)], args := #[] }] ∧ BlkV u 27 w.heap.size [.int .i64 0] ∧ Low w u)
            (.rd 0 (.rd 1 (.rd 2 (.rd 3 (.rd 4 (.rd 5 (.rd 6 (.rd 8 (.act 7 (.rd 9 (.act 10 (.rd 11 (.rd 12 (.act 13 (.rd 14 (.done)))))))))))))))) (fun d => d != some 6 && d != some 7)
            (by kernel_rfl) (by kernel_rfl) (by kernel_rfl) (fun cc a d v u hd hr => by
              simp only [Bool.and_eq_true, bne_iff_ne, ne_eq] at hd
              exact ⟨hr.1, (put_getD a d v 6 hd.1).symm.trans hr.2.1, (put_getD a d v 7 hd.2).symm.trans hr.2.2.1, (put_defers a d v).symm.trans hr.2.2.2.1, hr.2.2.2.2.1, hr.2.2.2.2.2⟩) (by
              rintro cc ⟨tmps, df⟩ u ⟨rfl, h2, h3, rfl, hE, hl⟩
              refine door_panic er (by simp [go_sem]) (icatch_panic ⟨w.heap.size, 0, none⟩ _ er [] u (BlkE.c hE) (BlkE.f hE)) _ (results_tmp_cell Try.results15 _ _ w.heap.size _ er h2 h3 (BlkE.c (blkE hE er))) ?_
              rw [HR2.out]
              exact ⟨none, 0, by rw [HQ.out]; rfl, Nat.le_refl _, by omega, Bs.nil _ _ _, hl.setCell (p := ⟨w.heap.size, 0, none⟩) (Nat.le_refl _) _⟩) (by kernel_rfl) HG6.out ?_
          replace HE : Hid (BlkV w6.drew 27 w.heap.size [.int .i64 0]) := HE
          replace HG6 : Hid (BlkH w6.drew g8 h) := HG6
          replace hL : Low w w6.drew := Below.drew hL
          generalize w6.drew = w7 at *
          iterate 8 (refine walkS_read (v := _) rfl (by rfl) (by intro y hy; have e3 : y.cell? ⟨g8, 3, none⟩ = some (.int .i64 h.nx) := BlkV.cell hy 3; first | exact exec_load_mid rfl (BlkV.atDst hy HS.out) HD.out | (go_simp; try rfl)) ?_; simp only [Act.put, List.setIfInBounds_toArray, List.set_cons_zero, List.set_cons_succ])
          refine walkS_act rfl (by rfl) (fun K hK => ?_)
          go_simp
          refine (segments_of h.d ⟨bv, ov, none⟩ m vc l w7 HD.out vd hM0 hM9 (HVI.out.below' hL hL.size)).mono ?_
          rintro e w8 ⟨A8, c8, rfl, ho8, hl8⟩
          go_simp
          have HG8 := Lib.hid (HG6.out.below hl8 HG6.out.lt)
          refine hK _ _ HG8.out ?_
          clear hK K
          replace HE := Lib.hid (HE.out.below hl8 HE.out.lt)
          replace hL := hL.trans hl8
          have HA8 := Lib.hid (ho8.lies (Nat.le_refl _))
          clear hl8 ho8 HG6
          have hbv2 := run_build_via h.nx (m : Nat) A8 tA (m + 1) c8 tn tc
          refine walkS_read (v := _) rfl (by rfl) (by intro y hy; have hbv3 := hbv2 y; go_simp; try rfl) ?_
          simp only [Act.put, List.setIfInBounds_toArray, List.set_cons_zero, List.set_cons_succ]
          obtain ⟨sp, hsp⟩ : ∃ sp : Sr, sp = ⟨h.nx, (m : Nat), 0, 0, A8, m + 1, c8, (l ++ [h.d]).reverse, tA, tn, tc, os⟩ := ⟨_, rfl⟩
          have HSV := Lib.hid (show Value.agg #[.int .i64 h.nx, .int .i64 (m : Nat), .int .i64 0, .int .i64 0, .slice A8 (m + 1) c8, .slice tA tn tc] = srV sp by rw [hsp]; rfl)
          have HSR := Lib.hid (show sp.v = r by rw [hsp, HR.out]; rfl)
          have HSok := Lib.hid (show sp.ok w8 w8.heap.size by rw [hsp]; exact ⟨hnx, by unfold i64ok; dsimp only; omega, by unfold i64ok; dsimp only; omega, by unfold i64ok; dsimp only; omega, by dsimp only; omega, HA8.out, ht, HP.out.below' hL hL.size⟩)
          clear hsp
          rw [HSV.out]
          refine walkS_act rfl (by rfl) (fun K hK => ?_)
          go_simp
          refine (srput_any sp w8 HSok.out).mono ?_
          rintro e w9 ⟨A9, c9, rfl, ho9, hl9⟩
          rw [HSR.out] at ho9 ⊢
          rw [← HER.out]
          have HG9 := Lib.hid (HG8.out.below hl9 HG8.out.lt)
          go_simp
          refine hK _ _ HG9.out ?_
          clear hK K
          replace HE := Lib.hid (HE.out.below hl9 HE.out.lt)
          replace hL := hL.trans hl9
          iterate 2 (refine walkS_read (v := _) rfl (by rfl) (by intro y hy; go_simp; try rfl) ?_; simp only [Act.put, List.setIfInBounds_toArray, List.set_cons_zero, List.set_cons_succ])
          refine walkS_act rfl (by rfl) (fun K hK => ?_)
          go_simp
          refine (mustb_no A9 _ c9 er hcan w9).mono ?_
          rintro e w9 ⟨rfl, rfl⟩
          unfold Thrown
          go_simp
          exact ⟨rfl, rfl, rfl, rfl, HE.out, hL⟩
  · refine (whole_no A n c xs w2 (HB.out.below' hL hL.size) _ rfl hw hn hc hc2).mono ?_
    rintro e w3 ⟨rfl, hl3⟩
    replace hL := Low.trans hL hl3
    replace HE := Lib.hid (HE.out.below hl3 HE.out.lt)
    have HQ := Lib.hid (insE_whole (l := l) (tl := os.map Od.v) hw)
    have HR2 := Lib.hid (show insL xs l (os.map Od.v) = [] by rw [HIL.out, if_neg (by rw [HQ.out]; exact hw)])
    obtain ⟨er, her⟩ : ∃ er, er = wholeE xs := ⟨_, rfl⟩
    rw [← her] at hw ⊢ HQ
    clear her HIL
    unfold Thrown
    go_wp2_with fail
    rw [HR2.out]
    refine door_panic er (by simp [go_sem]) (icatch_panic ⟨w.heap.size, 0, none⟩ _ er [] w3 (BlkE.c HE.out) (BlkE.f HE.out)) _ (results_tmp_cell Try.results15 _ _ w.heap.size _ er rfl rfl (BlkE.c (blkE HE.out er))) ?_
    exact ⟨none, 0, by rw [HQ.out]; rfl, Nat.le_refl _, by omega, Bs.nil _ _ _, hL.setCell (p := ⟨w.heap.size, 0, none⟩) (Nat.le_refl _) _⟩
end
end Go.Proofs.Ytpaomhgdpncdoaa
