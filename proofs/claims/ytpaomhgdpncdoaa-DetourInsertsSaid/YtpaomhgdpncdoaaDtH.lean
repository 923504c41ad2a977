/- detour.Advance: any packet on its way to the next segment. Condition: at most 2^47 - 4096 bytes. -/
import Derived.Test.YtpaomhgdpncdoaaDtG
namespace Go.Proofs.Ytpaomhgdpncdoaa
open Go.RowKit
set_option linter.unusedVariables false

/-- where a row of the call's own lies: its cells may be stored into -/
theorem OwnB.spotD {t : TypeId} {w : World} {base n c : Nat} {A : Option Addr} {ys : List Int} (h : OwnB t w base A n c ys) (hn : 0 < n) :
    ∃ g, A = some ⟨g, 0, none⟩ ∧ base ≤ g ∧ g < w.heap.size ∧ (∀ i, i < n → w.cell? ⟨g, i, none⟩ = some (.int .u8 (ys.getD i 0))) ∧ (∀ i, w.frozen? ⟨g, i, none⟩ = false) ∧
      (∀ k x, k < n → 0 ≤ x → x < 256 → OwnB t (w.setCell ⟨g, k, none⟩ (.int .u8 x)) base (some ⟨g, 0, none⟩) n c (ys.set k x)) := by
  have hl := h.len
  have hb := h.bs (Nat.le_refl _)
  obtain ⟨⟨h1, h2⟩, ha⟩ := h
  rcases h2 with ⟨e, h0⟩ | ⟨g, cap, cur, hv, hbg, hg, hnc, hcm, hsz, htk⟩
  · omega
  · injection hv with hA hn' hc'
    subst hA hc'
    have hlt : g < w.heap.size := (Array.getElem?_eq_some_iff.1 hg).1
    refine ⟨g, rfl, hbg, hlt, fun i hi => ?_, fun i => by simp [World.frozen?, hg], fun k x hk h0 h1 => ⟨⟨by simp [cellsB_length, hl], .inr ⟨g, c, cur.setIfInBounds k (.int .u8 x), rfl, hbg, ?_, hnc, hcm, by simpa using hsz, ?_⟩⟩, ha.set k h0 h1⟩⟩
    · obtain ⟨b, o, e, _, hc⟩ := hb.mem hn
      injection e with e
      injection e with e1 e2 _
      subst e1 e2
      simpa using hc i hi
    · simp [World.setCell, Array.getElem?_modify, hg]
    · have e : cellsB (ys.set k x) = (cellsB ys).set k (.int .u8 x) := by simp [cellsB, List.map_set]
      rw [e, ← htk]
      simp [List.take_set]

/-- why a packet can't go on, and what it is then -/
def advE (xs : List Int) : Int := if hdrE xs = 0 then (if (saysR (xs.drop 40)).le = 0 then 10 else if (getL xs).hp ≤ 1 then 13 else 0) else hdrE xs
def advH (xs : List Int) : Hd := toH (segR (saysR (xs.drop 40)).sg ((saysR (xs.drop 40)).le - 1)) (nearH (getL xs))
def advL (xs : List Int) : List Int := if advE xs = 0 then (headL (advH xs) ++ xs.drop 40).set 43 ((saysR (xs.drop 40)).le - 1) else []
theorem hdr_left {xs : List Int} (ha : AllB xs) : 0 ≤ (saysR (xs.drop 40)).le ∧ (saysR (xs.drop 40)).le ≤ 255 := by
  have h := (ha.drop 40).getD 3
  show 0 ≤ (xs.drop 40).getD 3 0 ∧ (xs.drop 40).getD 3 0 ≤ 255
  omega
theorem nearH_can {h : Hd} (hc : canB h = true) (hp : 1 < h.hp) : canB (nearH h) = true := by
  have := can_range hc
  unfold canB nearH
  rw [decide_eq_true_eq]
  dsimp only
  omega
theorem segR_all {l : List (List Int)} (h : AllA l) (k : Int) : AllB (segR l k) := by
  unfold segR
  split
  · exact (h.getD _).2
  · exact zero_all
theorem near_hop {xs : List Int} (h : getE xs = 0) (hp : (getL xs).hp ≤ 1) : outE xs (neE xs) = 13 ∧ outL xs (neH xs) (neE xs) = [] := by
  have e1 : neE xs = 13 := by unfold neE; rw [if_pos hp]
  have e2 : outE xs 13 = 13 := by unfold outE; rw [if_pos h]
  rw [e1]
  exact ⟨e2, by unfold outL; rw [if_neg (by omega)]⟩
theorem near_out {xs : List Int} (ha : AllB xs) (h : getE xs = 0) (hp : ¬ (getL xs).hp ≤ 1) : outE xs (neE xs) = 0 ∧ outL xs (neH xs) (neE xs) = headL (nearH (getL xs)) ++ xs.drop 40 := by
  have e1 : neE xs = 0 := by unfold neE; rw [if_neg hp]
  have e2 : outE xs 0 = 0 := by unfold outE; rw [if_pos h]
  rw [e1]
  refine ⟨e2, ?_⟩
  unfold outL neH
  rw [if_pos e2, if_neg hp, putL_yes (nearH_can (getL_can ha) (by omega))]
theorem to_out {h : Hd} {d ys : List Int} (hk : h.ok) (hc : canB h = true) : outE (headL h ++ ys) 0 = 0 ∧ outL (headL h ++ ys) (toH d (getL (headL h ++ ys))) 0 = headL (toH d h) ++ ys := by
  have e2 : outE (headL h ++ ys) 0 = 0 := by unfold outE; rw [if_pos (getE_back hk hc)]
  refine ⟨e2, ?_⟩
  unfold outL
  rw [if_pos e2, getL_back hk hc, drop_back hk, putL_yes (toH_can hc)]
theorem put_getD (a : Act) (d : Option Tmp) (v : Value) (k : Nat) (h : d ≠ some k) : (a.put d v).tmps.getD k undef = a.tmps.getD k undef := by
  cases d with
  | none => rfl
  | some j =>
    have : j ≠ k := fun e => h (by rw [e])
    simp [Act.put, this]
theorem put_defers (a : Act) (d : Option Tmp) (v : Value) : (a.put d v).defers = a.defers := by cases d <;> rfl

section
variable (A : Option Addr) (n c : Nat) (xs : List Int) (w : World) (hn : n ≤ 140737488355328) (hc : n ≤ c) (hc2 : c ≤ 9223372036854775807) (hb : Bs w w.heap.size A n xs)
include hn hc hc2 hb
set_option maxHeartbeats 6400000 in
set_option maxRecDepth 100000 in
theorem advance_any : Calls Try.prog 11 #[.slice A n c] w fun e w' => GivesR w (advL xs).length (advL xs) (advE xs) e w' := by
  have hmf : ∀ (fn : Fn) (first cap : Array Value) (u : World), (Instr.makeFunc fn first cap).run Try.prog u = .ok (.func fn first cap) u := fun _ _ _ _ => rfl
  have HB := Lib.hid hb
  have HAL := Lib.hid (show advL xs = if advE xs = 0 then (headL (advH xs) ++ xs.drop 40).set 43 ((saysR (xs.drop 40)).le - 1) else [] from rfl)
  have HAE := Lib.hid (show advE xs = if hdrE xs = 0 then (if (saysR (xs.drop 40)).le = 0 then 10 else if (getL xs).hp ≤ 1 then 13 else 0) else hdrE xs from rfl)
  clear hb
  go_enter_defers Try.func11, Try.ntmps11
  go_wp2_with ((with_reducible refine wpList_alloc_e rfl rfl ?_); intro w2 HE hL hz2; refine Hid.out ?_)
  refine Lib.hid ?_
  have hg1 : w.heap.size < w2.heap.size := HE.lt
  replace HE := Lib.hid HE
  clear hz2
  go_wp2_with fail
  refine (routed_all A n c xs w2 hn hc hc2 (HB.out.below' hL hL.size)).mono ?_
  rintro e w3 ⟨h1, h2, hl3⟩
  replace hL := Low.trans hL hl3
  have hsz2 := hl3.size
  replace HE := Lib.hid (HE.out.below hl3 HE.out.lt)
  clear hl3
  by_cases he : hdrE xs = 0
  · obtain ⟨s, rfl, hv, hk, hf⟩ := h2 he
    obtain ⟨r1, r2, r3, r4, r5, r6⟩ := hdr_room HB.out.all he
    have h40 := (wholeE_zero (hdrE_zero he).1).2.1
    have HGE := Lib.hid (wholeE_zero (hdrE_zero he).1).1
    have hHO := getL_ok HB.out.all h40
    have hCan := getL_can HB.out.all
    obtain ⟨l0, l1⟩ := hdr_left HB.out.all
    rw [if_pos he] at HAE
    have HAH := Lib.hid (show advH xs = toH (segR (saysR (xs.drop 40)).sg ((saysR (xs.drop 40)).le - 1)) (nearH (getL xs)) from rfl)
    rw [← hv] at r4 l0 l1 HAE HAL HAH
    replace l0 : 0 ≤ s.le := l0
    replace l1 : s.le ≤ 255 := l1
    replace HAE : Hid (advE xs = if s.le = 0 then 10 else if (getL xs).hp ≤ 1 then 13 else 0) := HAE
    replace HAL : Hid (advL xs = if advE xs = 0 then (headL (advH xs) ++ xs.drop 40).set 43 (s.le - 1) else []) := HAL
    replace HAH : Hid (advH xs = toH (segR s.sg (s.le - 1)) (nearH (getL xs))) := HAH
    have HDN : Hid ((segR s.sg (s.le - 1)).length = 16 ∧ AllB (segR s.sg (s.le - 1))) := Lib.hid ⟨segR_len r4 _, segR_all r4 _⟩
    have HK := Lib.hid hk
    have HF := Lib.hid hf
    have HO := Lib.hid hHO
    have HCan := Lib.hid hCan
    have HLen := Lib.hid HB.out.len
    obtain ⟨h, hh⟩ : ∃ h, h = getL xs := ⟨_, rfl⟩
    rw [← hh] at HAE HAH HO HCan ⊢
    have HH := Lib.hid hh
    have HS := Lib.hid HO.out.s
    have HD := Lib.hid HO.out.d
    rw [HB.out.len] at r1 r2 h40
    have h48 : 48 ≤ n := by
      have : 8 ≤ wideR (xs.drop 40) := by unfold wideR; omega
      omega
    clear h1 h2 hv hk hf hCan r3 r4 r5 r6 hh hHO r1
    unfold headV srV
    go_wp2_with ((with_reducible refine wpList_alloc_v rfl 41 rfl (headC zeroH) (by kernel_rfl) ?_); intro w4 HZ4 hl4 hz4; refine Hid.out ?_)
    refine Lib.hid ?_
    clear hz4
    have hg3 : w3.heap.size < w4.heap.size := HZ4.lt
    replace HZ4 := Lib.hid HZ4
    have HLl4 := Lib.hid hl4
    clear hl4
    go_wp2_with ((with_reducible refine wpList_alloc_sr rfl rfl ?_); intro w5 HZ5 hl5 hz5; refine Hid.out ?_)
    refine Lib.hid ?_
    clear hz5
    have hL5 : Low w3 w5 := Low.trans HLl4.out hl5
    replace HZ4 := Lib.hid (HZ4.out.below hl5 HZ4.out.lt)
    replace HZ5 := Lib.hid HZ5
    clear hl5 HLl4
    generalize w4.heap.size = g4 at *
    go_wp2_with ((with_reducible refine wpList_store_headB rfl (.tmp 4) (.tmp 14) rfl w3.heap.size rfl h rfl zeroH HZ4.out rfl rfl HS.out HD.out ?_); intro w6 HG6 hb6 hz6 ho6; refine Hid.out ?_)
    refine Lib.hid ?_
    replace HZ5 := Lib.hid (HZ5.out.others ho6 (by omega))
    replace hL5 : Low w3 w6 := Below.trans hL5 hb6
    clear hb6 hz6 ho6 HZ4 HG6
    go_wp2_with ((refine wpList_store_srB rfl (.tmp 5) (.tmp 15) rfl g4 rfl s rfl zeroSr HZ5.out ?_); intro w7 HG7 hb7 hz7 ho7; refine Hid.out ?_)
    refine Lib.hid ?_
    replace hL5 : Low w3 w7 := Below.trans hL5 (hb7.mono (by omega))
    clear hb7 hz7 ho7 HZ5
    have c1 := (BlkR.cells HG7).2.1
    have f1 := HG7.frozen 1
    replace HE := Lib.hid (HE.out.below hL5 HE.out.lt)
    replace hL := hL.trans hL5
    by_cases hle : s.le = 0
    · rw [hle] at c1
      clear f1 HG7 HK HF hL5
      go_wp2_with fail
      refine (demand_no 10 w7).mono ?_
      rintro e w7 ⟨rfl, rfl⟩
      unfold Thrown
      go_wp2_with fail
      have HQ := Lib.hid (HAE.out.trans (if_pos hle))
      have HR2 := Lib.hid (show advL xs = [] by rw [HAL.out, if_neg (by rw [HQ.out]; decide)])
      rw [HR2.out]
      refine door_panic 10 (by simp [go_sem]) (acatch_panic ⟨w.heap.size, 0, none⟩ _ 10 [] w7 (BlkE.c HE.out) (BlkE.f HE.out)) _ (results_tmp_cell Try.results11 _ _ w.heap.size _ 10 rfl rfl (BlkE.c (blkE HE.out 10))) ?_
      exact ⟨none, 0, by rw [HQ.out]; rfl, Nat.le_refl _, by omega, Bs.nil _ _ _, hL.setCell (p := ⟨w.heap.size, 0, none⟩) (Nat.le_refl _) _⟩
    · have hle0 : 0 < s.le := by omega
      go_wp2_with fail
      refine (demand_yes 10 w7).mono ?_
      rintro e w7 ⟨rfl, rfl⟩
      obtain ⟨s2, hs2⟩ : ∃ s2 : Sr, s2 = { s with le := s.le - 1 } := ⟨_, rfl⟩
      have HG8 : BlkR (w7.setCell ⟨g4, 1, none⟩ (.int .i64 (s.le - 1))) g4 s2 := by rw [hs2]; exact BlkV.set_ HG7 1 (.int .i64 (s.le - 1))
      have hL8 : Low w3 (w7.setCell ⟨g4, 1, none⟩ (.int .i64 (s.le - 1))) := hL5.setCell (p := ⟨g4, 1, none⟩) (by show w3.heap.size ≤ g4; omega) _
      have hL8' : Low w (w7.setCell ⟨g4, 1, none⟩ (.int .i64 (s.le - 1))) := hL.setCell (p := ⟨g4, 1, none⟩) (by show w.heap.size ≤ g4; omega) _
      have HE8 := Lib.hid (HE.out.others (setCell_others w7 ⟨g4, 1, none⟩ (.int .i64 (s.le - 1))) (by show w.heap.size ≠ g4; omega))
      have HK8 := Lib.hid (show s2.ok (w7.setCell ⟨g4, 1, none⟩ (.int .i64 (s.le - 1))) (w7.setCell ⟨g4, 1, none⟩ (.int .i64 (s.le - 1))).heap.size by
        have h := HK.out.low hL8
        rw [hs2]
        exact ⟨h.nx, by unfold i64ok; dsimp only; omega, h.fl, h.tg, h.gm, h.sg, h.tm, h.tl⟩)
      have HS2 := Lib.hid (show segR s2.sg s2.le = segR s.sg (s.le - 1) by rw [hs2])
      have HL2 := Lib.hid (show s2.le = s.le - 1 by rw [hs2])
      replace HG8 := Lib.hid HG8
      have hwp : IntKind.i64.wrap (s.le - 1) = s.le - 1 := wraps_i64 _ (by omega) (by omega)
      clear hs2 HK HF hL5 HG7 HE hL hL8
      go_wp2_with (with_reducible refine wpList_load_sr rfl (.tmp 5) rfl g4 rfl s2 HG8.out ?_)
      refine (active_any s2 _ HK8.out).mono ?_
      rintro e w9 ⟨rfl, hl9⟩
      clear c1 f1
      rw [HS2.out]
      unfold addrV
      obtain ⟨d, hd⟩ : ∃ d, d = segR s.sg (s.le - 1) := ⟨_, rfl⟩
      rw [← hd] at HAH HDN ⊢
      have HG9 := Lib.hid (HG8.out.below hl9 HG8.out.lt)
      have HE9 := Lib.hid (HE8.out.below hl9 HE8.out.lt)
      have hL9 : Low w w9 := hL8'.trans hl9
      have HDN1 := Lib.hid HDN.out.1
      clear HK8 HG8 hl9 hL8' HE8 HS2 hd
      go_wp2_with ((with_reducible refine wpList_alloc_v rfl 39 rfl (cellsB zero16) addr_zeroR ?_); intro w10 HZ10 hl10 hz10; refine Hid.out ?_)
      refine Lib.hid ?_
      clear hz10
      replace HZ10 : Hid (Blk w10 39 w9.heap.size zero16) := Lib.hid HZ10
      go_wp2_with (refine wpList_store_addr rfl (.tmp 7) (.tmp 28) rfl w9.heap.size rfl d rfl _ zero16 HZ10.out rfl HDN1.out ?_; intro w11 HG11 hb11 hz11; refine Hid.out ?_)
      refine Lib.hid ?_
      have hl11 : Low w9 w11 := Below.trans hl10 hb11
      have HGs := Lib.hid (HG9.out.below hl11 HG9.out.lt)
      have HE11 := Lib.hid (HE9.out.below hl11 HE9.out.lt)
      have hL11 : Low w w11 := hL9.trans hl11
      replace HG11 := Lib.hid HG11
      have hg9 : g4 < w9.heap.size := HG9.out.lt
      clear HG9 HE9 hL9 hl10 hb11 hz11 HZ10 hl11
      generalize w9.heap.size = g9 at *
      go_wp2_with fail
      have hDL := HDN.out.2
      by_cases hhp : h.hp ≤ 1
      · have HQ := Lib.hid ((HAE.out.trans (if_neg hle)).trans (if_pos hhp))
        have HR2 := Lib.hid (show advL xs = [] by rw [HAL.out, if_neg (by rw [HQ.out]; decide)])
        have HNH := Lib.hid (near_hop HGE.out (by rw [← HH.out]; exact hhp))
        refine wp_region_planD (fun y => Blk y 39 g9 d) (fun cc a u => cc = [{ v := errV 13, recovered := false }] ∧ a.tmps.getD 2 undef = .slice none 0 0 ∧ a.tmps.getD 3 undef = .pointer (some ⟨w.heap.size, 0, none⟩) ∧ a.defers = [{ target := .fn (.func 28) #[.pointer (some ⟨w.heap.size, 0, none⟩)], args := #[] }] ∧ BlkV u 27 w.heap.size [.int .i64 0] ∧ Low w u)
          (.rd 0 (.rd 5 (.act 1 (.rd 2 (.rd 3 (.act 4 (.act 6 (.rd 7 (.rd 8 (.act 9 (.rd 10 (.done)))))))))))) (fun d => d != some 2 && d != some 3)
          (by kernel_rfl) (by kernel_rfl) (by kernel_rfl) (fun cc a d v u hd hr => by
            simp only [Bool.and_eq_true, bne_iff_ne, ne_eq] at hd
            exact ⟨hr.1, (put_getD a d v 2 hd.1).symm.trans hr.2.1, (put_getD a d v 3 hd.2).symm.trans hr.2.2.1, (put_defers a d v).symm.trans hr.2.2.2.1, hr.2.2.2.2.1, hr.2.2.2.2.2⟩) (by
            rintro cc ⟨tmps, df⟩ u ⟨rfl, h2, h3, rfl, hE, hl⟩
            refine door_panic 13 (by simp [go_sem]) (acatch_panic ⟨w.heap.size, 0, none⟩ _ 13 [] u (BlkE.c hE) (BlkE.f hE)) _ (results_tmp_cell Try.results11 _ _ w.heap.size _ 13 h2 h3 (BlkE.c (blkE hE 13))) ?_
            rw [HR2.out]
            exact ⟨none, 0, by rw [HQ.out]; rfl, Nat.le_refl _, by omega, Bs.nil _ _ _, hl.setCell (p := ⟨w.heap.size, 0, none⟩) (Nat.le_refl _) _⟩) (by kernel_rfl) HG11.out ?_
        replace HE11 : Hid (BlkV w11.drew 27 w.heap.size [.int .i64 0]) := HE11
        replace HG11 : Hid (Blk w11.drew 39 g9 d) := HG11
        replace hL11 : Low w w11.drew := Below.drew hL11
        clear HGs
        generalize w11.drew = w12 at *
        iterate 2 (refine walkS_read (v := _) rfl (by rfl) (by intro y hy; first | exact exec_load_addr rfl hy HDN1.out | (go_simp; try rfl)) ?_; simp only [Act.put, List.setIfInBounds_toArray, List.set_cons_zero, List.set_cons_succ])
        refine walkS_act rfl (by rfl) (fun K hK => ?_)
        go_simp
        refine (nearer_own A n c xs w12 hn hc hc2 (HB.out.below' hL11 hL11.size)).mono ?_
        rintro e w13 ⟨A1, c1, rfl, ho1, hl13⟩
        rw [HNH.out.1, HNH.out.2]
        go_simp
        refine hK _ _ (HG11.out.below hl13 HG11.out.lt) ?_
        clear hK K ho1
        have HE13 := HE11.out.below hl13 HE11.out.lt
        have hL13 := hL11.trans hl13
        iterate 2 (refine walkS_read (v := _) rfl (by rfl) (by intro y hy; go_simp; try rfl) ?_; simp only [Act.put, List.setIfInBounds_toArray, List.set_cons_zero, List.set_cons_succ])
        refine walkS_act rfl (by rfl) (fun K hK => ?_)
        go_simp
        refine (mustb_no A1 0 c1 13 (by decide) w13).mono ?_
        rintro e w13 ⟨rfl, rfl⟩
        unfold Thrown
        go_simp
        exact ⟨rfl, rfl, rfl, rfl, HE13, hL13⟩
      · have HQ := Lib.hid ((HAE.out.trans (if_neg hle)).trans (if_neg hhp))
        have HR2 := Lib.hid (show advL xs = (headL (advH xs) ++ xs.drop 40).set 43 (s.le - 1) by rw [HAL.out, if_pos HQ.out])
        have HNO := Lib.hid (near_out HB.out.all HGE.out (by rw [← HH.out]; exact hhp))
        rw [← HH.out] at HNO
        have HNK := Lib.hid (nearH_ok HO.out (by omega))
        have HTO := Lib.hid (to_out (d := d) (ys := xs.drop 40) HNK.out (nearH_can HCan.out (by omega)))
        rw [← HAH.out] at HTO
        have hdl : (xs.drop 40).length = n - 40 := by rw [List.length_drop, HLen.out]
        have HM1 := Lib.hid (show (headL (nearH h) ++ xs.drop 40).length = n by rw [len_back HNK.out, hdl]; omega)
        have HM2 := Lib.hid (show (headL (advH xs) ++ xs.drop 40).length = n by rw [HAH.out, len_back (toH_ok HNK.out HDN1.out hDL), hdl]; omega)
        obtain ⟨q, hq⟩ : ∃ q, q = s.le - 1 := ⟨_, rfl⟩
        rw [← hq] at HR2 HL2
        have q0 : 0 ≤ q := by omega
        have q1 : q < 256 := by omega
        clear hq hwp hdl hhp
        refine wp_region_planN (fun y => Blk y 39 g9 d)
          (.rd 0 (.rd 5 (.act 1 (.rd 2 (.rd 3 (.act 4 (.act 6 (.rd 7 (.rd 8 (.act 9 (.rd 10 (.done))))))))))))
          (by kernel_rfl) (by kernel_rfl) (by kernel_rfl) HG11.out ?_
        replace HE11 : Hid (BlkV w11.drew 27 w.heap.size [.int .i64 0]) := HE11
        replace HG11 : Hid (Blk w11.drew 39 g9 d) := HG11
        replace HGs : Hid (BlkR w11.drew g4 s2) := HGs
        replace hL11 : Low w w11.drew := Below.drew hL11
        generalize w11.drew = w12 at *
        iterate 2 (refine walkS_read (v := _) rfl (by rfl) (by intro y hy; first | exact exec_load_addr rfl hy HDN1.out | (go_simp; try rfl)) ?_; simp only [Act.put, List.setIfInBounds_toArray, List.set_cons_zero, List.set_cons_succ])
        refine walkS_act rfl (by rfl) (fun K hK => ?_)
        go_simp
        refine (nearer_own A n c xs w12 hn hc hc2 (HB.out.below' hL11 hL11.size)).mono ?_
        rintro e w13 ⟨A1, c1, rfl, ho1, hl13⟩
        rw [HNO.out.1, HNO.out.2, HM1.out]
        rw [HNO.out.2, HM1.out] at ho1
        go_simp
        have HG13 := Lib.hid (HG11.out.below hl13 HG11.out.lt)
        refine hK _ _ HG13.out ?_
        clear hK K
        have HE13 := Lib.hid (HE11.out.below hl13 HE11.out.lt)
        have HGs13 := Lib.hid (HGs.out.below hl13 HGs.out.lt)
        have hL13 := hL11.trans hl13
        have hcap1 := ho1.cap
        simp only [maxLen] at hcap1
        have HB1 := Lib.hid (ho1.bs (Nat.le_refl _))
        clear ho1 hl13 HG11 HE11 HGs hL11
        iterate 2 (refine walkS_read (v := _) rfl (by rfl) (by intro y hy; go_simp; try rfl) ?_; simp only [Act.put, List.setIfInBounds_toArray, List.set_cons_zero, List.set_cons_succ])
        refine walkS_act rfl (by rfl) (fun K hK => ?_)
        go_simp
        refine (mustb_yes A1 n c1 w13).mono ?_
        rintro e w13 ⟨rfl, rfl⟩
        go_simp
        refine hK _ _ HG13.out ?_
        clear hK K
        refine walkS_act rfl (by rfl) (fun K hK => ?_)
        go_simp
        refine (to_own A1 n c1 (headL (nearH h) ++ xs.drop 40) w13 hn hcap1.1 (by omega) HB1.out d HDN1.out hDL).mono ?_
        rintro e w14 ⟨A2, c2, rfl, ho2, hl14⟩
        rw [HTO.out.1, HTO.out.2, HM2.out]
        rw [HTO.out.2, HM2.out] at ho2
        go_simp
        have HG14 := Lib.hid (HG13.out.below hl14 HG13.out.lt)
        refine hK _ _ HG14.out ?_
        clear hK K
        have HE14 := Lib.hid (HE13.out.below hl14 HE13.out.lt)
        have HGs14 := Lib.hid (HGs13.out.below hl14 HGs13.out.lt)
        have hgs := HGs13.out.lt
        have hL14 := hL13.trans hl14
        have hcap2 := ho2.cap
        simp only [maxLen] at hcap2
        have HO2 := Lib.hid ho2
        have hsz13 : w.heap.size ≤ w13.heap.size := hL13.size
        have hesz := HE13.out.lt
        clear ho2 hl14 HB1 HE13 HGs13 HG13 hL13
        iterate 2 (refine walkS_read (v := _) rfl (by rfl) (by intro y hy; go_simp; try rfl) ?_; simp only [Act.put, List.setIfInBounds_toArray, List.set_cons_zero, List.set_cons_succ])
        refine walkS_act rfl (by rfl) (fun K hK => ?_)
        go_simp
        refine (mustb_yes A2 n c2 w14).mono ?_
        rintro e w14 ⟨rfl, rfl⟩
        go_simp
        refine hK _ _ HG14.out ?_
        clear hK K
        refine walkS_read (v := _) rfl (by rfl) (by intro y hy; go_simp; try rfl) ?_
        simp only [Act.put, List.setIfInBounds_toArray, List.set_cons_zero, List.set_cons_succ]
        refine walkS_done ?_
        obtain ⟨g, rfl, hbg, hlt, hcells, hfr, hset⟩ := HO2.out.spotD (by omega)
        have hcell := hcells 43 (by omega)
        have hfz := hfr 43
        have HSET := Lib.hid (hset 43 q (by omega) q0 q1)
        have c1 := (BlkR.cells HGs14.out).2.1
        rw [HL2.out] at c1
        have i43 : (43 : Int) < n := by omega
        have hwq : IntKind.u8.wrap q = q := wraps_u8 _ q0 (by omega)
        have HE15 := Lib.hid (HE14.out.others (setCell_others w14 ⟨g, 43, none⟩ (.int .u8 q)) (by show w.heap.size ≠ g; omega))
        have HL15 : Hid (Low w (w14.setCell ⟨g, 43, none⟩ (.int .u8 q))) := Lib.hid (hL14.setCell (p := ⟨g, 43, none⟩) (by show w.heap.size ≤ g; omega) _)
        generalize (headL (advH xs) ++ xs.drop 40).getD 43 0 = y43 at *
        have cE := BlkE.c HE15.out
        have fE := BlkE.f HE15.out
        have hz15 : (w14.setCell ⟨g, 43, none⟩ (.int .u8 q)).heap.size = w14.heap.size := by simp
        clear hcells hfr hset HO2 HE14 hL14 HGs14 HG14 hbg hlt
        go_wp2_with fail
        have hb15 := HSET.out.bs (Nat.le_refl _)
        generalize w14.setCell ⟨g, 43, none⟩ (.int .u8 q) = w15 at *
        have HB16 := Lib.hid (hb15.setNum cE (.int .i64 0))
        have HE16 := Lib.hid (blkE HE15.out 0)
        have HL16 : Hid (Low w (w15.setCell ⟨w.heap.size, 0, none⟩ (.int .i64 0))) := Lib.hid (HL15.out.setCell (p := ⟨w.heap.size, 0, none⟩) (Nat.le_refl _) _)
        have hz16 : (w15.setCell ⟨w.heap.size, 0, none⟩ (.int .i64 0)).heap.size = w15.heap.size := by simp
        clear hb15 HSET cE fE HE15 HL15
        rw [← hz16] at HB16
        generalize w15.setCell ⟨w.heap.size, 0, none⟩ (.int .i64 0) = w16 at *
        have hz17 : (w16.setCell ⟨w.heap.size, 0, none⟩ (.int .i64 0)).heap.size = w16.heap.size := by simp
        refine door_ret (by simp [go_sem]) (acatch_idle ⟨w.heap.size, 0, none⟩ _ w16 (BlkE.c HE16.out) (BlkE.f HE16.out)) _ (results_tmp_cell Try.results11 _ _ w.heap.size _ 0 rfl rfl (BlkE.c (blkE HE16.out 0))) ?_
        refine GivesR.of HR2.out HQ.out ?_ hcap2.1 (by omega) (by rw [hz17]; exact HB16.out.setNum (BlkE.c HE16.out) _) (HL16.out.setCell (p := ⟨w.heap.size, 0, none⟩) (Nat.le_refl _) _)
        rw [List.length_set, HM2.out]
  · have h3 := h1 he
    subst h3
    clear h1 h2
    have HAE2 := Lib.hid (HAE.out.trans (if_neg he))
    have HR2 := Lib.hid (show advL xs = [] by rw [HAL.out, if_neg (by rw [HAE2.out]; exact he)])
    obtain ⟨er, her⟩ : ∃ er, er = hdrE xs := ⟨_, rfl⟩
    rw [← her] at he ⊢ HAE2
    clear her HAL HAE
    unfold Thrown
    go_wp2_with fail
    rw [HR2.out]
    refine door_panic er (by simp [go_sem]) (acatch_panic ⟨w.heap.size, 0, none⟩ _ er [] w3 (BlkE.c HE.out) (BlkE.f HE.out)) _ (results_tmp_cell Try.results11 _ _ w.heap.size _ er rfl rfl (BlkE.c (blkE HE.out er))) ?_
    exact ⟨none, 0, by rw [HAE2.out]; rfl, Nat.le_refl _, by omega, Bs.nil _ _ _, hL.setCell (p := ⟨w.heap.size, 0, none⟩) (Nat.le_refl _) _⟩
end
end Go.Proofs.Ytpaomhgdpncdoaa
