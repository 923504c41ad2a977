/- Stage 17: the document's Sorted, walked. Condition: at most 40 members. -/
import Derived.Test.YtogmfhofdjiihaaMgG
set_option maxRecDepth 100000
namespace Go.Proofs.Ytogmfhofdjiihaa
open Go.RowKit
set_option linter.unusedVariables false

set_option maxHeartbeats 6400000 in
set_option maxRecDepth 100000 in
theorem rsorted_any (A : Option Addr) (n c : Nat) (l : List Mbr) (w : World) (hn : n ≤ 40) (hb : Es mbrE w w.heap.size A n l) :
    Calls Try.prog 20 #[.slice A n c] w fun e w' => ∃ A' c', e = .returned (.slice A' n c') ∧ Es mbrE w' w'.heap.size A' n (sortM l) ∧ EFrom w.heap.size A' n ∧ Low w w' := by
  have HB := Lib.hid hb
  have HL := Lib.hid hb.len
  clear hb
  obtain ⟨i0, hi, hz0, hz1, hz2⟩ := info_partsK info_mbr
  have HI := Lib.hid hi
  have HZ0 := Lib.hid hz0
  have HZ1 := Lib.hid hz1
  have HZ2 := Lib.hid hz2
  clear hi hz0 hz1 hz2
  go_enter Try.func20, Try.ntmps20
  go_wp2_with fail
  go_loopw [3, 4] (fun v3 v wr => ∃ (i : Nat) (B : Option Addr) (d : Nat), i ≤ n ∧ v = .int .i64 i ∧ v3 = .slice B i d ∧ i ≤ d ∧ Hid (EFrom w.heap.size B i) ∧ Hid (Es mbrE wr wr.heap.size B i ((l.take i).foldl (fun out x => insM x out) [])) ∧ Hid (Es mbrE wr w.heap.size A n l) ∧ Hid (Low w wr)) (fun _ v _ => n - (intOf v).toNat)
  case atStart => exact ⟨0, none, 0, by omega, rfl, rfl, Nat.le_refl _, Lib.hid (EFrom.nil _ _), Lib.hid (Es.nil _ _ _), HB, Lib.hid (Low.refl _)⟩
  case round =>
    clear HB
    obtain ⟨i, B, d, hi, rfl, rfl, hid, HFM, HO, HB, hL⟩ := hrel
    by_cases hlt : i < n
    · have HF := Lib.hid (foldM_take l i (by rw [HL.out]; exact hlt))
      obtain ⟨L, hL0⟩ : ∃ L, L = (l.take i).foldl (fun out x => insM x out) [] := ⟨_, rfl⟩
      rw [← hL0] at HO HF
      have HLL := Lib.hid HO.out.len
      obtain ⟨b, o, rfl, hbb, hcc⟩ := HB.out.mem (by omega)
      clear hbb hcc hL0
      go_wp2_with fail
      obtain ⟨wo, rfl⟩ : ∃ wo, wo = wr := ⟨_, rfl⟩
      go_loopw [5] (fun v wr => ∃ k : Nat, k ≤ i ∧ v = .int .i64 k ∧ Hid (∀ j, j < k → (L.getD j zeroMbr).n < (l.getD i zeroMbr).n) ∧ Hid (Es mbrE wr wr.heap.size B i L) ∧ Hid (Es mbrE wr w.heap.size (some ⟨b, o, none⟩) n l) ∧ Hid (Low w wr)) (fun v _ => i - (intOf v).toNat)
      case atStart => exact ⟨0, by omega, rfl, Lib.hid fun j h => by omega, HO, HB, hL⟩
      case round =>
        clear HB hL HO
        obtain ⟨k, hk, rfl, HK, HO, HB, hL⟩ := hrel
        have hcase : (k < i ∧ (L.getD k zeroMbr).n < (l.getD i zeroMbr).n) ∨ (k < i ∧ ¬ (L.getD k zeroMbr).n < (l.getD i zeroMbr).n) ∨ (k = i) := by omega
        rcases hcase with ⟨hlk, hcmp⟩ | hrest
        · obtain ⟨bo, oo, rfl, hbb, hcc⟩ := HO.out.mem (by omega)
          clear hbb hcc
          obtain ⟨d0, _⟩ := mbr_cells HO.out hlk
          obtain ⟨e0, _⟩ := mbr_cells HB.out hlt
          have HK2 := Lib.hid (show ∀ j, j < k + 1 → (L.getD j zeroMbr).n < (l.getD i zeroMbr).n from fun j hj => by
            by_cases hjk : j = k
            · rw [hjk]; exact hcmp
            · exact HK.out j (by omega))
          obtain ⟨p, hp⟩ : ∃ p, p = (L.getD k zeroMbr).n := ⟨_, rfl⟩
          obtain ⟨q, hq⟩ : ∃ q, q = (l.getD i zeroMbr).n := ⟨_, rfl⟩
          rw [← hp] at d0 hcmp
          rw [← hq] at e0 hcmp
          clear hp hq HK
          go_wp2_with fail
          go_quiet (fail)
          go_wp2_with fail
          go_roundw
          case rel =>
            first
            | exact ⟨k + 1, by omega, by go_num, HK2, Lib.hid (HO.out.keep fun _ _ => rfl), Lib.hid (HB.out.keep fun _ _ => rfl), Lib.hid (below_drewN hL.out _)⟩
            | ((repeat apply Exists.intro); exact ⟨⟨k + 1, by omega, by go_num, HK2, Lib.hid (HO.out.keep fun _ _ => rfl), Lib.hid (HB.out.keep fun _ _ => rfl), Lib.hid (below_drewN hL.out _)⟩, rfl⟩)
          case measure => simp [intOf]; omega
        · have HIN := Lib.hid (insM_at (l.getD i zeroMbr) L k (by rw [HLL.out]; exact hk) HK.out (fun h => by
            rw [HLL.out] at h
            rcases hrest with ⟨h1, h2⟩ | h1
            · exact h2
            · omega))
          rw [← HF.out] at HIN
          clear HK HF
          obtain ⟨x, hx⟩ : ∃ x, x = l.getD i zeroMbr := ⟨_, rfl⟩
          have HXO := Lib.hid (show i64ok x.n ∧ i64ok x.w by rw [hx]; exact Elt.all_getD (E := mbrE) HB.out.all i)
          have e0 := (mbr_cells HB.out hlt).1
          rw [← hx] at e0 HIN hrest
          replace hx := Lib.hid hx
          obtain ⟨px, hpx⟩ : ∃ px, px = x.n := ⟨_, rfl⟩
          rw [← hpx] at e0 hrest
          have HPX := Lib.hid hpx
          clear hpx
          have HDW := Lib.hid (show ∀ q, Es mbrE (wr.drewN q) (wr.drewN q).heap.size B i L ∧ Es mbrE (wr.drewN q) w.heap.size (some ⟨b, o, none⟩) n l ∧ Low w (wr.drewN q) from fun q => ⟨HO.out.keep fun _ _ => rfl, HB.out.keep fun _ _ => rfl, below_drewN hL.out q⟩)
          rcases hrest with ⟨hlk, hcmp⟩ | hki
          · obtain ⟨bo, oo, rfl, hbb, hcc⟩ := HO.out.mem (by omega)
            clear hbb hcc
            obtain ⟨d0, _⟩ := mbr_cells HO.out hlk
            generalize (L.getD k zeroMbr).n = p at d0 hcmp
            clear HO HB hL
            go_wp2_with fail
            go_quiet (fail)
            obtain ⟨w2, hw2⟩ : ∃ w2, w2 = wr.drewN nq := ⟨_, rfl⟩
            rw [← hw2]
            obtain ⟨HO, hB0, hL0⟩ := HDW.out nq
            rw [← hw2] at HO hB0 hL0
            clear HDW hw2 d0 e0
            obtain ⟨A1, hU, hEU⟩ := mbr_upto _ i d k k L HO hid rfl hk
            obtain ⟨A5, c5, hF, hEF⟩ := mbr_from _ i d k k L HO hid rfl hk
            have HU := Lib.hid hU
            have HFR := Lib.hid hF
            have hO2 := OwnE.freshG mbrE (base := w2.heap.size) w2 40 (Nat.le_refl _)
            have hl3 := Low.alloc w2 (.cells #[] 40)
            have hEU3 := hEU.below hl3
            have HL3 := Lib.hid hl3
            have HBB := Lib.hid hB0
            have HLL2 := Lib.hid hL0
            have HEF := Lib.hid hEF
            clear hU hF hEU hEF hl3 HO hB0 hL0
            go_wp2_with (first
              | (refine slc_wp rfl _ _ _ _ _ rfl _ (HU.out _) ?_)
              | (at_builtin; refine wpList_append_es (E := mbrE) rfl (.tmp 32) (.tmp 35) _ rfl w2.heap.size 40 i0 _ 16 Try.underlying25 HI.out HZ0.out HZ1.out rfl HZ2.out _ 0 0 [] rfl hO2 A1 k d w2.heap.size (L.take k) rfl hEU3 (by omega) (by omega) (by simp) ?_; intro A4 c4 w4 hown hgr hob; refine Hid.out ?_))
            refine Lib.hid ?_
            have hl4 : Low w2 w4 := HL3.out.grown hgr (by simp) (fun j hj => (hO2.lt j hj).1)
            rw [List.nil_append, Nat.zero_add] at hown
            obtain ⟨gm, rgm⟩ := (HBB.out.below (hl4.mono HLL2.out.size)).at_ hlt
            have HRG := Lib.hid (show w4.rangeAt b (o + i * 2) [.int .i64 px, .int .i64 x.w] by rw [HPX.out, hx.out]; exact rgm)
            obtain ⟨qx, hqx⟩ : ∃ qx, qx = x.w := ⟨_, rfl⟩
            rw [← hqx] at HRG
            replace hqx := Lib.hid hqx
            have hO5 := hown.below (Low.alloc w4 (.cells #[.int .i64 px, .int .i64 qx] 40))
            have hE5 : Es mbrE (w4.alloc (.cells #[.int .i64 px, .int .i64 qx] 40)) (w4.heap.size + 1) (some ⟨w4.heap.size, 0, none⟩) 1 [x] := by
              have h6 := Es.one_ (E := mbrE) w4 40 x HXO.out (Nat.lt_succ_self _)
              rw [show mbrE.cells x = [.int .i64 px, .int .i64 qx] by rw [HPX.out, hqx.out]; rfl] at h6
              exact h6
            have HL5 := Lib.hid (hl4.trans (Low.alloc w4 (.cells #[.int .i64 px, .int .i64 qx] 40)))
            have hz4 := hl4.size
            clear hgr hob hown hl4 rgm gm hO2 hEU3 HL3 HU
            go_wp2_with (first
              | (refine wpList_load_mid rfl 40 (.tmp 40) rfl b (o + i * 2) rfl [.int .i64 px, .int .i64 qx] _ HRG.out Try.underlying40 rfl member_size ?_)
              | (at_builtin; refine wpList_append_es (E := mbrE) rfl (.tmp 37) (.tmp 42) _ rfl w2.heap.size 40 i0 _ 16 Try.underlying25 HI.out HZ0.out HZ1.out rfl HZ2.out _ k c4 (L.take k) rfl hO5 _ 1 1 (w4.heap.size + 1) [x] rfl hE5 (by omega) (by omega) (by simp; omega) ?_; intro A6 c6 w6 hown hgr hob; refine Hid.out ?_))
            refine Lib.hid ?_
            have hl6 : Low w2 w6 := HL5.out.grown hgr (by simp; omega) (fun j hj => (hO5.lt j hj).1)
            have hE7 := HEF.out.below hl6
            have HO7 := Lib.hid hown
            have hz6 := hl6.size
            clear hgr hob hown hO5 hE5 HL5 HRG HEF
            go_wp2_with (first
              | (refine slc_wp rfl _ _ _ _ _ rfl _ (HFR.out _) ?_)
              | (at_builtin; refine wpList_append_es (E := mbrE) rfl (.tmp 44) (.tmp 47) _ rfl w2.heap.size 40 i0 _ 16 Try.underlying25 HI.out HZ0.out HZ1.out rfl HZ2.out _ (k + 1) c6 (L.take k ++ [x]) rfl HO7.out A5 (i - k) c5 w2.heap.size (L.drop k) rfl hE7 (by omega) (by omega) hz6 ?_; intro A8 c8 w8 hown hgr hob; refine Hid.out ?_))
            refine Lib.hid ?_
            have hl8 : Low w2 w8 := hl6.grown hgr hz6 (fun j hj => (HO7.out.lt j hj).1)
            rw [HIN.out, show k + 1 + (i - k) = i + 1 by omega] at hown
            try rw [show k + 1 + (i - k) = i + 1 by omega]
            have hc8 := hown.cap.1
            have HF9 := Lib.hid (hown.from_.less HLL2.out.size)
            have HO9 := Lib.hid (hown.lies (Nat.le_refl _))
            have HB9 := Lib.hid (HBB.out.below (hl8.mono HLL2.out.size))
            have HL9 := Lib.hid (HLL2.out.trans hl8)
            clear hgr hob hown HO7 hE7 hl8 hl6 hz6 HBB HLL2 HFR
            go_wp2_with fail
            go_roundw
            case rel =>
              first
              | exact ⟨i + 1, A8, c8, by omega, by go_num, rfl, hc8, HF9, HO9, HB9, HL9⟩
              | ((repeat apply Exists.intro); exact ⟨⟨i + 1, A8, c8, by omega, by go_num, rfl, hc8, HF9, HO9, HB9, HL9⟩, rfl⟩)
            case measure => simp [intOf]; omega
          · subst hki
            clear HO HB hL
            go_wp2_with fail
            go_quiet (fail)
            obtain ⟨w2, hw2⟩ : ∃ w2, w2 = wr.drewN nq := ⟨_, rfl⟩
            rw [← hw2]
            obtain ⟨HO, hB0, hL0⟩ := HDW.out nq
            rw [← hw2] at HO hB0 hL0
            clear HDW hw2 e0
            obtain ⟨A1, hU, hEU⟩ := mbr_upto _ k d k k L HO hid rfl hk
            obtain ⟨A5, c5, hF, hEF⟩ := mbr_from _ k d k k L HO hid rfl hk
            have HU := Lib.hid hU
            have HFR := Lib.hid hF
            have hO2 := OwnE.freshG mbrE (base := w2.heap.size) w2 40 (Nat.le_refl _)
            have hl3 := Low.alloc w2 (.cells #[] 40)
            have hEU3 := hEU.below hl3
            have HL3 := Lib.hid hl3
            have HBB := Lib.hid hB0
            have HLL2 := Lib.hid hL0
            have HEF := Lib.hid hEF
            clear hU hF hEU hEF hl3 HO hB0 hL0
            go_wp2_with (first
              | (refine slc_wp rfl _ _ _ _ _ rfl _ (HU.out _) ?_)
              | (at_builtin; refine wpList_append_es (E := mbrE) rfl (.tmp 32) (.tmp 35) _ rfl w2.heap.size 40 i0 _ 16 Try.underlying25 HI.out HZ0.out HZ1.out rfl HZ2.out _ 0 0 [] rfl hO2 A1 k d w2.heap.size (L.take k) rfl hEU3 (by omega) (by omega) (by simp) ?_; intro A4 c4 w4 hown hgr hob; refine Hid.out ?_))
            refine Lib.hid ?_
            have hl4 : Low w2 w4 := HL3.out.grown hgr (by simp) (fun j hj => (hO2.lt j hj).1)
            rw [List.nil_append, Nat.zero_add] at hown
            obtain ⟨gm, rgm⟩ := (HBB.out.below (hl4.mono HLL2.out.size)).at_ hlt
            have HRG := Lib.hid (show w4.rangeAt b (o + k * 2) [.int .i64 px, .int .i64 x.w] by rw [HPX.out, hx.out]; exact rgm)
            obtain ⟨qx, hqx⟩ : ∃ qx, qx = x.w := ⟨_, rfl⟩
            rw [← hqx] at HRG
            replace hqx := Lib.hid hqx
            have hO5 := hown.below (Low.alloc w4 (.cells #[.int .i64 px, .int .i64 qx] 40))
            have hE5 : Es mbrE (w4.alloc (.cells #[.int .i64 px, .int .i64 qx] 40)) (w4.heap.size + 1) (some ⟨w4.heap.size, 0, none⟩) 1 [x] := by
              have h6 := Es.one_ (E := mbrE) w4 40 x HXO.out (Nat.lt_succ_self _)
              rw [show mbrE.cells x = [.int .i64 px, .int .i64 qx] by rw [HPX.out, hqx.out]; rfl] at h6
              exact h6
            have HL5 := Lib.hid (hl4.trans (Low.alloc w4 (.cells #[.int .i64 px, .int .i64 qx] 40)))
            have hz4 := hl4.size
            clear hgr hob hown hl4 rgm gm hO2 hEU3 HL3 HU
            go_wp2_with (first
              | (refine wpList_load_mid rfl 40 (.tmp 40) rfl b (o + k * 2) rfl [.int .i64 px, .int .i64 qx] _ HRG.out Try.underlying40 rfl member_size ?_)
              | (at_builtin; refine wpList_append_es (E := mbrE) rfl (.tmp 37) (.tmp 42) _ rfl w2.heap.size 40 i0 _ 16 Try.underlying25 HI.out HZ0.out HZ1.out rfl HZ2.out _ k c4 (L.take k) rfl hO5 _ 1 1 (w4.heap.size + 1) [x] rfl hE5 (by omega) (by omega) (by simp; omega) ?_; intro A6 c6 w6 hown hgr hob; refine Hid.out ?_))
            refine Lib.hid ?_
            have hl6 : Low w2 w6 := HL5.out.grown hgr (by simp; omega) (fun j hj => (hO5.lt j hj).1)
            have hE7 := HEF.out.below hl6
            have HO7 := Lib.hid hown
            have hz6 := hl6.size
            clear hgr hob hown hO5 hE5 HL5 HRG HEF
            go_wp2_with (first
              | (refine slc_wp rfl _ _ _ _ _ rfl _ (HFR.out _) ?_)
              | (at_builtin; refine wpList_append_es (E := mbrE) rfl (.tmp 44) (.tmp 47) _ rfl w2.heap.size 40 i0 _ 16 Try.underlying25 HI.out HZ0.out HZ1.out rfl HZ2.out _ (k + 1) c6 (L.take k ++ [x]) rfl HO7.out A5 (k - k) c5 w2.heap.size (L.drop k) rfl hE7 (by omega) (by omega) hz6 ?_; intro A8 c8 w8 hown hgr hob; refine Hid.out ?_))
            refine Lib.hid ?_
            have hl8 : Low w2 w8 := hl6.grown hgr hz6 (fun j hj => (HO7.out.lt j hj).1)
            rw [HIN.out, show k + 1 + (k - k) = k + 1 by omega] at hown
            try rw [show k + 1 + (k - k) = k + 1 by omega]
            have hc8 := hown.cap.1
            have HF9 := Lib.hid (hown.from_.less HLL2.out.size)
            have HO9 := Lib.hid (hown.lies (Nat.le_refl _))
            have HB9 := Lib.hid (HBB.out.below (hl8.mono HLL2.out.size))
            have HL9 := Lib.hid (HLL2.out.trans hl8)
            clear hgr hob hown HO7 hE7 hl8 hl6 hz6 HBB HLL2 HFR
            go_wp2_with fail
            go_roundw
            case rel =>
              first
              | exact ⟨k + 1, A8, c8, by omega, by go_num, rfl, hc8, HF9, HO9, HB9, HL9⟩
              | ((repeat apply Exists.intro); exact ⟨⟨k + 1, A8, c8, by omega, by go_num, rfl, hc8, HF9, HO9, HB9, HL9⟩, rfl⟩)
            case measure => simp [intOf]; omega
    · obtain rfl : i = n := by omega
      have HE := Lib.hid (show (l.take i).foldl (fun out x => insM x out) [] = sortM l by rw [List.take_of_length_le (by rw [HL.out]; exact Nat.le_refl _)]; rfl)
      rw [HE.out] at HO
      go_wp2_with fail
      go_ret
      exact ⟨B, d, rfl, HO.out, HFM.out, hL.out⟩
end Go.Proofs.Ytogmfhofdjiihaa
