/- The walk of MaglevOrder, given what the program's own functions tell. Condition: the size is an int. -/
import Derived.Test.YtogmfhofdjiihaaLawMgB
set_option maxRecDepth 100000
namespace Go.Proofs.Ytogmfhofdjiihaa
open Go.RowKit
set_option linter.unusedVariables false

theorem drop_backM (l : List Mbr) (k : Nat) (h : k < l.length) : (l.drop k).reverse = (l.drop (k + 1)).reverse ++ [l.getD k zeroMbr] := by
  rw [List.drop_eq_getElem_cons h, List.reverse_cons, getD_memM l k h]
set_option maxHeartbeats 3200000 in
set_option maxRecDepth 100000 in
theorem mgo_walk (HR : MgRights) (HC : MgCounts) (HBu : MgBuilds) (a b m : Int) (A : Option Addr) (n c : Nat) (l : List Mbr) (w : World) (hm : i64ok m) (hn : n ≤ 140737488355328) (hnc : n ≤ c) (hb : Es mbrE w w.heap.size A n l) :
    Calls Try.prog 6 #[keyV a b, .int .i64 m, .slice A n c] w fun e w' => e = .returned (.bool true) ∧ Low w w' := by
  have HB := Lib.hid hb
  have HLN := Lib.hid hb.len
  have HML := Lib.hid fun u => mglives_any HR HC HBu u
  have HBB := Lib.hid HBu
  have HRR := Lib.hid HR
  clear hb HR HC HBu
  unfold keyV
  by_cases hlt : n ≤ 40
  · have hlt2 : ¬ (40 : Int) < n := by omega
    go_enter Try.func6, Try.ntmps6
    go_wp2_with ((with_reducible refine wpList_box_v rfl _ (.tmp 0) rfl (keyC a b) rfl ?_); intro w1 HK hL hz1; refine Hid.out ?_)
    refine Lib.hid ?_
    replace HK := Lib.hid HK
    replace HB := Lib.hid (HB.out.below hL)
    replace hL := Lib.hid hL
    have HZ1 := Lib.hid (Nat.le_of_eq hz1.symm)
    clear hz1
    go_wp2_with fail
    refine (HRR.out A n c l w1 hlt hnc (HB.out.more hL.out.size)).mono ?_
    rintro e w2 ⟨rfl, hl⟩
    replace HK := Lib.hid (HK.out.below hl HK.out.lt)
    replace HB := Lib.hid (HB.out.below (hl.mono hL.out.size))
    replace hL := Lib.hid (hL.out.trans hl)
    have hz2 : w.heap.size + 1 ≤ w2.heap.size := Nat.le_trans HZ1.out hl.size
    clear hl HZ1 HRR
    by_cases hr : rightM l = 0
    · have HRT := Lib.hid (rightM_right hr)
      rw [hr]
      clear hr
      obtain ⟨i0, hi, hz0, hz1, hz3⟩ := info_partsK info_mbr
      have HI := Lib.hid hi
      have HZ0 := Lib.hid hz0
      have HZ1 := Lib.hid hz1
      have HZ2 := Lib.hid hz3
      clear hi hz0 hz1 hz3
      have hst : Hid ((l.drop n).reverse = []) := Lib.hid (by rw [List.drop_eq_nil_of_le (by rw [HLN.out]; exact Nat.le_refl _)]; rfl)
      go_wp2_with fail
      go_loopw [7, 8] (fun v7 v8 wr => ∃ (i : Nat) (B : Option Addr) (d : Nat), i ≤ n ∧ v8 = .int .i64 ((i : Int) - 1) ∧ v7 = .slice B (n - i) d ∧ Hid (OwnE mbrE 40 wr (w.heap.size + 1) B (n - i) d (l.drop i).reverse) ∧ Hid (BlkV wr 24 w.heap.size (keyC a b)) ∧ Hid (Es mbrE wr w.heap.size A n l) ∧ Hid (w.heap.size + 1 ≤ wr.heap.size) ∧ Hid (Low w wr)) (fun _ v _ => (intOf v + 1).toNat)
      case atStart => exact ⟨n, none, 0, Nat.le_refl _, rfl, by rw [Nat.sub_self], by rw [hst.out, Nat.sub_self]; exact Lib.hid (OwnE.none_ _ _ _ _), HK, HB, Lib.hid hz2, hL⟩
      case round =>
        clear HK HB hL hz2
        obtain ⟨i, B, d, hi, rfl, rfl, HO, HK, HB, HZ, hL⟩ := hrel
        cases i with
        | zero =>
          rw [Nat.sub_zero, List.drop_zero] at HO
          have HE := Lib.hid (HO.out.lies (Nat.le_refl _))
          have hcap := HO.out.cap.1
          clear HO
          go_wp2_with ((refine wpList_load_v rfl 24 (.tmp 3) rfl w.heap.size rfl _ (keyC a b) HK.out _ Try.underlying24 rfl key_size ?_); refine Hid.out ?_)
          refine Lib.hid ?_
          go_wp2_with fail
          refine (HBB.out a b m A n c l wr hm hlt hnc (HB.out.more hL.out.size)).mono ?_
          rintro e w4 ⟨A1, c1, rfl, hN1, hl⟩
          replace HK := Lib.hid (HK.out.below hl HK.out.lt)
          replace HE := Lib.hid (HE.out.below' hl hl.size)
          replace hL := Lib.hid (hL.out.trans hl)
          have HN1 := Lib.hid hN1
          clear hl hN1 HB HZ
          go_wp2_with ((refine wpList_load_v rfl 24 (.tmp 3) rfl w.heap.size rfl _ (keyC a b) HK.out _ Try.underlying24 rfl key_size ?_); refine Hid.out ?_)
          refine Lib.hid ?_
          go_wp2_with fail
          refine (HBB.out a b m B n d l.reverse w4 hm hlt hcap HE.out).mono ?_
          rintro e w5 ⟨A2, c2, rfl, hN2, hl⟩
          rw [buildM_reverse HRT.out] at hN2 ⊢
          rw [errM_reverse HRT.out]
          replace HN1 := Lib.hid (HN1.out.below' hl hl.size)
          replace hL := Lib.hid (hL.out.trans hl)
          have HN2 := Lib.hid hN2
          clear hl hN2 HK HE
          have HSM := Lib.hid (build_small (a := a) (b := b) (m := m) (l := l))
          generalize buildM a b m l = t at *
          generalize errM m l = er at *
          have hee : (er == er) = true := by simp
          go_wp2_with fail
          refine (sameM_any A1 A2 t.length c1 c2 t w5 HSM.out HN1.out HN2.out).mono ?_
          rintro e w6 ⟨rfl, hl⟩
          replace hL := Lib.hid (hL.out.trans hl)
          clear hl
          go_wp2_with fail
          refine (HML.out w6).mono ?_
          rintro e w7 ⟨rfl, hl⟩
          replace hL := Lib.hid (hL.out.trans hl)
          clear hl
          go_wp2_with fail
          go_ret
          exact ⟨rfl, hL.out⟩
        | succ k =>
          have hkk : ((k + 1 : Nat) : Int) - 1 = k := by omega
          rw [hkk]
          have hk0 : ¬ (k : Int) < 0 := by omega
          have hkn : k < n := by omega
          have hkn2 : (k : Int) < n := by omega
          obtain ⟨b0, o0, rfl, hbb, hcc⟩ := HB.out.mem (by omega)
          clear hbb hcc
          have hrg := (HB.out.at_ hkn).2
          have HDB := Lib.hid (drop_backM l k (by rw [HLN.out]; exact hkn))
          have HXO := Lib.hid (Elt.all_getD (E := mbrE) HB.out.all k)
          obtain ⟨x, hx⟩ : ∃ x, x = l.getD k zeroMbr := ⟨_, rfl⟩
          rw [← hx] at HDB
          have HXO2 : Hid (i64ok x.n ∧ i64ok x.w) := Lib.hid (by rw [hx]; exact HXO.out)
          obtain ⟨px, hpx⟩ : ∃ px, px = x.n := ⟨_, rfl⟩
          obtain ⟨qx, hqx⟩ : ∃ qx, qx = x.w := ⟨_, rfl⟩
          have HRG := Lib.hid (show wr.rangeAt b0 (o0 + k * 2) [.int .i64 px, .int .i64 qx] by rw [hpx, hqx, hx]; exact hrg)
          have HCX := Lib.hid (show mbrE.cells x = [.int .i64 px, .int .i64 qx] by rw [hpx, hqx]; rfl)
          clear hrg HXO hx hpx hqx
          have hO2 := HO.out.below (Low.alloc wr (.cells #[.int .i64 px, .int .i64 qx] 40))
          have hE2 : Es mbrE (wr.alloc (.cells #[.int .i64 px, .int .i64 qx] 40)) (wr.heap.size + 1) (some ⟨wr.heap.size, 0, none⟩) 1 [x] := by
            have h6 := Es.one_ (E := mbrE) wr 40 x HXO2.out (Nat.lt_succ_self _)
            rw [HCX.out] at h6
            exact h6
          have hl2 := Low.alloc wr (.cells #[.int .i64 px, .int .i64 qx] 40)
          have HK2 := Lib.hid (HK.out.below hl2 HK.out.lt)
          have HB2 := Lib.hid (HB.out.below (hl2.mono hL.out.size))
          have HL2 := Lib.hid (hL.out.trans hl2)
          have hz2 := HZ.out
          have hsz2 : (wr.alloc (.cells #[.int .i64 px, .int .i64 qx] 40)).heap.size = wr.heap.size + 1 := by simp
          have hBs : w.heap.size + 1 ≤ (wr.alloc (.cells #[.int .i64 px, .int .i64 qx] 40)).heap.size := by omega
          replace hsz2 := Lib.hid hsz2
          clear hl2 HO HK HB hL HZ HCX HXO2
          go_wp2_with (first
            | (refine wpList_load_mid rfl 40 (.tmp 32) rfl b0 (o0 + k * 2) rfl [.int .i64 px, .int .i64 qx] _ HRG.out Try.underlying40 rfl member_size ?_)
            | (at_builtin; refine wpList_append_es (E := mbrE) rfl (.tmp 29) (.tmp 34) _ rfl (w.heap.size + 1) 40 i0 _ 16 Try.underlying25 HI.out HZ0.out HZ1.out rfl HZ2.out B (n - (k + 1)) d _ rfl hO2 _ 1 1 (wr.heap.size + 1) [x] rfl hE2 (by omega) (by omega) hBs ?_; intro A6 c6 w6 hown hgr hob; refine Hid.out ?_))
          refine Lib.hid ?_
          have HK6 := Lib.hid (BlkV.grownP HK2.out hgr (fun j hj => by have := (hO2.lt j hj).1; omega))
          have HL6 := Lib.hid (show Low w w6 from Below.grown HL2.out hgr (by omega) (fun j hj => by have := (hO2.lt j hj).1; omega))
          have HB6 := Lib.hid (HB2.out.keep (w' := w6) fun p hp => World.cell?_of_block (hgr.block p.block (by omega) (fun e => by have := (hO2.lt _ e.symm).1; omega)))
          rw [← HDB.out, show n - (k + 1) + 1 = n - k by omega] at hown
          try rw [show n - (k + 1) + 1 = n - k by omega]
          have HO6 := Lib.hid hown
          have HZ6 := Lib.hid (show w.heap.size + 1 ≤ w6.heap.size from HK6.out.lt)
          clear hown hgr hob hO2 hE2 HK2 HL2 HB2 HRG hsz2 hBs hz2
          go_wp2_with fail
          go_roundw
          case rel => exact ⟨k, A6, c6, by omega, rfl, rfl, HO6, HK6, HB6, HZ6, HL6⟩
          case measure => simp [intOf]
    · have hr2 : (rightM l != 0) = true := by simpa using hr
      generalize rightM l = r at *
      clear HK
      go_wp2_with fail
      refine (HML.out w2).mono ?_
      rintro e w5 ⟨rfl, hl⟩
      replace hL := Lib.hid (hL.out.trans hl)
      clear hl
      go_wp2_with fail
      go_ret
      exact ⟨rfl, hL.out⟩
  · have hlt2 : (40 : Int) < n := by omega
    go_enter Try.func6, Try.ntmps6
    go_wp2_with ((with_reducible refine wpList_box_v rfl _ (.tmp 0) rfl (keyC a b) rfl ?_); intro w1 HK hL hz1; refine Hid.out ?_)
    refine Lib.hid ?_
    clear HK
    go_wp2_with fail
    refine (HML.out w1).mono ?_
    rintro e w5 ⟨rfl, hl⟩
    replace hL := Lib.hid (hL.trans hl)
    clear hl
    go_wp2_with fail
    go_ret
    exact ⟨rfl, hL.out⟩
end Go.Proofs.Ytogmfhofdjiihaa
