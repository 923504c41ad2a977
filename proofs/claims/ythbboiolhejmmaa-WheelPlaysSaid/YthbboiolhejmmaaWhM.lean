/- Stage 23: Advance. Conditions: the wheel lies so, the tick is not less than 0 and small. -/
import Derived.Test.YthbboiolhejmmaaWhL
import Derived.Test.YthbboiolhejmmaaSri
set_option maxRecDepth 100000
namespace Go.Proofs.Ythbboiolhejmmaa
open Go.RowKit Go.Maps
set_option linter.unusedVariables false
attribute [local go_sem] Oper.semAt_some

theorem rcint_sizeW : (Try.prog.info? 3).map (·.size) = some 1 := by kernel_rfl
section
variable {w w' : World} {g b : Nat} {now now' : Int} {sl : List SlcW} {xs : List (List Int)} {l l' : List (Int × Int)}
theorem whlook {D : DataW Unit} {x : Int} {n : Nat} (hD : w.ownsMap Try.prog 3 (plainElem Try.prog 3) b n D) (hm : MapW D l) (hx : i64ok x) : (Instr.lookup 45 (.map (some b)) (.int .i64 x) false).run Try.prog w = .ok (.int .i64 (whenW l x)) w := by
  obtain ⟨c, h1, h2, _⟩ := hD.lookup_int keyedP Try.underlying45 Try.underlying3 (Try.zeroValue3 _) (keyP x hx)
  rw [hm.at_ x] at h2
  injection h2 with h2
  injection h2 with _ h2
  rw [h2]
  exact h1
theorem WhAt.tick (h : WhAt w g b now sl xs l) (hh : BlkV w' 48 g (headW now' b sl)) (ho : ∀ k : Nat, k ≠ g → w'.heap[k]? = w.heap[k]?) : WhAt w' g b now' sl xs l :=
  ⟨hh, h.due.heap (ho b (Ne.symm h.gb)), h.len, fun i hi => (h.row i hi).sameW fun k e => ho k (h.rg hi e), h.apart, h.tell, h.kept⟩
theorem toldW_len (l : List (Int × Int)) (t : Int) (ys : List Int) : (toldW l t ys).length ≤ ys.length := List.length_filter_le _ _
theorem toldW_all {l : List (Int × Int)} {t : Int} {ys : List Int} (h : AllI ys) : AllI (toldW l t ys) := fun x hx => h x (List.mem_filter.1 hx).1

theorem Out.then_belowW {F : Nat → Prop} {w w' w'' : World} {B : Nat} (h : Out F w w') (hb : Below B w' w'') (hB : w.heap.size ≤ B) : Out F w w'' :=
  ⟨hb.os.trans h.os, hb.tape.trans h.tape, hb.output.trans h.output, Nat.le_trans h.size hb.size, fun k h1 h2 => (hb.block k (Nat.lt_of_lt_of_le h1 hB)).trans (h.block k h1 h2)⟩
theorem getD_inW {ys : List Int} {i : Nat} (h : i < ys.length) : ys.getD i 0 ∈ ys := by
  have e : ys.getD i 0 = ys[i] := by simp [List.getD, h]
  rw [e]
  exact List.getElem_mem _
theorem take_nextW {ys : List Int} {i : Nat} (h : i < ys.length) : ys.take (i + 1) = ys.take i ++ [ys.getD i 0] := by
  have e : ys.getD i 0 = ys[i] := by simp [List.getD, h]
  rw [List.take_succ_eq_append_getElem h, e]
set_option maxHeartbeats 3200000 in
set_option maxRecDepth 100000 in
theorem whadvance_any (h : WhAt w g b now sl xs l) (hr : RightW now l) (hn0 : 0 ≤ now) (hn1 : now ≤ 1000) : Calls Try.prog 14 #[.pointer (some ⟨g, 0, none⟩)] w fun e w' =>
    ∃ A c, e = .returned (.slice A (dueW l (now + 1)).length c) ∧ Ns w' w'.heap.size A (dueW l (now + 1)).length (dueW l (now + 1)) ∧
    ∃ sl' xs', WhAt w' g b (now + 1) sl' xs' (restW l (now + 1)) ∧ (∀ k, ownW g b sl' k → ownW g b sl k) ∧ Out (ownW g b sl) w w' := by
  have HM := Lib.hid (whmade_any h.c1)
  have HT := Lib.hid h
  have hwr : IntKind.i64.wrap (now + 1) = now + 1 := by rw [IntKind.wrap_i64]; omega
  obtain ⟨s, hs⟩ : ∃ s, s = slotW (now + 1) := ⟨_, rfl⟩
  have hs64 : s < 64 := by rw [hs]; exact slotW_lt _
  have hmod := slotW_eq (show 0 ≤ now + 1 by omega)
  have hdue := told_due h.tell hr
  have hout := told_out h.tell hr
  rw [← hs] at hmod hdue hout
  have HMOD := Lib.hid hmod
  have HDUE := Lib.hid hdue
  have HOUT := Lib.hid hout
  have HYI := Lib.hid (show ∀ x ∈ xs.getD s [], 0 ≤ x ∧ x < 256 from fun x hx => h.kept.ids _ (whenW_mem ((h.tell.mem s hs64 x).1 hx).1))
  have hsh := h.tell.short h.kept hs64
  have HCS := Lib.hid (headW_get (now := now + 1) (b := b) (show s < sl.length by rw [h.len]; exact hs64))
  have HR0 := Lib.hid (h.row s hs64)
  have HOG := Lib.hid (show ∀ k, (slvW (sl.getD s noW)).ownBlock = some k → k ≠ g from fun k e => h.rg hs64 e)
  generalize sl.getD s noW = v at *
  obtain ⟨A, n, c⟩ := v
  generalize xs.getD s [] = ys at *
  have HYL := Lib.hid HR0.out.len
  have hyl := HR0.out.len
  have c0 := h.c0
  clear h hs hmod hdue hout
  go_enter Try.func14, Try.ntmps14
  go_wp2_with fail
  refine HM.out.mono ?_
  rintro e w1 ⟨rfl, rfl⟩
  go_wp2_with (refine wpList_store_cell_v rfl _ _ _ rfl g 0 rfl .i64 (now + 1) (by simp [Act.eval]) 48 (headW now b sl) HT.out.head (by rw [headW_len]; omega) rcint_sizeW ?_; intro w2 h2 hb2 hz2 ho2; refine Hid.out ?_)
  refine Lib.hid ?_
  rw [headW_now] at h2
  have T2 := Lib.hid (HT.out.tick h2 ho2)
  have HO2 := Lib.hid ((Out.refl (ownW g b sl) w1).storeW (.inl rfl) hb2 hz2 ho2)
  have HR2 := Lib.hid (HR0.out.sameW fun k e => ho2 k (HOG.out k e))
  clear h2 hb2 hz2 ho2 HR0 c0 HM
  go_wp2_with fail
  have hs2 : (s : Int) < 64 := by omega
  have hmod := HMOD.out
  refine wp_region_planN (fun y => BlkV y 48 g (headW (now + 1) b sl)) (.rd 0 (.rd 1 (.rd 2 (.rd 3 (.rd 4 (.rd 5 (.rd 6 (.rd 7 (.rd 8 (.rd 9 (.rd 10 (.rd 11 (.done)))))))))))))
    (by kernel_rfl) (by kernel_rfl) (by kernel_rfl) T2.out.head ?_
  have hld : Low w2 w2.drew := Below.drew (Below.refl _ w2)
  have T3 := Lib.hid (T2.out.low hld)
  have HO3 := Lib.hid (HO2.out.then_low hld)
  have HR3 := Lib.hid (HR2.out.below hld)
  clear hld T2 HO2 HR2
  generalize w2.drew = w3 at *
  iterate 12 (refine walkS_read (v := _) rfl (by rfl) (by
                    intro y hy
                    have q0 : y.cell? ⟨g, 0, none⟩ = some (.int .i64 (now + 1)) := hy.cell 0
                    have q1 : y.cell? ⟨g, 2 + s, none⟩ = some (.slice A n c) := (hy.cell (2 + s)).trans HCS.out
                    clear hy
                    first
                    | (go_simp; try rfl)) ?_; simp only [Act.put, List.setIfInBounds_toArray, List.set_cons_zero, List.set_cons_succ])
  unfold walkS orThrow
  dsimp only
  obtain ⟨D, hD, hDM⟩ := T3.out.due
  have HD := Lib.hid hD
  have HDM := Lib.hid hDM
  obtain ⟨i0, hi, hz0, hz1, hz2⟩ := info_int_partsP
  have HI := Lib.hid hi
  have HZZ0 := Lib.hid hz0
  have HZ1 := Lib.hid hz1
  have HZ2 := Lib.hid hz2
  clear hD hDM hi hz0 hz1 hz2 hmod hs2
  have hn256 : n ≤ 256 := by omega
  go_wp2_with fail
  go_loopw [3, 5, 29] (fun v3 v5 v29 wr => ∃ (i : Nat) (A' : Option Addr) (c' : Nat) (zs : List Int), i ≤ n ∧ v29 = .int .i64 i ∧ v3 = .slice A' zs.length c' ∧ Hid (zs = toldW l (now + 1) (ys.take i)) ∧ Hid (OwnN 3 wr w3.heap.size A' zs.length c' zs) ∧ Hid (Low w3 wr)) (fun _ _ v29 _ => n - (intOf v29).toNat)
  case atStart => exact ⟨0, none, 0, [], Nat.zero_le _, rfl, rfl, Lib.hid rfl, Lib.hid (OwnN.noneP _ _ _), Lib.hid (Low.refl _)⟩
  case round =>
    obtain ⟨i, A', c', zs, hin, rfl, rfl, HZS, HO, HL⟩ := hrel
    by_cases hlt : i < n
    · have hlt2 : (i : Int) < (n : Int) := by omega
      have hns := HR3.out.bs (Nat.le_refl _)
      obtain ⟨bb, oo, hA, hbb, hcc⟩ := hns.mem (by omega)
      subst hA
      have qx : wr.cell? ⟨bb, oo + i, none⟩ = some (.int .i64 (ys.getD i 0)) := (HL.out.cell (p := ⟨bb, oo + i, none⟩) hbb).trans (hcc i hlt)
      have HST := Lib.hid (toldW_step l (now + 1) ys i (by omega))
      have hx := HYI.out (ys.getD i 0) (getD_inW (by omega))
      have HDR := Lib.hid (heapP HD.out (HL.out.block b HD.out.lt))
      have HHR := Lib.hid (T3.out.head.below HL.out T3.out.head.lt)
      have HXX := Lib.hid hx
      have hx64 : i64ok (ys.getD i 0) := by unfold i64ok; omega
      clear hns hbb hcc hx
      generalize ys.getD i 0 = x at *
      go_wp2_with fail
      refine wp_region_planN (fun y => BlkV y 48 g (headW (now + 1) b sl) ∧ y.ownsMap Try.prog 3 (plainElem Try.prog 3) b l.length D) (.rd 0 (.rd 1 (.rd 2 (.rd 3 (.rd 4 (.rd 5 (.rd 6 (.rd 7 (.rd 8 (.rd 9 (.rd 10 (.done))))))))))))
        (by kernel_rfl) (by kernel_rfl) (by kernel_rfl) ⟨HHR.out, HDR.out⟩ ?_
      have hld : Low wr wr.drew := Below.drew (Below.refl _ wr)
      have HL4 := Lib.hid (HL.out.trans hld)
      have HO4 := Lib.hid (HO.out.below hld)
      clear hld HDR HHR HL HO qx
      generalize wr.drew = w4 at *
      have HU := Lib.hid (show whenW l x = whenW l x from rfl)
      iterate 11 (refine walkS_read (v := _) rfl (by rfl) (by
                    intro y hy
                    have q0 : y.cell? ⟨g, 0, none⟩ = some (.int .i64 (now + 1)) := hy.1.cell 0
                    have q1 : y.cell? ⟨g, 1, none⟩ = some (.map (some b)) := hy.1.cell 1
                    have q2 := whlook hy.2 HDM.out hx64
                    clear hy
                    first
                    | (go_simp; try rfl)) ?_; simp only [Act.put, List.setIfInBounds_toArray, List.set_cons_zero, List.set_cons_succ])
      unfold walkS orThrow
      dsimp only
      generalize whenW l x = u at *
      by_cases hq : u = now + 1
      · have hq2 : (u == now + 1) = true := by simp [hq]
        have hst := HST.out
        rw [if_pos hq, ← HZS.out] at hst
        have HS2 := Lib.hid hst.symm
        have hx2 : AllI [x] := .cons hx64.1 hx64.2 .nil
        have hlA := Low.alloc w4 (.cells #[.int .i64 x] 3)
        have hkA : BlkN (w4.alloc (.cells #[.int .i64 x] 3)) 3 w4.heap.size [x] := BlkN.new w4 3 [x]
        have hbA := hkA.bs (n := 1) hx2 hkA.lt rfl
        have hO7 := HO4.out.below hlA
        have HL7 := Lib.hid (show Low w3 _ from HL4.out.trans hlA)
        have hb7 : w3.heap.size ≤ (w4.alloc (.cells #[.int .i64 x] 3)).heap.size := HL7.out.size
        have hzl : zs.length ≤ 256 := by
          have h1 := toldW_len l (now + 1) (ys.take i)
          rw [← HZS.out, List.length_take] at h1
          omega
        clear HST HZS HL4 HO4 hst hlA hkA hx2 HU
        go_wp2_with (at_builtin; refine wpList_append_ns rfl (.tmp 44) (.tmp 46) _ rfl w3.heap.size 3 i0 Try.underlying36 HI.out HZZ0.out HZ1.out HZ2.out _ zs.length c' zs rfl hO7 _ 1 _ _ [x] rfl hbA (by omega) hb7 ?_; intro A8 c8 w8 hO8 hg8 hb8; refine Hid.out ?_)
        refine Lib.hid ?_
        have HL8 := Lib.hid (show Low w3 w8 from Below.grown HL7.out hg8 hb7 (fun j hj => (hO7.lt j hj).1))
        have HO8 := Lib.hid (show OwnN 3 w8 w3.heap.size A8 (zs ++ [x]).length c8 (zs ++ [x]) by rw [List.length_append]; exact hO8)
        clear hO8 hg8 hb8 hO7 hbA hb7 HL7 hq hq2
        go_wp2_with fail
        go_roundw
        case rel => exact ⟨i + 1, A8, c8, zs ++ [x], by omega, by go_num, by rw [List.length_append]; rfl, HS2, HO8, HL8⟩
        case measure => simp [intOf]; omega
      · have hq2 : (u == now + 1) = false := by simpa using hq
        have hst := HST.out
        rw [if_neg hq, ← HZS.out] at hst
        have HS2 := Lib.hid hst.symm
        clear HST HZS hst HU
        go_wp2_with fail
        go_roundw
        case rel => exact ⟨i + 1, A', c', zs, by omega, by go_num, rfl, HS2, HO4, HL4⟩
        case measure => simp [intOf]; omega
    · obtain rfl : i = n := by omega
      have hlt2 : ¬ (i : Int) < (i : Int) := by omega
      have hzs := HZS.out
      rw [List.take_of_length_le (by omega)] at hzs
      have hdue := HDUE.out
      have hout := HOUT.out
      rw [← hzs] at hdue hout
      have hlen : zs.length = (dueW l (now + 1)).length := by rw [← hdue]; exact ((List.mergeSort_perm zs _).length_eq).symm
      have hz256 : zs.length ≤ 256 := by
        have h1 := toldW_len l (now + 1) ys
        rw [← hzs] at h1
        omega
      have HDUE2 := Lib.hid hdue
      have HOUT2 := Lib.hid hout
      have HLEN := Lib.hid hlen
      have T4 := Lib.hid (T3.out.low HL.out)
      have hoff : ∀ k, (Value.slice A' zs.length c').ownBlock = some k → ¬ ownW g b sl k := fun k e hf => by
        have h1 := (HO.out.lt k e).1
        have h2 := T3.out.under k hf
        omega
      have HOFF := Lib.hid hoff
      have HNS := Lib.hid (HO.out.bs (Nat.le_refl _))
      have HOA := Lib.hid (show offA (ownW g b sl) A' zs.length from offA.fresh (fun k hk => T3.out.under k hk) HO.out.fromI)
      clear hzs hdue hout hlen hoff HDUE HOUT HZS HI HZZ0 HZ1 HZ2
      go_wp2_with fail
      go_loopw [7, 51] (fun v7 v51 wt => ∃ (j : Nat) (sl' : List SlcW) (xs' : List (List Int)), j ≤ zs.length ∧ v51 = .int .i64 j ∧ Hid (WhAt wt g b (now + 1) sl' xs' (outsW l (zs.take j))) ∧ Hid (∀ k, ownW g b sl' k → ownW g b sl k) ∧ Hid (Out (ownW g b sl) wr wt)) (fun _ v51 _ => zs.length - (intOf v51).toNat)
      case atStart => exact ⟨0, sl, xs, Nat.zero_le _, rfl, T4, Lib.hid (fun k hk => hk), Lib.hid (Out.refl _ _)⟩
      case round =>
        clear T4
        obtain ⟨j, sl', xs', hjn, rfl, TJ, HFJ, HOJ⟩ := hrel
        by_cases hlt : j < zs.length
        · have hlt2 : (j : Int) < (zs.length : Int) := by omega
          obtain ⟨bb, oo, hA, hbb, hcc⟩ := (HNS.out.out HOA.out HOJ.out).mem (by omega)
          subst hA
          have qx := hcc j hlt
          have hx := HO.out.2 _ (getD_inW hlt)
          have HTN := Lib.hid (take_nextW hlt)
          clear hbb hcc
          generalize zs.getD j 0 = x at *
          have HUN := Lib.hid (whunset_any TJ.out x hx)
          clear hx
          go_wp2_with fail
          refine HUN.out.mono ?_
          rintro e w7 ⟨rfl, sl7, xs7, h7, hf7, ho7⟩
          have T7 := Lib.hid (show WhAt w7 g b (now + 1) sl7 xs7 (outsW l (zs.take (j + 1))) by rw [HTN.out, outsW_snoc]; exact h7)
          have HF7 := Lib.hid (show ∀ k, ownW g b sl7 k → ownW g b sl k from fun k hk => HFJ.out k (hf7 k hk))
          have HO7 := Lib.hid (HOJ.out.trans (ho7.weakW (F' := ownW g b sl) HFJ.out) (Grow.refl _ _))
          clear h7 hf7 ho7 HUN TJ HFJ HOJ qx
          go_wp2_with fail
          go_roundw
          case rel => exact ⟨j + 1, sl7, xs7, by omega, by go_num, T7, HF7, HO7⟩
          case measure => simp [intOf]; omega
        · obtain rfl : j = zs.length := by omega
          have hlt2 : ¬ (zs.length : Int) < (zs.length : Int) := by omega
          have hT := TJ.out
          rw [List.take_length, HOUT2.out] at hT
          have T8 := Lib.hid hT
          have HO8 := Lib.hid (HO.out.sameW fun k e => HOJ.out.block k (HO.out.lt k e).2 (HOFF.out k e))
          have HSO := Lib.hid (sortI_any _ _ w3.heap.size A' zs.length c' zs HO8.out (by omega))
          clear hT TJ HO8
          go_wp2_with fail
          refine HSO.out.mono ?_
          rintro e w9 ⟨rfl, _, hns, _, hl9⟩
          rw [HDUE2.out] at hns
          have HN9 := Lib.hid hns
          have T9 := Lib.hid (T8.out.keep fun k hk => hl9.block k (T3.out.under k (HFJ.out k hk)))
          have HO9 := Lib.hid (((HO3.out.then_low HL.out).trans HOJ.out (Grow.refl _ _)).then_belowW hl9 HO3.out.size)
          clear hns hl9 HSO
          go_wp2_with fail
          go_ret
          have hn9 := HN9.out
          refine ⟨A', c', by rw [← HLEN.out]; rfl, ?_, sl', xs', T9.out, HFJ.out, HO9.out⟩
          rw [← HLEN.out]
          exact hn9
end
end Go.Proofs.Ythbboiolhejmmaa
