/- What the document's Parse answers: the segment of bytes. Condition: at most 2^47 bytes. -/
import Derived.Test.YtkbgfddicpnbmaaTcM
namespace Go.Proofs.Ytkbgfddicpnbmaa
open Go.RowKit
set_option linter.unusedVariables false

theorem setRow_oth (w : World) (g : Nat) (cs : Array Value) : ∀ p : Addr, p.block ≠ g → (w.setRow g cs).cell? p = w.cell? p := fun p hp => World.cell?_of_block (by simp [World.setRow, Array.getElem?_modify, Ne.symm hp])
/-- the segment that is told is as it should be -/
theorem tcparse_end {w w1 u w9 wE : World} {t : TypeId} {A9 oA : Option Addr} {k c9 om c m : Nat} {xs : List Int} {os : List Od} {x13 : Int} (hL9 : Low u w9) (hO9 : OwnB t w9 u.heap.size A9 k c9 (xs.drop m)) (hos : Os u u.heap.size oA om os) (hof : OFrom w1.heap.size oA om os) (hw1 : w.heap.size < w1.heap.size) (hwu : w.heap.size ≤ u.heap.size)
    (hoth : ∀ p : Addr, p.block ≠ w.heap.size → wE.cell? p = w9.cell? p) (hz : wE.heap.size = w9.heap.size) (hall : AllB xs) (hom : om ≤ 140737488351232) (hk : k ≤ 140737488351232) (hr13 : 0 ≤ x13 ∧ x13 < 256) (hu : w.heap.size ≠ u.heap.size) :
    Sg.ok wE wE.heap.size ⟨num2 xs 0, num2 xs 2, num4 xs 4, num4 xs 8, x13, num2 xs 14, num2 xs 16, num2 xs 18, oA, om, c, os, A9, k, c9, xs.drop m⟩ := by
  have n0 := tcnum2 hall 0
  have n2 := tcnum2 hall 2
  have n14 := tcnum2 hall 14
  have n16 := tcnum2 hall 16
  have n18 := tcnum2 hall 18
  have hos12 := (hos.below' hL9 hL9.size).upper hof (w' := wE) fun p h1 h2 => hoth p (by omega)
  have hpg := hO9.bs (Nat.le_refl _)
  have hpg13 : Bs wE w9.heap.size A9 k (xs.drop m) := ⟨hpg.len, hpg.all, fun h => by
    obtain ⟨b', o', e', hb', hc'⟩ := hpg.mem h
    obtain ⟨g, cap, hv, hbg, _⟩ := hO9.1.form h
    have hA : A9 = some ⟨g, 0, none⟩ := by injection hv
    rw [hA] at e'
    injection e' with e'
    injection e' with e1 e2 _
    subst e1 e2
    refine ⟨_, _, hA, hb', fun i hi => (hoth _ ?_).trans (hc' i hi)⟩
    show g ≠ w.heap.size
    omega⟩
  rw [← hz] at hos12 hpg13
  refine ⟨?_, ?_, tcnum4 hall 4, tcnum4 hall 8, ?_, ?_, ?_, ?_, hom, hos12, hk, hpg13⟩
  all_goals (unfold i64ok; dsimp only; omega)

set_option maxRecDepth 100000 in
set_option maxHeartbeats 6400000 in
theorem trcparse_yes (A : Option Addr) (n c : Nat) (xs : List Int) (w : World) (hn0 : n ≤ 140737488351232) (hc : n ≤ c) (hc2 : c ≤ 9223372036854775807) (hb : Bs w w.heap.size A n xs) (h : (aheadS xs).2 = 0) :
    Calls Try.prog 14 #[.slice A n c] w (GivesS w (parseS xs)) := by
  have hn : n ≤ 140737488355328 := by omega
  obtain ⟨i0, hi, hz0, hz1, hz2⟩ := info_parts info5
  have HX := Lib.hid (show parseS xs = if (parseL ((xs.take (aheadS xs).1).drop 20)).2 = 0 then (segS xs (aheadS xs).1 (parseL ((xs.take (aheadS xs).1).drop 20)).1, 0) else (zeroSb, (parseL ((xs.take (aheadS xs).1).drop 20)).2) by unfold parseS; rw [if_pos h])
  obtain ⟨hm1, hm2, hm3⟩ := aheadS_ok hb.all h
  rw [hb.len] at hm3
  have hl := hb.len
  have hA : aheadS xs = if xs.getD 12 0 % 16 ≠ 0 ∨ xs.getD 12 0 / 16 < 5 then (0, 5) else if (n : Int) < 4 * (xs.getD 12 0 / 16) then (0, 3) else ((4 * (xs.getD 12 0 / 16)).toNat, 0) := by rw [← hl]; unfold aheadS; rw [if_neg (by omega)]
  have hx1 : xs.getD 12 0 % 16 = 0 := by
    by_cases h1 : xs.getD 12 0 % 16 = 0
    · exact h1
    · rw [hA, if_pos (Or.inl h1)] at h; simp at h
  have hx2 : ¬ xs.getD 12 0 / 16 < 5 := fun h1 => by rw [hA, if_pos (Or.inr h1)] at h; simp at h
  have hx3 : ¬ (n : Int) < 4 * (xs.getD 12 0 / 16) := fun h1 => by rw [hA, if_neg (fun h => h.elim (fun h => h hx1) hx2), if_pos h1] at h; simp at h
  have hx4 : xs.getD 12 0 / 16 * 4 = ((aheadS xs).1 : Nat) := by
    rw [hA, if_neg (fun h => h.elim (fun h => h hx1) hx2), if_neg hx3]
    dsimp only
    omega
  obtain ⟨b, o, rfl, hbl, hcc⟩ := hb.mem (by omega)
  have c12 := hcc 12 (by omega)
  have c13 := hcc 13 (by omega)
  have hr := hb.nonneg 12
  have HB := Lib.hid hb
  have n12 : (12 : Int) < n := by omega
  have n13 : (13 : Int) < n := by omega
  have hfb : (xs.getD 12 0 % 16 != 0) = false := by simpa using hx1
  obtain ⟨m, hm⟩ : ∃ m, m = (aheadS xs).1 := ⟨_, rfl⟩
  rw [← hm] at HX hm1 hm2 hm3 hx4
  have hq1 : 0 ≤ xs.getD 12 0 / 16 ∧ xs.getD 12 0 / 16 < 16 := by omega
  clear hcc hb hA hx3 hl hm h
  generalize xs.getD 12 0 = x at *
  go_enter Try.func14, Try.ntmps14
  go_wp2_with ((with_reducible refine wpList_alloc_seg rfl rfl ?_); intro w1 HZ hL hz; refine Hid.out ?_)
  refine Lib.hid ?_
  replace HZ := Lib.hid HZ
  have HC13 := Lib.hid c13
  replace c12 := (hL.cell (p := ⟨b, o + 12, none⟩) hbl).trans c12
  have hbs1 := HB.out.below' hL hL.size
  obtain ⟨A', hcut, hA'⟩ := run_mid b o n c m hn hm1 hm3 hc hc2
  have hmid := hbs1.at_mid (s := 20) (m := m) hm1 hm3 hA'
  have HCUT := Lib.hid (hcut w1)
  have hsz1 : w.heap.size < w1.heap.size := by omega
  clear hA' hcut hbs1 c13 hz
  generalize (xs.take m).drop 20 = ys at *
  go_wp2_with ((refine wpList_slice rfl 24 (.tmp 36) (some (.const (.int .i64 20))) (some (.tmp 37)) none rfl (.slice A' (m - 20) (c - 20)) HCUT.out ?_); refine Hid.out ?_)
  refine Lib.hid ?_
  go_wp2_with fail
  refine (trparse_any A' (m - 20) (c - 20) ys w1 (by omega) (by omega) (by omega) hmid).mono ?_
  rintro e w4 ⟨oA, oc, os, rfl, hov, hos, hB4, hof⟩
  have hrl := parseL_len ys
  generalize parseL ys = r at *
  obtain ⟨ol, re⟩ := r
  dsimp only at hov hos hof hrl HX ⊢
  replace HZ := Lib.hid (HZ.out.below hB4 HZ.out.lt)
  have hL4 : Low w w4 := Below.trans hL (hB4.mono hL.size)
  clear hmid HCUT hB4 c12 hfb hx1 hx2 hr hL
  by_cases hre : re = 0
  · rw [if_pos hre] at HX
    subst hre
    obtain ⟨om, hom⟩ : ∃ om, om = ol.length := ⟨_, rfl⟩
    rw [← hom] at hos hof hrl ⊢
    clear hom
    have HOF := Lib.hid hof
    have HOS := Lib.hid hos
    have HOV := Lib.hid hov
    have HLW1 := Lib.hid hsz1
    clear hos hov hof hsz1
    go_wp2_with fail
    clear hx4 hq1
    refine wp_region_planS (fun y => Below w.heap.size w y) (.rd 0 (.rd 2 (.rd 4 (.rd 6 (.rd 8 (.rd 9 (.rd 10 (.rd 11 (.rd 12 (.rd 14 (.rd 16 (.rd 18 (.rd 20 (.rd 21 (.rd 22 (.fork 1 (.fork 3 (.fork 5 (.fork 7 (.fork 13 (.fork 15 (.fork 17 (.act 19 (.act 23 (.rd 24 (.act 25 (.rd 26 .done))))) 19 (.act 17 (.act 23 (.rd 24 (.act 25 (.rd 26 .done)))))) 19 (.act 15 (.act 17 (.act 23 (.rd 24 (.act 25 (.rd 26 .done))))))) 19 (.act 13 (.act 15 (.act 17 (.act 23 (.rd 24 (.act 25 (.rd 26 .done)))))))) 19 (.act 7 (.act 13 (.act 15 (.act 17 (.act 23 (.rd 24 (.act 25 (.rd 26 .done))))))))) 19 (.act 5 (.act 7 (.act 13 (.act 15 (.act 17 (.act 23 (.rd 24 (.act 25 (.rd 26 .done)))))))))) 19 (.act 3 (.act 5 (.act 7 (.act 13 (.act 15 (.act 17 (.act 23 (.rd 24 (.act 25 (.rd 26 .done))))))))))) 19 (.act 1 (.act 3 (.act 5 (.act 7 (.act 13 (.act 15 (.act 17 (.act 23 (.rd 24 (.act 25 (.rd 26 .done))))))))))))))))))))))))))) (by kernel_rfl) (by kernel_rfl) (fun _ _ d _ _ h => by cases d <;> exact h) (by kernel_rfl) (Below.drew hL4) ?_
    replace hL4 := Below.drew hL4
    replace HOS : Hid (Os w4.drew w4.drew.heap.size oA om os) := Lib.hid (HOS.out.keep fun _ _ => rfl)
    replace HZ := Lib.hid HZ.out.drew
    generalize w4.drew = u at *
    have hr13 := HB.out.nonneg 13
    have HX13 := Lib.hid (show segS xs m ol = ⟨num2 xs 0, num2 xs 2, num4 xs 4, num4 xs 8, xs.getD 13 0, num2 xs 14, num2 xs 16, num2 xs 18, ol, xs.drop m⟩ from rfl)
    have w13 : IntKind.i64.wrap (xs.getD 13 0) = xs.getD 13 0 := wraps_i64 _ hr13.1 (by omega)
    generalize xs.getD 13 0 = x13 at *
    obtain ⟨A2, hcut2, hA2⟩ := run_behind b o n c m hn hm3 hc hc2
    have HCUT2 := Lib.hid hcut2
    have HA2 := Lib.hid hA2
    clear hA2 hcut2
    iterate 14 (refine walkS_read (v := _) rfl (by rfl) (by intro y hy; have e13 := (hy.cell (p := ⟨b, o + 13, none⟩) hbl).trans HC13.out; go_simp; try rfl) ?_; simp only [Act.put, List.setIfInBounds_toArray, List.set_cons_zero, List.set_cons_succ])
    refine walkS_read (v := .slice A2 (n - m) (c - m)) rfl (by rfl) (by intro y hy; exact exec_slice (HCUT2.out y)) ?_
    simp only [Act.put, List.setIfInBounds_toArray, List.set_cons_zero, List.set_cons_succ]
    have HU : Hid (∀ y, Low u y → Below w.heap.size w y ∧ Bs y y.heap.size (some ⟨b, o, none⟩) n xs) := Lib.hid fun y hy => ⟨Below.trans hL4 (hy.mono hL4.size), HB.out.below' (Below.trans hL4 (hy.mono hL4.size)) (Nat.le_trans hL4.size hy.size)⟩
    have hLU : Low u u := Low.refl u
    have HRU := Lib.hid (show w.heap.size ≠ u.heap.size from fun e => by have := HZ.out.lt; omega)
    clear w13
    refine walkS_fork ?_ ?_
    · refine walkS_act rfl (by rfl) (fun K hK => ?_)
      go_simp
      refine (rftwo_any (some ⟨b, o, none⟩) n c 0 0 xs u hn (HU.out u hLU).2 rfl (by omega)).mono ?_
      rintro e v ⟨rfl, k, rfl⟩
      replace hLU : Low u (u.drewN k) := below_drewN hLU k
      go_simp
      refine hK _ _ (HU.out _ hLU).1 ?_
      clear hK K
      generalize u.drewN k = y1 at *
      refine walkS_fork ?_ ?_
      · refine walkS_act rfl (by rfl) (fun K hK => ?_)
        go_simp
        refine (rftwo_any (some ⟨b, o, none⟩) n c 2 2 xs y1 hn (HU.out y1 hLU).2 rfl (by omega)).mono ?_
        rintro e v ⟨rfl, k, rfl⟩
        replace hLU : Low u (y1.drewN k) := below_drewN hLU k
        go_simp
        refine hK _ _ (HU.out _ hLU).1 ?_
        clear hK K
        generalize y1.drewN k = y2 at *
        refine walkS_fork ?_ ?_
        · refine walkS_act rfl (by rfl) (fun K hK => ?_)
          go_simp
          refine (rffour_any (some ⟨b, o, none⟩) n c 4 4 xs y2 hn (HU.out y2 hLU).2 rfl (by omega)).mono ?_
          rintro e v ⟨rfl, k, rfl⟩
          replace hLU : Low u (y2.drewN k) := below_drewN hLU k
          go_simp
          refine hK _ _ (HU.out _ hLU).1 ?_
          clear hK K
          generalize y2.drewN k = y3 at *
          refine walkS_fork ?_ ?_
          · refine walkS_act rfl (by rfl) (fun K hK => ?_)
            go_simp
            refine (rffour_any (some ⟨b, o, none⟩) n c 8 8 xs y3 hn (HU.out y3 hLU).2 rfl (by omega)).mono ?_
            rintro e v ⟨rfl, k, rfl⟩
            replace hLU : Low u (y3.drewN k) := below_drewN hLU k
            go_simp
            refine hK _ _ (HU.out _ hLU).1 ?_
            clear hK K
            generalize y3.drewN k = y4 at *
            refine walkS_fork ?_ ?_
            · refine walkS_act rfl (by rfl) (fun K hK => ?_)
              go_simp
              refine (rftwo_any (some ⟨b, o, none⟩) n c 14 14 xs y4 hn (HU.out y4 hLU).2 rfl (by omega)).mono ?_
              rintro e v ⟨rfl, k, rfl⟩
              replace hLU : Low u (y4.drewN k) := below_drewN hLU k
              go_simp
              refine hK _ _ (HU.out _ hLU).1 ?_
              clear hK K
              generalize y4.drewN k = y5 at *
              refine walkS_fork ?_ ?_
              · refine walkS_act rfl (by rfl) (fun K hK => ?_)
                go_simp
                refine (rftwo_any (some ⟨b, o, none⟩) n c 16 16 xs y5 hn (HU.out y5 hLU).2 rfl (by omega)).mono ?_
                rintro e v ⟨rfl, k, rfl⟩
                replace hLU : Low u (y5.drewN k) := below_drewN hLU k
                go_simp
                refine hK _ _ (HU.out _ hLU).1 ?_
                clear hK K
                generalize y5.drewN k = y6 at *
                refine walkS_fork ?_ ?_
                · refine walkS_act rfl (by rfl) (fun K hK => ?_)
                  go_simp
                  refine (rftwo_any (some ⟨b, o, none⟩) n c 18 18 xs y6 hn (HU.out y6 hLU).2 rfl (by omega)).mono ?_
                  rintro e v ⟨rfl, k, rfl⟩
                  replace hLU : Low u (y6.drewN k) := below_drewN hLU k
                  go_simp
                  refine hK _ _ (HU.out _ hLU).1 ?_
                  clear hK K
                  generalize y6.drewN k = y7 at *
                  refine walkS_act rfl (by rfl) (fun K hK => ?_)
                  go_simp
                  obtain ⟨gE, hgE⟩ : ∃ g, g = y7.heap.size := ⟨_, rfl⟩
                  have hOwn : OwnB 5 (y7.alloc (.cells #[] 5)) u.heap.size (some ⟨gE, 0, none⟩) 0 0 [] := by rw [hgE]; exact OwnB.fresh y7 5 hLU.size
                  rw [← hgE]
                  clear hgE
                  replace hLU : Low u (y7.alloc (.cells #[] 5)) := hLU.trans (Low.alloc _ _)
                  refine hK _ _ (HU.out _ hLU).1 ?_
                  clear hK K
                  generalize y7.alloc (.cells #[] 5) = y8 at *
                  generalize y8 = yz at *
                  refine walkS_act rfl (by rfl) (fun K hK => ?_)
                  have hsrc := ((HU.out yz hLU).2.at_behind (s := m) hm3 HA2.out)
                  refine wp_append_bs (.tmp 65) (.tmp 68) _ rfl u.heap.size 5 i0 Try.underlying24 hi hz0 hz1 hz2 _ 0 0 [] rfl hOwn A2 (n - m) (c - m) _ _ rfl hsrc (by omega) hLU.size ?_
                  intro A9 c9 w9 hO9 hg9 hx9
                  have hL9 : Low u w9 := hLU.grown hg9 hLU.size (fun k hk => (hOwn.lt k hk).1)
                  refine hK _ _ (HU.out _ hL9).1 ?_
                  clear hK K hsrc hg9 hx9 hOwn hLU
                  simp only [Act.put, List.setIfInBounds_toArray, List.set_cons_zero, List.set_cons_succ, Nat.zero_add, List.nil_append] at hO9 ⊢
                  refine walkS_read (v := .agg (segC ⟨num2 xs 0, num2 xs 2, num4 xs 4, num4 xs 8, x13, num2 xs 14, num2 xs 16, num2 xs 18, oA, om, oc, os, A9, n - m, c9, xs.drop m⟩).toArray) rfl (by rfl) (by intro y hy; go_simp; try rfl) ?_
                  simp only [Act.put, List.setIfInBounds_toArray, List.set_cons_zero, List.set_cons_succ]
                  replace HZ := Lib.hid (HZ.out.below hL9 HZ.out.lt)
                  refine walkS_act rfl (by rfl) (fun K hK => ?_)
                  refine wp_store_row 26 (.tmp 2) (.tmp 70) rfl w.heap.size (segC ⟨num2 xs 0, num2 xs 2, num4 xs 4, num4 xs 8, x13, num2 xs 14, num2 xs 16, num2 xs 18, oA, om, oc, os, A9, n - m, c9, xs.drop m⟩).toArray rfl rfl 26 _ HZ.out (by rw [seg_size]; rfl) rfl (segC_one _) ?_
                  have hBE := (HU.out _ hL9).1.trans (low_setRow w9 w.heap.size (segC ⟨num2 xs 0, num2 xs 2, num4 xs 4, num4 xs 8, x13, num2 xs 14, num2 xs 16, num2 xs 18, oA, om, oc, os, A9, n - m, c9, xs.drop m⟩).toArray (Nat.le_refl _))
                  refine hK _ _ hBE ?_
                  clear hK K
                  have HG := BlkV.setRow HZ.out (segC ⟨num2 xs 0, num2 xs 2, num4 xs 4, num4 xs 8, x13, num2 xs 14, num2 xs 16, num2 xs 18, oA, om, oc, os, A9, n - m, c9, xs.drop m⟩)
                  have hend := tcparse_end (w := w) (u := u) (w9 := w9) hL9 hO9 HOS.out HOF.out HLW1.out hL4.size (setRow_oth w9 w.heap.size (segC ⟨num2 xs 0, num2 xs 2, num4 xs 4, num4 xs 8, x13, num2 xs 14, num2 xs 16, num2 xs 18, oA, om, oc, os, A9, n - m, c9, xs.drop m⟩).toArray) (by simp) HB.out.all (by omega) (by omega) hr13 HRU.out (c := oc) (m := m)
                  clear HZ HOS HOF HU hL9 hO9
                  generalize w9.setRow w.heap.size (segC ⟨num2 xs 0, num2 xs 2, num4 xs 4, num4 xs 8, x13, num2 xs 14, num2 xs 16, num2 xs 18, oA, om, oc, os, A9, n - m, c9, xs.drop m⟩).toArray = wE at *
                  simp only [Act.put]
                  refine walkS_read (v := _) rfl (by rfl) (by intro y hy; go_simp; try rfl) ?_
                  simp only [Act.put, List.setIfInBounds_toArray, List.set_cons_zero, List.set_cons_succ]
                  unfold walkS
                  go_wp2
                  refine ret_seg Try.results14 rfl rfl HG (GivesS.of HX.out ?_ hend hBE) rfl
                  rw [HX13.out, ← HOV.out]
                  rfl
                · refine walkS_act rfl (by rfl) (fun K hK => ?_)
                  go_simp
                  obtain ⟨gE, hgE⟩ : ∃ g, g = y6.heap.size := ⟨_, rfl⟩
                  have hOwn : OwnB 5 (y6.alloc (.cells #[] 5)) u.heap.size (some ⟨gE, 0, none⟩) 0 0 [] := by rw [hgE]; exact OwnB.fresh y6 5 hLU.size
                  rw [← hgE]
                  clear hgE
                  replace hLU : Low u (y6.alloc (.cells #[] 5)) := hLU.trans (Low.alloc _ _)
                  refine hK _ _ (HU.out _ hLU).1 ?_
                  clear hK K
                  generalize y6.alloc (.cells #[] 5) = y9 at *
                  refine walkS_act rfl (by rfl) (fun K hK => ?_)
                  go_simp
                  refine (rftwo_any (some ⟨b, o, none⟩) n c 18 18 xs y9 hn (HU.out y9 hLU).2 rfl (by omega)).mono ?_
                  rintro e v ⟨rfl, k, rfl⟩
                  replace hLU : Low u (y9.drewN k) := below_drewN hLU k
                  replace hOwn : OwnB 5 (y9.drewN k) u.heap.size (some ⟨gE, 0, none⟩) 0 0 [] := hOwn
                  go_simp
                  refine hK _ _ (HU.out _ hLU).1 ?_
                  clear hK K
                  generalize y9.drewN k = y10 at *
                  generalize y10 = yz at *
                  refine walkS_act rfl (by rfl) (fun K hK => ?_)
                  have hsrc := ((HU.out yz hLU).2.at_behind (s := m) hm3 HA2.out)
                  refine wp_append_bs (.tmp 65) (.tmp 68) _ rfl u.heap.size 5 i0 Try.underlying24 hi hz0 hz1 hz2 _ 0 0 [] rfl hOwn A2 (n - m) (c - m) _ _ rfl hsrc (by omega) hLU.size ?_
                  intro A9 c9 w9 hO9 hg9 hx9
                  have hL9 : Low u w9 := hLU.grown hg9 hLU.size (fun k hk => (hOwn.lt k hk).1)
                  refine hK _ _ (HU.out _ hL9).1 ?_
                  clear hK K hsrc hg9 hx9 hOwn hLU
                  simp only [Act.put, List.setIfInBounds_toArray, List.set_cons_zero, List.set_cons_succ, Nat.zero_add, List.nil_append] at hO9 ⊢
                  refine walkS_read (v := .agg (segC ⟨num2 xs 0, num2 xs 2, num4 xs 4, num4 xs 8, x13, num2 xs 14, num2 xs 16, num2 xs 18, oA, om, oc, os, A9, n - m, c9, xs.drop m⟩).toArray) rfl (by rfl) (by intro y hy; go_simp; try rfl) ?_
                  simp only [Act.put, List.setIfInBounds_toArray, List.set_cons_zero, List.set_cons_succ]
                  replace HZ := Lib.hid (HZ.out.below hL9 HZ.out.lt)
                  refine walkS_act rfl (by rfl) (fun K hK => ?_)
                  refine wp_store_row 26 (.tmp 2) (.tmp 70) rfl w.heap.size (segC ⟨num2 xs 0, num2 xs 2, num4 xs 4, num4 xs 8, x13, num2 xs 14, num2 xs 16, num2 xs 18, oA, om, oc, os, A9, n - m, c9, xs.drop m⟩).toArray rfl rfl 26 _ HZ.out (by rw [seg_size]; rfl) rfl (segC_one _) ?_
                  have hBE := (HU.out _ hL9).1.trans (low_setRow w9 w.heap.size (segC ⟨num2 xs 0, num2 xs 2, num4 xs 4, num4 xs 8, x13, num2 xs 14, num2 xs 16, num2 xs 18, oA, om, oc, os, A9, n - m, c9, xs.drop m⟩).toArray (Nat.le_refl _))
                  refine hK _ _ hBE ?_
                  clear hK K
                  have HG := BlkV.setRow HZ.out (segC ⟨num2 xs 0, num2 xs 2, num4 xs 4, num4 xs 8, x13, num2 xs 14, num2 xs 16, num2 xs 18, oA, om, oc, os, A9, n - m, c9, xs.drop m⟩)
                  have hend := tcparse_end (w := w) (u := u) (w9 := w9) hL9 hO9 HOS.out HOF.out HLW1.out hL4.size (setRow_oth w9 w.heap.size (segC ⟨num2 xs 0, num2 xs 2, num4 xs 4, num4 xs 8, x13, num2 xs 14, num2 xs 16, num2 xs 18, oA, om, oc, os, A9, n - m, c9, xs.drop m⟩).toArray) (by simp) HB.out.all (by omega) (by omega) hr13 HRU.out (c := oc) (m := m)
                  clear HZ HOS HOF HU hL9 hO9
                  generalize w9.setRow w.heap.size (segC ⟨num2 xs 0, num2 xs 2, num4 xs 4, num4 xs 8, x13, num2 xs 14, num2 xs 16, num2 xs 18, oA, om, oc, os, A9, n - m, c9, xs.drop m⟩).toArray = wE at *
                  simp only [Act.put]
                  refine walkS_read (v := _) rfl (by rfl) (by intro y hy; go_simp; try rfl) ?_
                  simp only [Act.put, List.setIfInBounds_toArray, List.set_cons_zero, List.set_cons_succ]
                  unfold walkS
                  go_wp2
                  refine ret_seg Try.results14 rfl rfl HG (GivesS.of HX.out ?_ hend hBE) rfl
                  rw [HX13.out, ← HOV.out]
                  rfl
              · refine walkS_act rfl (by rfl) (fun K hK => ?_)
                go_simp
                obtain ⟨gE, hgE⟩ : ∃ g, g = y5.heap.size := ⟨_, rfl⟩
                have hOwn : OwnB 5 (y5.alloc (.cells #[] 5)) u.heap.size (some ⟨gE, 0, none⟩) 0 0 [] := by rw [hgE]; exact OwnB.fresh y5 5 hLU.size
                rw [← hgE]
                clear hgE
                replace hLU : Low u (y5.alloc (.cells #[] 5)) := hLU.trans (Low.alloc _ _)
                refine hK _ _ (HU.out _ hLU).1 ?_
                clear hK K
                generalize y5.alloc (.cells #[] 5) = y11 at *
                refine walkS_act rfl (by rfl) (fun K hK => ?_)
                go_simp
                refine (rftwo_any (some ⟨b, o, none⟩) n c 16 16 xs y11 hn (HU.out y11 hLU).2 rfl (by omega)).mono ?_
                rintro e v ⟨rfl, k, rfl⟩
                replace hLU : Low u (y11.drewN k) := below_drewN hLU k
                replace hOwn : OwnB 5 (y11.drewN k) u.heap.size (some ⟨gE, 0, none⟩) 0 0 [] := hOwn
                go_simp
                refine hK _ _ (HU.out _ hLU).1 ?_
                clear hK K
                generalize y11.drewN k = y12 at *
                refine walkS_act rfl (by rfl) (fun K hK => ?_)
                go_simp
                refine (rftwo_any (some ⟨b, o, none⟩) n c 18 18 xs y12 hn (HU.out y12 hLU).2 rfl (by omega)).mono ?_
                rintro e v ⟨rfl, k, rfl⟩
                replace hLU : Low u (y12.drewN k) := below_drewN hLU k
                replace hOwn : OwnB 5 (y12.drewN k) u.heap.size (some ⟨gE, 0, none⟩) 0 0 [] := hOwn
                go_simp
                refine hK _ _ (HU.out _ hLU).1 ?_
                clear hK K
                generalize y12.drewN k = y13 at *
                generalize y13 = yz at *
                refine walkS_act rfl (by rfl) (fun K hK => ?_)
                have hsrc := ((HU.out yz hLU).2.at_behind (s := m) hm3 HA2.out)
                refine wp_append_bs (.tmp 65) (.tmp 68) _ rfl u.heap.size 5 i0 Try.underlying24 hi hz0 hz1 hz2 _ 0 0 [] rfl hOwn A2 (n - m) (c - m) _ _ rfl hsrc (by omega) hLU.size ?_
                intro A9 c9 w9 hO9 hg9 hx9
                have hL9 : Low u w9 := hLU.grown hg9 hLU.size (fun k hk => (hOwn.lt k hk).1)
                refine hK _ _ (HU.out _ hL9).1 ?_
                clear hK K hsrc hg9 hx9 hOwn hLU
                simp only [Act.put, List.setIfInBounds_toArray, List.set_cons_zero, List.set_cons_succ, Nat.zero_add, List.nil_append] at hO9 ⊢
                refine walkS_read (v := .agg (segC ⟨num2 xs 0, num2 xs 2, num4 xs 4, num4 xs 8, x13, num2 xs 14, num2 xs 16, num2 xs 18, oA, om, oc, os, A9, n - m, c9, xs.drop m⟩).toArray) rfl (by rfl) (by intro y hy; go_simp; try rfl) ?_
                simp only [Act.put, List.setIfInBounds_toArray, List.set_cons_zero, List.set_cons_succ]
                replace HZ := Lib.hid (HZ.out.below hL9 HZ.out.lt)
                refine walkS_act rfl (by rfl) (fun K hK => ?_)
                refine wp_store_row 26 (.tmp 2) (.tmp 70) rfl w.heap.size (segC ⟨num2 xs 0, num2 xs 2, num4 xs 4, num4 xs 8, x13, num2 xs 14, num2 xs 16, num2 xs 18, oA, om, oc, os, A9, n - m, c9, xs.drop m⟩).toArray rfl rfl 26 _ HZ.out (by rw [seg_size]; rfl) rfl (segC_one _) ?_
                have hBE := (HU.out _ hL9).1.trans (low_setRow w9 w.heap.size (segC ⟨num2 xs 0, num2 xs 2, num4 xs 4, num4 xs 8, x13, num2 xs 14, num2 xs 16, num2 xs 18, oA, om, oc, os, A9, n - m, c9, xs.drop m⟩).toArray (Nat.le_refl _))
                refine hK _ _ hBE ?_
                clear hK K
                have HG := BlkV.setRow HZ.out (segC ⟨num2 xs 0, num2 xs 2, num4 xs 4, num4 xs 8, x13, num2 xs 14, num2 xs 16, num2 xs 18, oA, om, oc, os, A9, n - m, c9, xs.drop m⟩)
                have hend := tcparse_end (w := w) (u := u) (w9 := w9) hL9 hO9 HOS.out HOF.out HLW1.out hL4.size (setRow_oth w9 w.heap.size (segC ⟨num2 xs 0, num2 xs 2, num4 xs 4, num4 xs 8, x13, num2 xs 14, num2 xs 16, num2 xs 18, oA, om, oc, os, A9, n - m, c9, xs.drop m⟩).toArray) (by simp) HB.out.all (by omega) (by omega) hr13 HRU.out (c := oc) (m := m)
                clear HZ HOS HOF HU hL9 hO9
                generalize w9.setRow w.heap.size (segC ⟨num2 xs 0, num2 xs 2, num4 xs 4, num4 xs 8, x13, num2 xs 14, num2 xs 16, num2 xs 18, oA, om, oc, os, A9, n - m, c9, xs.drop m⟩).toArray = wE at *
                simp only [Act.put]
                refine walkS_read (v := _) rfl (by rfl) (by intro y hy; go_simp; try rfl) ?_
                simp only [Act.put, List.setIfInBounds_toArray, List.set_cons_zero, List.set_cons_succ]
                unfold walkS
                go_wp2
                refine ret_seg Try.results14 rfl rfl HG (GivesS.of HX.out ?_ hend hBE) rfl
                rw [HX13.out, ← HOV.out]
                rfl
            · refine walkS_act rfl (by rfl) (fun K hK => ?_)
              go_simp
              obtain ⟨gE, hgE⟩ : ∃ g, g = y4.heap.size := ⟨_, rfl⟩
              have hOwn : OwnB 5 (y4.alloc (.cells #[] 5)) u.heap.size (some ⟨gE, 0, none⟩) 0 0 [] := by rw [hgE]; exact OwnB.fresh y4 5 hLU.size
              rw [← hgE]
              clear hgE
              replace hLU : Low u (y4.alloc (.cells #[] 5)) := hLU.trans (Low.alloc _ _)
              refine hK _ _ (HU.out _ hLU).1 ?_
              clear hK K
              generalize y4.alloc (.cells #[] 5) = y14 at *
              refine walkS_act rfl (by rfl) (fun K hK => ?_)
              go_simp
              refine (rftwo_any (some ⟨b, o, none⟩) n c 14 14 xs y14 hn (HU.out y14 hLU).2 rfl (by omega)).mono ?_
              rintro e v ⟨rfl, k, rfl⟩
              replace hLU : Low u (y14.drewN k) := below_drewN hLU k
              replace hOwn : OwnB 5 (y14.drewN k) u.heap.size (some ⟨gE, 0, none⟩) 0 0 [] := hOwn
              go_simp
              refine hK _ _ (HU.out _ hLU).1 ?_
              clear hK K
              generalize y14.drewN k = y15 at *
              refine walkS_act rfl (by rfl) (fun K hK => ?_)
              go_simp
              refine (rftwo_any (some ⟨b, o, none⟩) n c 16 16 xs y15 hn (HU.out y15 hLU).2 rfl (by omega)).mono ?_
              rintro e v ⟨rfl, k, rfl⟩
              replace hLU : Low u (y15.drewN k) := below_drewN hLU k
              replace hOwn : OwnB 5 (y15.drewN k) u.heap.size (some ⟨gE, 0, none⟩) 0 0 [] := hOwn
              go_simp
              refine hK _ _ (HU.out _ hLU).1 ?_
              clear hK K
              generalize y15.drewN k = y16 at *
              refine walkS_act rfl (by rfl) (fun K hK => ?_)
              go_simp
              refine (rftwo_any (some ⟨b, o, none⟩) n c 18 18 xs y16 hn (HU.out y16 hLU).2 rfl (by omega)).mono ?_
              rintro e v ⟨rfl, k, rfl⟩
              replace hLU : Low u (y16.drewN k) := below_drewN hLU k
              replace hOwn : OwnB 5 (y16.drewN k) u.heap.size (some ⟨gE, 0, none⟩) 0 0 [] := hOwn
              go_simp
              refine hK _ _ (HU.out _ hLU).1 ?_
              clear hK K
              generalize y16.drewN k = y17 at *
              generalize y17 = yz at *
              refine walkS_act rfl (by rfl) (fun K hK => ?_)
              have hsrc := ((HU.out yz hLU).2.at_behind (s := m) hm3 HA2.out)
              refine wp_append_bs (.tmp 65) (.tmp 68) _ rfl u.heap.size 5 i0 Try.underlying24 hi hz0 hz1 hz2 _ 0 0 [] rfl hOwn A2 (n - m) (c - m) _ _ rfl hsrc (by omega) hLU.size ?_
              intro A9 c9 w9 hO9 hg9 hx9
              have hL9 : Low u w9 := hLU.grown hg9 hLU.size (fun k hk => (hOwn.lt k hk).1)
              refine hK _ _ (HU.out _ hL9).1 ?_
              clear hK K hsrc hg9 hx9 hOwn hLU
              simp only [Act.put, List.setIfInBounds_toArray, List.set_cons_zero, List.set_cons_succ, Nat.zero_add, List.nil_append] at hO9 ⊢
              refine walkS_read (v := .agg (segC ⟨num2 xs 0, num2 xs 2, num4 xs 4, num4 xs 8, x13, num2 xs 14, num2 xs 16, num2 xs 18, oA, om, oc, os, A9, n - m, c9, xs.drop m⟩).toArray) rfl (by rfl) (by intro y hy; go_simp; try rfl) ?_
              simp only [Act.put, List.setIfInBounds_toArray, List.set_cons_zero, List.set_cons_succ]
              replace HZ := Lib.hid (HZ.out.below hL9 HZ.out.lt)
              refine walkS_act rfl (by rfl) (fun K hK => ?_)
              refine wp_store_row 26 (.tmp 2) (.tmp 70) rfl w.heap.size (segC ⟨num2 xs 0, num2 xs 2, num4 xs 4, num4 xs 8, x13, num2 xs 14, num2 xs 16, num2 xs 18, oA, om, oc, os, A9, n - m, c9, xs.drop m⟩).toArray rfl rfl 26 _ HZ.out (by rw [seg_size]; rfl) rfl (segC_one _) ?_
              have hBE := (HU.out _ hL9).1.trans (low_setRow w9 w.heap.size (segC ⟨num2 xs 0, num2 xs 2, num4 xs 4, num4 xs 8, x13, num2 xs 14, num2 xs 16, num2 xs 18, oA, om, oc, os, A9, n - m, c9, xs.drop m⟩).toArray (Nat.le_refl _))
              refine hK _ _ hBE ?_
              clear hK K
              have HG := BlkV.setRow HZ.out (segC ⟨num2 xs 0, num2 xs 2, num4 xs 4, num4 xs 8, x13, num2 xs 14, num2 xs 16, num2 xs 18, oA, om, oc, os, A9, n - m, c9, xs.drop m⟩)
              have hend := tcparse_end (w := w) (u := u) (w9 := w9) hL9 hO9 HOS.out HOF.out HLW1.out hL4.size (setRow_oth w9 w.heap.size (segC ⟨num2 xs 0, num2 xs 2, num4 xs 4, num4 xs 8, x13, num2 xs 14, num2 xs 16, num2 xs 18, oA, om, oc, os, A9, n - m, c9, xs.drop m⟩).toArray) (by simp) HB.out.all (by omega) (by omega) hr13 HRU.out (c := oc) (m := m)
              clear HZ HOS HOF HU hL9 hO9
              generalize w9.setRow w.heap.size (segC ⟨num2 xs 0, num2 xs 2, num4 xs 4, num4 xs 8, x13, num2 xs 14, num2 xs 16, num2 xs 18, oA, om, oc, os, A9, n - m, c9, xs.drop m⟩).toArray = wE at *
              simp only [Act.put]
              refine walkS_read (v := _) rfl (by rfl) (by intro y hy; go_simp; try rfl) ?_
              simp only [Act.put, List.setIfInBounds_toArray, List.set_cons_zero, List.set_cons_succ]
              unfold walkS
              go_wp2
              refine ret_seg Try.results14 rfl rfl HG (GivesS.of HX.out ?_ hend hBE) rfl
              rw [HX13.out, ← HOV.out]
              rfl
          · refine walkS_act rfl (by rfl) (fun K hK => ?_)
            go_simp
            obtain ⟨gE, hgE⟩ : ∃ g, g = y3.heap.size := ⟨_, rfl⟩
            have hOwn : OwnB 5 (y3.alloc (.cells #[] 5)) u.heap.size (some ⟨gE, 0, none⟩) 0 0 [] := by rw [hgE]; exact OwnB.fresh y3 5 hLU.size
            rw [← hgE]
            clear hgE
            replace hLU : Low u (y3.alloc (.cells #[] 5)) := hLU.trans (Low.alloc _ _)
            refine hK _ _ (HU.out _ hLU).1 ?_
            clear hK K
            generalize y3.alloc (.cells #[] 5) = y18 at *
            refine walkS_act rfl (by rfl) (fun K hK => ?_)
            go_simp
            refine (rffour_any (some ⟨b, o, none⟩) n c 8 8 xs y18 hn (HU.out y18 hLU).2 rfl (by omega)).mono ?_
            rintro e v ⟨rfl, k, rfl⟩
            replace hLU : Low u (y18.drewN k) := below_drewN hLU k
            replace hOwn : OwnB 5 (y18.drewN k) u.heap.size (some ⟨gE, 0, none⟩) 0 0 [] := hOwn
            go_simp
            refine hK _ _ (HU.out _ hLU).1 ?_
            clear hK K
            generalize y18.drewN k = y19 at *
            refine walkS_act rfl (by rfl) (fun K hK => ?_)
            go_simp
            refine (rftwo_any (some ⟨b, o, none⟩) n c 14 14 xs y19 hn (HU.out y19 hLU).2 rfl (by omega)).mono ?_
            rintro e v ⟨rfl, k, rfl⟩
            replace hLU : Low u (y19.drewN k) := below_drewN hLU k
            replace hOwn : OwnB 5 (y19.drewN k) u.heap.size (some ⟨gE, 0, none⟩) 0 0 [] := hOwn
            go_simp
            refine hK _ _ (HU.out _ hLU).1 ?_
            clear hK K
            generalize y19.drewN k = y20 at *
            refine walkS_act rfl (by rfl) (fun K hK => ?_)
            go_simp
            refine (rftwo_any (some ⟨b, o, none⟩) n c 16 16 xs y20 hn (HU.out y20 hLU).2 rfl (by omega)).mono ?_
            rintro e v ⟨rfl, k, rfl⟩
            replace hLU : Low u (y20.drewN k) := below_drewN hLU k
            replace hOwn : OwnB 5 (y20.drewN k) u.heap.size (some ⟨gE, 0, none⟩) 0 0 [] := hOwn
            go_simp
            refine hK _ _ (HU.out _ hLU).1 ?_
            clear hK K
            generalize y20.drewN k = y21 at *
            refine walkS_act rfl (by rfl) (fun K hK => ?_)
            go_simp
            refine (rftwo_any (some ⟨b, o, none⟩) n c 18 18 xs y21 hn (HU.out y21 hLU).2 rfl (by omega)).mono ?_
            rintro e v ⟨rfl, k, rfl⟩
            replace hLU : Low u (y21.drewN k) := below_drewN hLU k
            replace hOwn : OwnB 5 (y21.drewN k) u.heap.size (some ⟨gE, 0, none⟩) 0 0 [] := hOwn
            go_simp
            refine hK _ _ (HU.out _ hLU).1 ?_
            clear hK K
            generalize y21.drewN k = y22 at *
            generalize y22 = yz at *
            refine walkS_act rfl (by rfl) (fun K hK => ?_)
            have hsrc := ((HU.out yz hLU).2.at_behind (s := m) hm3 HA2.out)
            refine wp_append_bs (.tmp 65) (.tmp 68) _ rfl u.heap.size 5 i0 Try.underlying24 hi hz0 hz1 hz2 _ 0 0 [] rfl hOwn A2 (n - m) (c - m) _ _ rfl hsrc (by omega) hLU.size ?_
            intro A9 c9 w9 hO9 hg9 hx9
            have hL9 : Low u w9 := hLU.grown hg9 hLU.size (fun k hk => (hOwn.lt k hk).1)
            refine hK _ _ (HU.out _ hL9).1 ?_
            clear hK K hsrc hg9 hx9 hOwn hLU
            simp only [Act.put, List.setIfInBounds_toArray, List.set_cons_zero, List.set_cons_succ, Nat.zero_add, List.nil_append] at hO9 ⊢
            refine walkS_read (v := .agg (segC ⟨num2 xs 0, num2 xs 2, num4 xs 4, num4 xs 8, x13, num2 xs 14, num2 xs 16, num2 xs 18, oA, om, oc, os, A9, n - m, c9, xs.drop m⟩).toArray) rfl (by rfl) (by intro y hy; go_simp; try rfl) ?_
            simp only [Act.put, List.setIfInBounds_toArray, List.set_cons_zero, List.set_cons_succ]
            replace HZ := Lib.hid (HZ.out.below hL9 HZ.out.lt)
            refine walkS_act rfl (by rfl) (fun K hK => ?_)
            refine wp_store_row 26 (.tmp 2) (.tmp 70) rfl w.heap.size (segC ⟨num2 xs 0, num2 xs 2, num4 xs 4, num4 xs 8, x13, num2 xs 14, num2 xs 16, num2 xs 18, oA, om, oc, os, A9, n - m, c9, xs.drop m⟩).toArray rfl rfl 26 _ HZ.out (by rw [seg_size]; rfl) rfl (segC_one _) ?_
            have hBE := (HU.out _ hL9).1.trans (low_setRow w9 w.heap.size (segC ⟨num2 xs 0, num2 xs 2, num4 xs 4, num4 xs 8, x13, num2 xs 14, num2 xs 16, num2 xs 18, oA, om, oc, os, A9, n - m, c9, xs.drop m⟩).toArray (Nat.le_refl _))
            refine hK _ _ hBE ?_
            clear hK K
            have HG := BlkV.setRow HZ.out (segC ⟨num2 xs 0, num2 xs 2, num4 xs 4, num4 xs 8, x13, num2 xs 14, num2 xs 16, num2 xs 18, oA, om, oc, os, A9, n - m, c9, xs.drop m⟩)
            have hend := tcparse_end (w := w) (u := u) (w9 := w9) hL9 hO9 HOS.out HOF.out HLW1.out hL4.size (setRow_oth w9 w.heap.size (segC ⟨num2 xs 0, num2 xs 2, num4 xs 4, num4 xs 8, x13, num2 xs 14, num2 xs 16, num2 xs 18, oA, om, oc, os, A9, n - m, c9, xs.drop m⟩).toArray) (by simp) HB.out.all (by omega) (by omega) hr13 HRU.out (c := oc) (m := m)
            clear HZ HOS HOF HU hL9 hO9
            generalize w9.setRow w.heap.size (segC ⟨num2 xs 0, num2 xs 2, num4 xs 4, num4 xs 8, x13, num2 xs 14, num2 xs 16, num2 xs 18, oA, om, oc, os, A9, n - m, c9, xs.drop m⟩).toArray = wE at *
            simp only [Act.put]
            refine walkS_read (v := _) rfl (by rfl) (by intro y hy; go_simp; try rfl) ?_
            simp only [Act.put, List.setIfInBounds_toArray, List.set_cons_zero, List.set_cons_succ]
            unfold walkS
            go_wp2
            refine ret_seg Try.results14 rfl rfl HG (GivesS.of HX.out ?_ hend hBE) rfl
            rw [HX13.out, ← HOV.out]
            rfl
        · refine walkS_act rfl (by rfl) (fun K hK => ?_)
          go_simp
          obtain ⟨gE, hgE⟩ : ∃ g, g = y2.heap.size := ⟨_, rfl⟩
          have hOwn : OwnB 5 (y2.alloc (.cells #[] 5)) u.heap.size (some ⟨gE, 0, none⟩) 0 0 [] := by rw [hgE]; exact OwnB.fresh y2 5 hLU.size
          rw [← hgE]
          clear hgE
          replace hLU : Low u (y2.alloc (.cells #[] 5)) := hLU.trans (Low.alloc _ _)
          refine hK _ _ (HU.out _ hLU).1 ?_
          clear hK K
          generalize y2.alloc (.cells #[] 5) = y23 at *
          refine walkS_act rfl (by rfl) (fun K hK => ?_)
          go_simp
          refine (rffour_any (some ⟨b, o, none⟩) n c 4 4 xs y23 hn (HU.out y23 hLU).2 rfl (by omega)).mono ?_
          rintro e v ⟨rfl, k, rfl⟩
          replace hLU : Low u (y23.drewN k) := below_drewN hLU k
          replace hOwn : OwnB 5 (y23.drewN k) u.heap.size (some ⟨gE, 0, none⟩) 0 0 [] := hOwn
          go_simp
          refine hK _ _ (HU.out _ hLU).1 ?_
          clear hK K
          generalize y23.drewN k = y24 at *
          refine walkS_act rfl (by rfl) (fun K hK => ?_)
          go_simp
          refine (rffour_any (some ⟨b, o, none⟩) n c 8 8 xs y24 hn (HU.out y24 hLU).2 rfl (by omega)).mono ?_
          rintro e v ⟨rfl, k, rfl⟩
          replace hLU : Low u (y24.drewN k) := below_drewN hLU k
          replace hOwn : OwnB 5 (y24.drewN k) u.heap.size (some ⟨gE, 0, none⟩) 0 0 [] := hOwn
          go_simp
          refine hK _ _ (HU.out _ hLU).1 ?_
          clear hK K
          generalize y24.drewN k = y25 at *
          refine walkS_act rfl (by rfl) (fun K hK => ?_)
          go_simp
          refine (rftwo_any (some ⟨b, o, none⟩) n c 14 14 xs y25 hn (HU.out y25 hLU).2 rfl (by omega)).mono ?_
          rintro e v ⟨rfl, k, rfl⟩
          replace hLU : Low u (y25.drewN k) := below_drewN hLU k
          replace hOwn : OwnB 5 (y25.drewN k) u.heap.size (some ⟨gE, 0, none⟩) 0 0 [] := hOwn
          go_simp
          refine hK _ _ (HU.out _ hLU).1 ?_
          clear hK K
          generalize y25.drewN k = y26 at *
          refine walkS_act rfl (by rfl) (fun K hK => ?_)
          go_simp
          refine (rftwo_any (some ⟨b, o, none⟩) n c 16 16 xs y26 hn (HU.out y26 hLU).2 rfl (by omega)).mono ?_
          rintro e v ⟨rfl, k, rfl⟩
          replace hLU : Low u (y26.drewN k) := below_drewN hLU k
          replace hOwn : OwnB 5 (y26.drewN k) u.heap.size (some ⟨gE, 0, none⟩) 0 0 [] := hOwn
          go_simp
          refine hK _ _ (HU.out _ hLU).1 ?_
          clear hK K
          generalize y26.drewN k = y27 at *
          refine walkS_act rfl (by rfl) (fun K hK => ?_)
          go_simp
          refine (rftwo_any (some ⟨b, o, none⟩) n c 18 18 xs y27 hn (HU.out y27 hLU).2 rfl (by omega)).mono ?_
          rintro e v ⟨rfl, k, rfl⟩
          replace hLU : Low u (y27.drewN k) := below_drewN hLU k
          replace hOwn : OwnB 5 (y27.drewN k) u.heap.size (some ⟨gE, 0, none⟩) 0 0 [] := hOwn
          go_simp
          refine hK _ _ (HU.out _ hLU).1 ?_
          clear hK K
          generalize y27.drewN k = y28 at *
          generalize y28 = yz at *
          refine walkS_act rfl (by rfl) (fun K hK => ?_)
          have hsrc := ((HU.out yz hLU).2.at_behind (s := m) hm3 HA2.out)
          refine wp_append_bs (.tmp 65) (.tmp 68) _ rfl u.heap.size 5 i0 Try.underlying24 hi hz0 hz1 hz2 _ 0 0 [] rfl hOwn A2 (n - m) (c - m) _ _ rfl hsrc (by omega) hLU.size ?_
          intro A9 c9 w9 hO9 hg9 hx9
          have hL9 : Low u w9 := hLU.grown hg9 hLU.size (fun k hk => (hOwn.lt k hk).1)
          refine hK _ _ (HU.out _ hL9).1 ?_
          clear hK K hsrc hg9 hx9 hOwn hLU
          simp only [Act.put, List.setIfInBounds_toArray, List.set_cons_zero, List.set_cons_succ, Nat.zero_add, List.nil_append] at hO9 ⊢
          refine walkS_read (v := .agg (segC ⟨num2 xs 0, num2 xs 2, num4 xs 4, num4 xs 8, x13, num2 xs 14, num2 xs 16, num2 xs 18, oA, om, oc, os, A9, n - m, c9, xs.drop m⟩).toArray) rfl (by rfl) (by intro y hy; go_simp; try rfl) ?_
          simp only [Act.put, List.setIfInBounds_toArray, List.set_cons_zero, List.set_cons_succ]
          replace HZ := Lib.hid (HZ.out.below hL9 HZ.out.lt)
          refine walkS_act rfl (by rfl) (fun K hK => ?_)
          refine wp_store_row 26 (.tmp 2) (.tmp 70) rfl w.heap.size (segC ⟨num2 xs 0, num2 xs 2, num4 xs 4, num4 xs 8, x13, num2 xs 14, num2 xs 16, num2 xs 18, oA, om, oc, os, A9, n - m, c9, xs.drop m⟩).toArray rfl rfl 26 _ HZ.out (by rw [seg_size]; rfl) rfl (segC_one _) ?_
          have hBE := (HU.out _ hL9).1.trans (low_setRow w9 w.heap.size (segC ⟨num2 xs 0, num2 xs 2, num4 xs 4, num4 xs 8, x13, num2 xs 14, num2 xs 16, num2 xs 18, oA, om, oc, os, A9, n - m, c9, xs.drop m⟩).toArray (Nat.le_refl _))
          refine hK _ _ hBE ?_
          clear hK K
          have HG := BlkV.setRow HZ.out (segC ⟨num2 xs 0, num2 xs 2, num4 xs 4, num4 xs 8, x13, num2 xs 14, num2 xs 16, num2 xs 18, oA, om, oc, os, A9, n - m, c9, xs.drop m⟩)
          have hend := tcparse_end (w := w) (u := u) (w9 := w9) hL9 hO9 HOS.out HOF.out HLW1.out hL4.size (setRow_oth w9 w.heap.size (segC ⟨num2 xs 0, num2 xs 2, num4 xs 4, num4 xs 8, x13, num2 xs 14, num2 xs 16, num2 xs 18, oA, om, oc, os, A9, n - m, c9, xs.drop m⟩).toArray) (by simp) HB.out.all (by omega) (by omega) hr13 HRU.out (c := oc) (m := m)
          clear HZ HOS HOF HU hL9 hO9
          generalize w9.setRow w.heap.size (segC ⟨num2 xs 0, num2 xs 2, num4 xs 4, num4 xs 8, x13, num2 xs 14, num2 xs 16, num2 xs 18, oA, om, oc, os, A9, n - m, c9, xs.drop m⟩).toArray = wE at *
          simp only [Act.put]
          refine walkS_read (v := _) rfl (by rfl) (by intro y hy; go_simp; try rfl) ?_
          simp only [Act.put, List.setIfInBounds_toArray, List.set_cons_zero, List.set_cons_succ]
          unfold walkS
          go_wp2
          refine ret_seg Try.results14 rfl rfl HG (GivesS.of HX.out ?_ hend hBE) rfl
          rw [HX13.out, ← HOV.out]
          rfl
      · refine walkS_act rfl (by rfl) (fun K hK => ?_)
        go_simp
        obtain ⟨gE, hgE⟩ : ∃ g, g = y1.heap.size := ⟨_, rfl⟩
        have hOwn : OwnB 5 (y1.alloc (.cells #[] 5)) u.heap.size (some ⟨gE, 0, none⟩) 0 0 [] := by rw [hgE]; exact OwnB.fresh y1 5 hLU.size
        rw [← hgE]
        clear hgE
        replace hLU : Low u (y1.alloc (.cells #[] 5)) := hLU.trans (Low.alloc _ _)
        refine hK _ _ (HU.out _ hLU).1 ?_
        clear hK K
        generalize y1.alloc (.cells #[] 5) = y29 at *
        refine walkS_act rfl (by rfl) (fun K hK => ?_)
        go_simp
        refine (rftwo_any (some ⟨b, o, none⟩) n c 2 2 xs y29 hn (HU.out y29 hLU).2 rfl (by omega)).mono ?_
        rintro e v ⟨rfl, k, rfl⟩
        replace hLU : Low u (y29.drewN k) := below_drewN hLU k
        replace hOwn : OwnB 5 (y29.drewN k) u.heap.size (some ⟨gE, 0, none⟩) 0 0 [] := hOwn
        go_simp
        refine hK _ _ (HU.out _ hLU).1 ?_
        clear hK K
        generalize y29.drewN k = y30 at *
        refine walkS_act rfl (by rfl) (fun K hK => ?_)
        go_simp
        refine (rffour_any (some ⟨b, o, none⟩) n c 4 4 xs y30 hn (HU.out y30 hLU).2 rfl (by omega)).mono ?_
        rintro e v ⟨rfl, k, rfl⟩
        replace hLU : Low u (y30.drewN k) := below_drewN hLU k
        replace hOwn : OwnB 5 (y30.drewN k) u.heap.size (some ⟨gE, 0, none⟩) 0 0 [] := hOwn
        go_simp
        refine hK _ _ (HU.out _ hLU).1 ?_
        clear hK K
        generalize y30.drewN k = y31 at *
        refine walkS_act rfl (by rfl) (fun K hK => ?_)
        go_simp
        refine (rffour_any (some ⟨b, o, none⟩) n c 8 8 xs y31 hn (HU.out y31 hLU).2 rfl (by omega)).mono ?_
        rintro e v ⟨rfl, k, rfl⟩
        replace hLU : Low u (y31.drewN k) := below_drewN hLU k
        replace hOwn : OwnB 5 (y31.drewN k) u.heap.size (some ⟨gE, 0, none⟩) 0 0 [] := hOwn
        go_simp
        refine hK _ _ (HU.out _ hLU).1 ?_
        clear hK K
        generalize y31.drewN k = y32 at *
        refine walkS_act rfl (by rfl) (fun K hK => ?_)
        go_simp
        refine (rftwo_any (some ⟨b, o, none⟩) n c 14 14 xs y32 hn (HU.out y32 hLU).2 rfl (by omega)).mono ?_
        rintro e v ⟨rfl, k, rfl⟩
        replace hLU : Low u (y32.drewN k) := below_drewN hLU k
        replace hOwn : OwnB 5 (y32.drewN k) u.heap.size (some ⟨gE, 0, none⟩) 0 0 [] := hOwn
        go_simp
        refine hK _ _ (HU.out _ hLU).1 ?_
        clear hK K
        generalize y32.drewN k = y33 at *
        refine walkS_act rfl (by rfl) (fun K hK => ?_)
        go_simp
        refine (rftwo_any (some ⟨b, o, none⟩) n c 16 16 xs y33 hn (HU.out y33 hLU).2 rfl (by omega)).mono ?_
        rintro e v ⟨rfl, k, rfl⟩
        replace hLU : Low u (y33.drewN k) := below_drewN hLU k
        replace hOwn : OwnB 5 (y33.drewN k) u.heap.size (some ⟨gE, 0, none⟩) 0 0 [] := hOwn
        go_simp
        refine hK _ _ (HU.out _ hLU).1 ?_
        clear hK K
        generalize y33.drewN k = y34 at *
        refine walkS_act rfl (by rfl) (fun K hK => ?_)
        go_simp
        refine (rftwo_any (some ⟨b, o, none⟩) n c 18 18 xs y34 hn (HU.out y34 hLU).2 rfl (by omega)).mono ?_
        rintro e v ⟨rfl, k, rfl⟩
        replace hLU : Low u (y34.drewN k) := below_drewN hLU k
        replace hOwn : OwnB 5 (y34.drewN k) u.heap.size (some ⟨gE, 0, none⟩) 0 0 [] := hOwn
        go_simp
        refine hK _ _ (HU.out _ hLU).1 ?_
        clear hK K
        generalize y34.drewN k = y35 at *
        generalize y35 = yz at *
        refine walkS_act rfl (by rfl) (fun K hK => ?_)
        have hsrc := ((HU.out yz hLU).2.at_behind (s := m) hm3 HA2.out)
        refine wp_append_bs (.tmp 65) (.tmp 68) _ rfl u.heap.size 5 i0 Try.underlying24 hi hz0 hz1 hz2 _ 0 0 [] rfl hOwn A2 (n - m) (c - m) _ _ rfl hsrc (by omega) hLU.size ?_
        intro A9 c9 w9 hO9 hg9 hx9
        have hL9 : Low u w9 := hLU.grown hg9 hLU.size (fun k hk => (hOwn.lt k hk).1)
        refine hK _ _ (HU.out _ hL9).1 ?_
        clear hK K hsrc hg9 hx9 hOwn hLU
        simp only [Act.put, List.setIfInBounds_toArray, List.set_cons_zero, List.set_cons_succ, Nat.zero_add, List.nil_append] at hO9 ⊢
        refine walkS_read (v := .agg (segC ⟨num2 xs 0, num2 xs 2, num4 xs 4, num4 xs 8, x13, num2 xs 14, num2 xs 16, num2 xs 18, oA, om, oc, os, A9, n - m, c9, xs.drop m⟩).toArray) rfl (by rfl) (by intro y hy; go_simp; try rfl) ?_
        simp only [Act.put, List.setIfInBounds_toArray, List.set_cons_zero, List.set_cons_succ]
        replace HZ := Lib.hid (HZ.out.below hL9 HZ.out.lt)
        refine walkS_act rfl (by rfl) (fun K hK => ?_)
        refine wp_store_row 26 (.tmp 2) (.tmp 70) rfl w.heap.size (segC ⟨num2 xs 0, num2 xs 2, num4 xs 4, num4 xs 8, x13, num2 xs 14, num2 xs 16, num2 xs 18, oA, om, oc, os, A9, n - m, c9, xs.drop m⟩).toArray rfl rfl 26 _ HZ.out (by rw [seg_size]; rfl) rfl (segC_one _) ?_
        have hBE := (HU.out _ hL9).1.trans (low_setRow w9 w.heap.size (segC ⟨num2 xs 0, num2 xs 2, num4 xs 4, num4 xs 8, x13, num2 xs 14, num2 xs 16, num2 xs 18, oA, om, oc, os, A9, n - m, c9, xs.drop m⟩).toArray (Nat.le_refl _))
        refine hK _ _ hBE ?_
        clear hK K
        have HG := BlkV.setRow HZ.out (segC ⟨num2 xs 0, num2 xs 2, num4 xs 4, num4 xs 8, x13, num2 xs 14, num2 xs 16, num2 xs 18, oA, om, oc, os, A9, n - m, c9, xs.drop m⟩)
        have hend := tcparse_end (w := w) (u := u) (w9 := w9) hL9 hO9 HOS.out HOF.out HLW1.out hL4.size (setRow_oth w9 w.heap.size (segC ⟨num2 xs 0, num2 xs 2, num4 xs 4, num4 xs 8, x13, num2 xs 14, num2 xs 16, num2 xs 18, oA, om, oc, os, A9, n - m, c9, xs.drop m⟩).toArray) (by simp) HB.out.all (by omega) (by omega) hr13 HRU.out (c := oc) (m := m)
        clear HZ HOS HOF HU hL9 hO9
        generalize w9.setRow w.heap.size (segC ⟨num2 xs 0, num2 xs 2, num4 xs 4, num4 xs 8, x13, num2 xs 14, num2 xs 16, num2 xs 18, oA, om, oc, os, A9, n - m, c9, xs.drop m⟩).toArray = wE at *
        simp only [Act.put]
        refine walkS_read (v := _) rfl (by rfl) (by intro y hy; go_simp; try rfl) ?_
        simp only [Act.put, List.setIfInBounds_toArray, List.set_cons_zero, List.set_cons_succ]
        unfold walkS
        go_wp2
        refine ret_seg Try.results14 rfl rfl HG (GivesS.of HX.out ?_ hend hBE) rfl
        rw [HX13.out, ← HOV.out]
        rfl
    · refine walkS_act rfl (by rfl) (fun K hK => ?_)
      go_simp
      obtain ⟨gE, hgE⟩ : ∃ g, g = u.heap.size := ⟨_, rfl⟩
      have hOwn : OwnB 5 (u.alloc (.cells #[] 5)) u.heap.size (some ⟨gE, 0, none⟩) 0 0 [] := by rw [hgE]; exact OwnB.fresh u 5 hLU.size
      rw [← hgE]
      clear hgE
      replace hLU : Low u (u.alloc (.cells #[] 5)) := hLU.trans (Low.alloc _ _)
      refine hK _ _ (HU.out _ hLU).1 ?_
      clear hK K
      generalize u.alloc (.cells #[] 5) = y36 at *
      refine walkS_act rfl (by rfl) (fun K hK => ?_)
      go_simp
      refine (rftwo_any (some ⟨b, o, none⟩) n c 0 0 xs y36 hn (HU.out y36 hLU).2 rfl (by omega)).mono ?_
      rintro e v ⟨rfl, k, rfl⟩
      replace hLU : Low u (y36.drewN k) := below_drewN hLU k
      replace hOwn : OwnB 5 (y36.drewN k) u.heap.size (some ⟨gE, 0, none⟩) 0 0 [] := hOwn
      go_simp
      refine hK _ _ (HU.out _ hLU).1 ?_
      clear hK K
      generalize y36.drewN k = y37 at *
      refine walkS_act rfl (by rfl) (fun K hK => ?_)
      go_simp
      refine (rftwo_any (some ⟨b, o, none⟩) n c 2 2 xs y37 hn (HU.out y37 hLU).2 rfl (by omega)).mono ?_
      rintro e v ⟨rfl, k, rfl⟩
      replace hLU : Low u (y37.drewN k) := below_drewN hLU k
      replace hOwn : OwnB 5 (y37.drewN k) u.heap.size (some ⟨gE, 0, none⟩) 0 0 [] := hOwn
      go_simp
      refine hK _ _ (HU.out _ hLU).1 ?_
      clear hK K
      generalize y37.drewN k = y38 at *
      refine walkS_act rfl (by rfl) (fun K hK => ?_)
      go_simp
      refine (rffour_any (some ⟨b, o, none⟩) n c 4 4 xs y38 hn (HU.out y38 hLU).2 rfl (by omega)).mono ?_
      rintro e v ⟨rfl, k, rfl⟩
      replace hLU : Low u (y38.drewN k) := below_drewN hLU k
      replace hOwn : OwnB 5 (y38.drewN k) u.heap.size (some ⟨gE, 0, none⟩) 0 0 [] := hOwn
      go_simp
      refine hK _ _ (HU.out _ hLU).1 ?_
      clear hK K
      generalize y38.drewN k = y39 at *
      refine walkS_act rfl (by rfl) (fun K hK => ?_)
      go_simp
      refine (rffour_any (some ⟨b, o, none⟩) n c 8 8 xs y39 hn (HU.out y39 hLU).2 rfl (by omega)).mono ?_
      rintro e v ⟨rfl, k, rfl⟩
      replace hLU : Low u (y39.drewN k) := below_drewN hLU k
      replace hOwn : OwnB 5 (y39.drewN k) u.heap.size (some ⟨gE, 0, none⟩) 0 0 [] := hOwn
      go_simp
      refine hK _ _ (HU.out _ hLU).1 ?_
      clear hK K
      generalize y39.drewN k = y40 at *
      refine walkS_act rfl (by rfl) (fun K hK => ?_)
      go_simp
      refine (rftwo_any (some ⟨b, o, none⟩) n c 14 14 xs y40 hn (HU.out y40 hLU).2 rfl (by omega)).mono ?_
      rintro e v ⟨rfl, k, rfl⟩
      replace hLU : Low u (y40.drewN k) := below_drewN hLU k
      replace hOwn : OwnB 5 (y40.drewN k) u.heap.size (some ⟨gE, 0, none⟩) 0 0 [] := hOwn
      go_simp
      refine hK _ _ (HU.out _ hLU).1 ?_
      clear hK K
      generalize y40.drewN k = y41 at *
      refine walkS_act rfl (by rfl) (fun K hK => ?_)
      go_simp
      refine (rftwo_any (some ⟨b, o, none⟩) n c 16 16 xs y41 hn (HU.out y41 hLU).2 rfl (by omega)).mono ?_
      rintro e v ⟨rfl, k, rfl⟩
      replace hLU : Low u (y41.drewN k) := below_drewN hLU k
      replace hOwn : OwnB 5 (y41.drewN k) u.heap.size (some ⟨gE, 0, none⟩) 0 0 [] := hOwn
      go_simp
      refine hK _ _ (HU.out _ hLU).1 ?_
      clear hK K
      generalize y41.drewN k = y42 at *
      refine walkS_act rfl (by rfl) (fun K hK => ?_)
      go_simp
      refine (rftwo_any (some ⟨b, o, none⟩) n c 18 18 xs y42 hn (HU.out y42 hLU).2 rfl (by omega)).mono ?_
      rintro e v ⟨rfl, k, rfl⟩
      replace hLU : Low u (y42.drewN k) := below_drewN hLU k
      replace hOwn : OwnB 5 (y42.drewN k) u.heap.size (some ⟨gE, 0, none⟩) 0 0 [] := hOwn
      go_simp
      refine hK _ _ (HU.out _ hLU).1 ?_
      clear hK K
      generalize y42.drewN k = y43 at *
      generalize y43 = yz at *
      refine walkS_act rfl (by rfl) (fun K hK => ?_)
      have hsrc := ((HU.out yz hLU).2.at_behind (s := m) hm3 HA2.out)
      refine wp_append_bs (.tmp 65) (.tmp 68) _ rfl u.heap.size 5 i0 Try.underlying24 hi hz0 hz1 hz2 _ 0 0 [] rfl hOwn A2 (n - m) (c - m) _ _ rfl hsrc (by omega) hLU.size ?_
      intro A9 c9 w9 hO9 hg9 hx9
      have hL9 : Low u w9 := hLU.grown hg9 hLU.size (fun k hk => (hOwn.lt k hk).1)
      refine hK _ _ (HU.out _ hL9).1 ?_
      clear hK K hsrc hg9 hx9 hOwn hLU
      simp only [Act.put, List.setIfInBounds_toArray, List.set_cons_zero, List.set_cons_succ, Nat.zero_add, List.nil_append] at hO9 ⊢
      refine walkS_read (v := .agg (segC ⟨num2 xs 0, num2 xs 2, num4 xs 4, num4 xs 8, x13, num2 xs 14, num2 xs 16, num2 xs 18, oA, om, oc, os, A9, n - m, c9, xs.drop m⟩).toArray) rfl (by rfl) (by intro y hy; go_simp; try rfl) ?_
      simp only [Act.put, List.setIfInBounds_toArray, List.set_cons_zero, List.set_cons_succ]
      replace HZ := Lib.hid (HZ.out.below hL9 HZ.out.lt)
      refine walkS_act rfl (by rfl) (fun K hK => ?_)
      refine wp_store_row 26 (.tmp 2) (.tmp 70) rfl w.heap.size (segC ⟨num2 xs 0, num2 xs 2, num4 xs 4, num4 xs 8, x13, num2 xs 14, num2 xs 16, num2 xs 18, oA, om, oc, os, A9, n - m, c9, xs.drop m⟩).toArray rfl rfl 26 _ HZ.out (by rw [seg_size]; rfl) rfl (segC_one _) ?_
      have hBE := (HU.out _ hL9).1.trans (low_setRow w9 w.heap.size (segC ⟨num2 xs 0, num2 xs 2, num4 xs 4, num4 xs 8, x13, num2 xs 14, num2 xs 16, num2 xs 18, oA, om, oc, os, A9, n - m, c9, xs.drop m⟩).toArray (Nat.le_refl _))
      refine hK _ _ hBE ?_
      clear hK K
      have HG := BlkV.setRow HZ.out (segC ⟨num2 xs 0, num2 xs 2, num4 xs 4, num4 xs 8, x13, num2 xs 14, num2 xs 16, num2 xs 18, oA, om, oc, os, A9, n - m, c9, xs.drop m⟩)
      have hend := tcparse_end (w := w) (u := u) (w9 := w9) hL9 hO9 HOS.out HOF.out HLW1.out hL4.size (setRow_oth w9 w.heap.size (segC ⟨num2 xs 0, num2 xs 2, num4 xs 4, num4 xs 8, x13, num2 xs 14, num2 xs 16, num2 xs 18, oA, om, oc, os, A9, n - m, c9, xs.drop m⟩).toArray) (by simp) HB.out.all (by omega) (by omega) hr13 HRU.out (c := oc) (m := m)
      clear HZ HOS HOF HU hL9 hO9
      generalize w9.setRow w.heap.size (segC ⟨num2 xs 0, num2 xs 2, num4 xs 4, num4 xs 8, x13, num2 xs 14, num2 xs 16, num2 xs 18, oA, om, oc, os, A9, n - m, c9, xs.drop m⟩).toArray = wE at *
      simp only [Act.put]
      refine walkS_read (v := _) rfl (by rfl) (by intro y hy; go_simp; try rfl) ?_
      simp only [Act.put, List.setIfInBounds_toArray, List.set_cons_zero, List.set_cons_succ]
      unfold walkS
      go_wp2
      refine ret_seg Try.results14 rfl rfl HG (GivesS.of HX.out ?_ hend hBE) rfl
      rw [HX13.out, ← HOV.out]
      rfl

  · rw [if_neg hre] at HX
    clear hos hov hof
    generalize ol.length = om at *
    go_wp2_with ((refine wpList_store_seg rfl (.tmp 2) (.tmp 44) rfl w.heap.size rfl zeroS rfl zeroS HZ.out ?_); intro w5 HG hb5 hz5)
    exact ret_seg Try.results14 rfl rfl HG (GivesS.of HX.out rfl (zeroS_ok _ _) (Below.trans hL4 hb5)) rfl

theorem trcparse_any (A : Option Addr) (n c : Nat) (xs : List Int) (w : World) (hn0 : n ≤ 140737488351232) (hc : n ≤ c) (hc2 : c ≤ 9223372036854775807) (hb : Bs w w.heap.size A n xs) :
    Calls Try.prog 14 #[.slice A n c] w (GivesS w (parseS xs)) := by
  by_cases h : (aheadS xs).2 = 0
  · exact trcparse_yes A n c xs w hn0 hc hc2 hb h
  · exact trcparse_err A n c xs w (by omega) hc hc2 hb h
end Go.Proofs.Ytkbgfddicpnbmaa
