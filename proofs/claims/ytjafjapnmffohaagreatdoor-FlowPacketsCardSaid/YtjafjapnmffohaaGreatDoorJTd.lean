/- Texts joined.
  What the document's Parse answers: the segment of bytes. Condition: at most 2^47 bytes.
  What the document's Same answers of two segments that say the same: true. Condition: at most 2^47 options, and as many bytes of payload.
  What tcp.Fine and tcp.Seal answer. Condition: addresses are 16 bytes; at most 2^47 options, and as many bytes of payload.
  What the laws' own small test of segments answers: true. No condition.
  A segment that was put is parsed as what it was; one that was sealed has its sum. No condition.
-/
import Derived.Test.YtjafjapnmffohaaGreatDoorJTc
import Derived.Test.YtjafjapnmffohaaGreatDoorJTp
import Derived.Test.YtjafjapnmffohaaGreatDoorJOct
import Derived.Test.YtjafjapnmffohaaGreatDoorJCk
set_option maxRecDepth 100000
namespace Go.Proofs.YtjafjapnmffohaaGreatDoor
open Go.RowKit
set_option linter.unusedVariables false

theorem setRow_oth (w : World) (g : Nat) (cs : Array Value) : ∀ p : Addr, p.block ≠ g → (w.setRow g cs).cell? p = w.cell? p := fun p hp => World.cell?_of_block (by simp [World.setRow, Array.getElem?_modify, Ne.symm hp])
/-- the segment that is told is as it should be -/
theorem tcparse_end {w w1 u w9 wE : World} {t : TypeId} {A9 oA : Option Addr} {k c9 om c m : Nat} {xs : List Int} {os : List Od} {x13 : Int} (hL9 : Low u w9) (hO9 : OwnB t w9 u.heap.size A9 k c9 (xs.drop m)) (hos : Os u u.heap.size oA om os) (hof : OFrom w1.heap.size oA om os) (hw1 : w.heap.size < w1.heap.size) (hwu : w.heap.size ≤ u.heap.size)
    (hoth : ∀ p : Addr, p.block ≠ w.heap.size → wE.cell? p = w9.cell? p) (hz : wE.heap.size = w9.heap.size) (hall : AllB xs) (hom : om ≤ 140737488351232) (hk : k ≤ 140737488351232) (hr13 : 0 ≤ x13 ∧ x13 < 256) (hu : w.heap.size ≠ u.heap.size) :
    Sg.ok wE wE.heap.size ⟨num2 xs 0, num2 xs 2, num4 xs 4, num4 xs 8, x13, num2 xs 14, num2 xs 16, num2 xs 18, oA, om, c, os, A9, k, c9, xs.drop m⟩ ∧
    SFrom w.heap.size ⟨num2 xs 0, num2 xs 2, num4 xs 4, num4 xs 8, x13, num2 xs 14, num2 xs 16, num2 xs 18, oA, om, c, os, A9, k, c9, xs.drop m⟩ := by
  refine ⟨?_, hof.lessS (by omega), fun hk0 => by
    obtain ⟨g, cap, hv, hbg, _⟩ := hO9.1.form hk0
    have hA : A9 = some ⟨g, 0, none⟩ := by injection hv
    exact ⟨g, 0, hA, by omega⟩⟩
  have n0 := tcnum2 hall 0
  have n2 := tcnum2 hall 2
  have n14 := tcnum2 hall 14
  have n16 := tcnum2 hall 16
  have n18 := tcnum2 hall 18
  have hos12 := (hos.below' hL9 hL9.size).upper hof (w' := wE) fun p h1 h2 => hoth p (by omega)
  have hpg := hO9.bs (Nat.le_refl _)
  have hpg13 : Bs wE w9.heap.size A9 k (xs.drop m) := ⟨hpg.len, hpg.all, fun h => by
    obtain ⟨b', o', e', hb', hc'⟩ := hpg.mem h
    obtain ⟨g, cap, hv, hbg, _⟩ := hO9.1.form h
    have hA : A9 = some ⟨g, 0, none⟩ := by injection hv
    rw [hA] at e'
    injection e' with e'
    injection e' with e1 e2 _
    subst e1 e2
    refine ⟨_, _, hA, hb', fun i hi => (hoth _ ?_).trans (hc' i hi)⟩
    show g ≠ w.heap.size
    omega⟩
  rw [← hz] at hos12 hpg13
  refine ⟨?_, ?_, tcnum4 hall 4, tcnum4 hall 8, ?_, ?_, ?_, ?_, hom, hos12, hk, hpg13⟩
  all_goals (unfold i64ok; dsimp only; omega)

set_option maxRecDepth 100000 in
set_option maxHeartbeats 6400000 in
theorem trcparse_yes (A : Option Addr) (n c : Nat) (xs : List Int) (w : World) (hn0 : n ≤ 140737488351232) (hc : n ≤ c) (hc2 : c ≤ 9223372036854775807) (hb : Bs w w.heap.size A n xs) (h : (aheadS xs).2 = 0) :
    Calls Tryz.prog 18 #[.slice A n c] w (GivesSF w (parseS xs)) := by
  have hn : n ≤ 140737488355328 := by omega
  obtain ⟨i0, hi, hz0, hz1, hz2⟩ := info_parts info5
  have HX := Lib.hid (show parseS xs = if (parseL ((xs.take (aheadS xs).1).drop 20)).2 = 0 then (segS xs (aheadS xs).1 (parseL ((xs.take (aheadS xs).1).drop 20)).1, 0) else (zeroSb, (parseL ((xs.take (aheadS xs).1).drop 20)).2) by unfold parseS; rw [if_pos h])
  obtain ⟨hm1, hm2, hm3⟩ := aheadS_ok hb.all h
  rw [hb.len] at hm3
  have hl := hb.len
  have hA : aheadS xs = if xs.getD 12 0 % 16 ≠ 0 ∨ xs.getD 12 0 / 16 < 5 then (0, 5) else if (n : Int) < 4 * (xs.getD 12 0 / 16) then (0, 3) else ((4 * (xs.getD 12 0 / 16)).toNat, 0) := by rw [← hl]; unfold aheadS; rw [if_neg (by omega)]
  have hx1 : xs.getD 12 0 % 16 = 0 := by
    by_cases h1 : xs.getD 12 0 % 16 = 0
    · exact h1
    · rw [hA, if_pos (Or.inl h1)] at h; simp at h
  have hx2 : ¬ xs.getD 12 0 / 16 < 5 := fun h1 => by rw [hA, if_pos (Or.inr h1)] at h; simp at h
  have hx3 : ¬ (n : Int) < 4 * (xs.getD 12 0 / 16) := fun h1 => by rw [hA, if_neg (fun h => h.elim (fun h => h hx1) hx2), if_pos h1] at h; simp at h
  have hx4 : xs.getD 12 0 / 16 * 4 = ((aheadS xs).1 : Nat) := by
    rw [hA, if_neg (fun h => h.elim (fun h => h hx1) hx2), if_neg hx3]
    dsimp only
    omega
  obtain ⟨b, o, rfl, hbl, hcc⟩ := hb.mem (by omega)
  have c12 := hcc 12 (by omega)
  have c13 := hcc 13 (by omega)
  have hr := hb.nonneg 12
  have HB := Lib.hid hb
  have n12 : (12 : Int) < n := by omega
  have n13 : (13 : Int) < n := by omega
  have hfb : (xs.getD 12 0 % 16 != 0) = false := by simpa using hx1
  obtain ⟨m, hm⟩ : ∃ m, m = (aheadS xs).1 := ⟨_, rfl⟩
  rw [← hm] at HX hm1 hm2 hm3 hx4
  have hq1 : 0 ≤ xs.getD 12 0 / 16 ∧ xs.getD 12 0 / 16 < 16 := by omega
  clear hcc hb hA hx3 hl hm h
  generalize xs.getD 12 0 = x at *
  go_enter Tryz.func18, Tryz.ntmps18
  go_wp2_with ((with_reducible refine wpList_alloc_seg rfl rfl ?_); intro w1 HZ hL hz; refine Hid.out ?_)
  refine Lib.hid ?_
  replace HZ := Lib.hid HZ
  have HC13 := Lib.hid c13
  replace c12 := (hL.cell (p := ⟨b, o + 12, none⟩) hbl).trans c12
  have hbs1 := HB.out.below' hL hL.size
  obtain ⟨A', hcut, hA'⟩ := run_mid b o n c m hn hm1 hm3 hc hc2
  have hmid := hbs1.at_mid (s := 20) (m := m) hm1 hm3 hA'
  have HCUT := Lib.hid (hcut w1)
  have hsz1 : w.heap.size < w1.heap.size := by omega
  clear hA' hcut hbs1 c13 hz
  generalize (xs.take m).drop 20 = ys at *
  go_wp2_with ((refine wpList_slice rfl 22 (.tmp 36) (some (.const (.int .i64 20))) (some (.tmp 37)) none rfl (.slice A' (m - 20) (c - 20)) HCUT.out ?_); refine Hid.out ?_)
  refine Lib.hid ?_
  go_wp2_with fail
  refine (trparse_any A' (m - 20) (c - 20) ys w1 (by omega) (by omega) (by omega) hmid).mono ?_
  rintro e w4 ⟨oA, oc, os, rfl, hov, hos, hB4, hof⟩
  have hrl := parseL_len ys
  generalize parseL ys = r at *
  obtain ⟨ol, re⟩ := r
  dsimp only at hov hos hof hrl HX ⊢
  replace HZ := Lib.hid (HZ.out.below hB4 HZ.out.lt)
  have hL4 : Low w w4 := Below.trans hL (hB4.mono hL.size)
  clear hmid HCUT hB4 c12 hfb hx1 hx2 hr hL
  by_cases hre : re = 0
  · rw [if_pos hre] at HX
    subst hre
    obtain ⟨om, hom⟩ : ∃ om, om = ol.length := ⟨_, rfl⟩
    rw [← hom] at hos hof hrl ⊢
    clear hom
    have HOF := Lib.hid hof
    have HOS := Lib.hid hos
    have HOV := Lib.hid hov
    have HLW1 := Lib.hid hsz1
    clear hos hov hof hsz1
    go_wp2_with fail
    clear hx4 hq1
    refine wp_region_planS (fun y => Below w.heap.size w y) (.rd 0 (.rd 2 (.rd 4 (.rd 6 (.rd 8 (.rd 9 (.rd 10 (.rd 11 (.rd 12 (.rd 14 (.rd 16 (.rd 18 (.rd 20 (.rd 21 (.rd 22 (.fork 1 (.fork 3 (.fork 5 (.fork 7 (.fork 13 (.fork 15 (.fork 17 (.act 19 (.act 23 (.rd 24 (.act 25 (.rd 26 .done))))) 19 (.act 17 (.act 23 (.rd 24 (.act 25 (.rd 26 .done)))))) 19 (.act 15 (.act 17 (.act 23 (.rd 24 (.act 25 (.rd 26 .done))))))) 19 (.act 13 (.act 15 (.act 17 (.act 23 (.rd 24 (.act 25 (.rd 26 .done)))))))) 19 (.act 7 (.act 13 (.act 15 (.act 17 (.act 23 (.rd 24 (.act 25 (.rd 26 .done))))))))) 19 (.act 5 (.act 7 (.act 13 (.act 15 (.act 17 (.act 23 (.rd 24 (.act 25 (.rd 26 .done)))))))))) 19 (.act 3 (.act 5 (.act 7 (.act 13 (.act 15 (.act 17 (.act 23 (.rd 24 (.act 25 (.rd 26 .done))))))))))) 19 (.act 1 (.act 3 (.act 5 (.act 7 (.act 13 (.act 15 (.act 17 (.act 23 (.rd 24 (.act 25 (.rd 26 .done))))))))))))))))))))))))))) (by kernel_rfl) (by kernel_rfl) (fun _ _ d _ _ h => by cases d <;> exact h) (by kernel_rfl) (Below.drew hL4) ?_
    replace hL4 := Below.drew hL4
    replace HOS : Hid (Os w4.drew w4.drew.heap.size oA om os) := Lib.hid (HOS.out.keep fun _ _ => rfl)
    replace HZ := Lib.hid HZ.out.drew
    generalize w4.drew = u at *
    have hr13 := HB.out.nonneg 13
    have HX13 := Lib.hid (show segS xs m ol = ⟨num2 xs 0, num2 xs 2, num4 xs 4, num4 xs 8, xs.getD 13 0, num2 xs 14, num2 xs 16, num2 xs 18, ol, xs.drop m⟩ from rfl)
    have w13 : IntKind.i64.wrap (xs.getD 13 0) = xs.getD 13 0 := wraps_i64 _ hr13.1 (by omega)
    generalize xs.getD 13 0 = x13 at *
    obtain ⟨A2, hcut2, hA2⟩ := run_behind b o n c m hn hm3 hc hc2
    have HCUT2 := Lib.hid hcut2
    have HA2 := Lib.hid hA2
    clear hA2 hcut2
    iterate 14 (refine walkS_read (v := _) rfl (by rfl) (by intro y hy; have e13 := (hy.cell (p := ⟨b, o + 13, none⟩) hbl).trans HC13.out; go_simp; try rfl) ?_; simp only [Act.put, List.setIfInBounds_toArray, List.set_cons_zero, List.set_cons_succ])
    refine walkS_read (v := .slice A2 (n - m) (c - m)) rfl (by rfl) (by intro y hy; exact exec_slice (HCUT2.out y)) ?_
    simp only [Act.put, List.setIfInBounds_toArray, List.set_cons_zero, List.set_cons_succ]
    have HU : Hid (∀ y, Low u y → Below w.heap.size w y ∧ Bs y y.heap.size (some ⟨b, o, none⟩) n xs) := Lib.hid fun y hy => ⟨Below.trans hL4 (hy.mono hL4.size), HB.out.below' (Below.trans hL4 (hy.mono hL4.size)) (Nat.le_trans hL4.size hy.size)⟩
    have hLU : Low u u := Low.refl u
    have HRU := Lib.hid (show w.heap.size ≠ u.heap.size from fun e => by have := HZ.out.lt; omega)
    clear w13
    refine walkS_fork ?_ ?_
    · refine walkS_act rfl (by rfl) (fun K hK => ?_)
      go_simp
      refine (rftwo_any (some ⟨b, o, none⟩) n c 0 0 xs u hn (HU.out u hLU).2 rfl (by omega)).mono ?_
      rintro e v ⟨rfl, k, rfl⟩
      replace hLU : Low u (u.drewN k) := below_drewN hLU k
      go_simp
      refine hK _ _ (HU.out _ hLU).1 ?_
      clear hK K
      generalize u.drewN k = y1 at *
      refine walkS_fork ?_ ?_
      · refine walkS_act rfl (by rfl) (fun K hK => ?_)
        go_simp
        refine (rftwo_any (some ⟨b, o, none⟩) n c 2 2 xs y1 hn (HU.out y1 hLU).2 rfl (by omega)).mono ?_
        rintro e v ⟨rfl, k, rfl⟩
        replace hLU : Low u (y1.drewN k) := below_drewN hLU k
        go_simp
        refine hK _ _ (HU.out _ hLU).1 ?_
        clear hK K
        generalize y1.drewN k = y2 at *
        refine walkS_fork ?_ ?_
        · refine walkS_act rfl (by rfl) (fun K hK => ?_)
          go_simp
          refine (rffour_any (some ⟨b, o, none⟩) n c 4 4 xs y2 hn (HU.out y2 hLU).2 rfl (by omega)).mono ?_
          rintro e v ⟨rfl, k, rfl⟩
          replace hLU : Low u (y2.drewN k) := below_drewN hLU k
          go_simp
          refine hK _ _ (HU.out _ hLU).1 ?_
          clear hK K
          generalize y2.drewN k = y3 at *
          refine walkS_fork ?_ ?_
          · refine walkS_act rfl (by rfl) (fun K hK => ?_)
            go_simp
            refine (rffour_any (some ⟨b, o, none⟩) n c 8 8 xs y3 hn (HU.out y3 hLU).2 rfl (by omega)).mono ?_
            rintro e v ⟨rfl, k, rfl⟩
            replace hLU : Low u (y3.drewN k) := below_drewN hLU k
            go_simp
            refine hK _ _ (HU.out _ hLU).1 ?_
            clear hK K
            generalize y3.drewN k = y4 at *
            refine walkS_fork ?_ ?_
            · refine walkS_act rfl (by rfl) (fun K hK => ?_)
              go_simp
              refine (rftwo_any (some ⟨b, o, none⟩) n c 14 14 xs y4 hn (HU.out y4 hLU).2 rfl (by omega)).mono ?_
              rintro e v ⟨rfl, k, rfl⟩
              replace hLU : Low u (y4.drewN k) := below_drewN hLU k
              go_simp
              refine hK _ _ (HU.out _ hLU).1 ?_
              clear hK K
              generalize y4.drewN k = y5 at *
              refine walkS_fork ?_ ?_
              · refine walkS_act rfl (by rfl) (fun K hK => ?_)
                go_simp
                refine (rftwo_any (some ⟨b, o, none⟩) n c 16 16 xs y5 hn (HU.out y5 hLU).2 rfl (by omega)).mono ?_
                rintro e v ⟨rfl, k, rfl⟩
                replace hLU : Low u (y5.drewN k) := below_drewN hLU k
                go_simp
                refine hK _ _ (HU.out _ hLU).1 ?_
                clear hK K
                generalize y5.drewN k = y6 at *
                refine walkS_fork ?_ ?_
                · refine walkS_act rfl (by rfl) (fun K hK => ?_)
                  go_simp
                  refine (rftwo_any (some ⟨b, o, none⟩) n c 18 18 xs y6 hn (HU.out y6 hLU).2 rfl (by omega)).mono ?_
                  rintro e v ⟨rfl, k, rfl⟩
                  replace hLU : Low u (y6.drewN k) := below_drewN hLU k
                  go_simp
                  refine hK _ _ (HU.out _ hLU).1 ?_
                  clear hK K
                  generalize y6.drewN k = y7 at *
                  refine walkS_act rfl (by rfl) (fun K hK => ?_)
                  go_simp
                  obtain ⟨gE, hgE⟩ : ∃ g, g = y7.heap.size := ⟨_, rfl⟩
                  have hOwn : OwnB 5 (y7.alloc (.cells #[] 5)) u.heap.size (some ⟨gE, 0, none⟩) 0 0 [] := by rw [hgE]; exact OwnB.fresh y7 5 hLU.size
                  rw [← hgE]
                  clear hgE
                  replace hLU : Low u (y7.alloc (.cells #[] 5)) := hLU.trans (Low.alloc _ _)
                  refine hK _ _ (HU.out _ hLU).1 ?_
                  clear hK K
                  generalize y7.alloc (.cells #[] 5) = y8 at *
                  generalize y8 = yz at *
                  refine walkS_act rfl (by rfl) (fun K hK => ?_)
                  have hsrc := ((HU.out yz hLU).2.at_behind (s := m) hm3 HA2.out)
                  refine wp_append_bs (.tmp 65) (.tmp 68) _ rfl u.heap.size 5 i0 Tryz.underlying22 hi hz0 hz1 hz2 _ 0 0 [] rfl hOwn A2 (n - m) (c - m) _ _ rfl hsrc (by omega) hLU.size ?_
                  intro A9 c9 w9 hO9 hg9 hx9
                  have hL9 : Low u w9 := hLU.grown hg9 hLU.size (fun k hk => (hOwn.lt k hk).1)
                  refine hK _ _ (HU.out _ hL9).1 ?_
                  clear hK K hsrc hg9 hx9 hOwn hLU
                  simp only [Act.put, List.setIfInBounds_toArray, List.set_cons_zero, List.set_cons_succ, Nat.zero_add, List.nil_append] at hO9 ⊢
                  refine walkS_read (v := .agg (segC ⟨num2 xs 0, num2 xs 2, num4 xs 4, num4 xs 8, x13, num2 xs 14, num2 xs 16, num2 xs 18, oA, om, oc, os, A9, n - m, c9, xs.drop m⟩).toArray) rfl (by rfl) (by intro y hy; go_simp; try rfl) ?_
                  simp only [Act.put, List.setIfInBounds_toArray, List.set_cons_zero, List.set_cons_succ]
                  replace HZ := Lib.hid (HZ.out.below hL9 HZ.out.lt)
                  refine walkS_act rfl (by rfl) (fun K hK => ?_)
                  refine wp_store_row 34 (.tmp 2) (.tmp 70) rfl w.heap.size (segC ⟨num2 xs 0, num2 xs 2, num4 xs 4, num4 xs 8, x13, num2 xs 14, num2 xs 16, num2 xs 18, oA, om, oc, os, A9, n - m, c9, xs.drop m⟩).toArray rfl rfl 34 _ HZ.out (by rw [seg_size]; rfl) rfl (segC_one _) ?_
                  have hBE := (HU.out _ hL9).1.trans (low_setRow w9 w.heap.size (segC ⟨num2 xs 0, num2 xs 2, num4 xs 4, num4 xs 8, x13, num2 xs 14, num2 xs 16, num2 xs 18, oA, om, oc, os, A9, n - m, c9, xs.drop m⟩).toArray (Nat.le_refl _))
                  refine hK _ _ hBE ?_
                  clear hK K
                  have HG := BlkV.setRow HZ.out (segC ⟨num2 xs 0, num2 xs 2, num4 xs 4, num4 xs 8, x13, num2 xs 14, num2 xs 16, num2 xs 18, oA, om, oc, os, A9, n - m, c9, xs.drop m⟩)
                  have hend := tcparse_end (w := w) (u := u) (w9 := w9) hL9 hO9 HOS.out HOF.out HLW1.out hL4.size (setRow_oth w9 w.heap.size (segC ⟨num2 xs 0, num2 xs 2, num4 xs 4, num4 xs 8, x13, num2 xs 14, num2 xs 16, num2 xs 18, oA, om, oc, os, A9, n - m, c9, xs.drop m⟩).toArray) (by simp) HB.out.all (by omega) (by omega) hr13 HRU.out (c := oc) (m := m)
                  clear HZ HOS HOF HU hL9 hO9
                  generalize w9.setRow w.heap.size (segC ⟨num2 xs 0, num2 xs 2, num4 xs 4, num4 xs 8, x13, num2 xs 14, num2 xs 16, num2 xs 18, oA, om, oc, os, A9, n - m, c9, xs.drop m⟩).toArray = wE at *
                  simp only [Act.put]
                  refine walkS_read (v := _) rfl (by rfl) (by intro y hy; go_simp; try rfl) ?_
                  simp only [Act.put, List.setIfInBounds_toArray, List.set_cons_zero, List.set_cons_succ]
                  unfold walkS
                  go_wp2
                  refine ret_seg Tryz.results18 rfl rfl HG (GivesSF.of HX.out ?_ hend.1 hBE hend.2) rfl
                  rw [HX13.out, ← HOV.out]
                  rfl
                · refine walkS_act rfl (by rfl) (fun K hK => ?_)
                  go_simp
                  obtain ⟨gE, hgE⟩ : ∃ g, g = y6.heap.size := ⟨_, rfl⟩
                  have hOwn : OwnB 5 (y6.alloc (.cells #[] 5)) u.heap.size (some ⟨gE, 0, none⟩) 0 0 [] := by rw [hgE]; exact OwnB.fresh y6 5 hLU.size
                  rw [← hgE]
                  clear hgE
                  replace hLU : Low u (y6.alloc (.cells #[] 5)) := hLU.trans (Low.alloc _ _)
                  refine hK _ _ (HU.out _ hLU).1 ?_
                  clear hK K
                  generalize y6.alloc (.cells #[] 5) = y9 at *
                  refine walkS_act rfl (by rfl) (fun K hK => ?_)
                  go_simp
                  refine (rftwo_any (some ⟨b, o, none⟩) n c 18 18 xs y9 hn (HU.out y9 hLU).2 rfl (by omega)).mono ?_
                  rintro e v ⟨rfl, k, rfl⟩
                  replace hLU : Low u (y9.drewN k) := below_drewN hLU k
                  replace hOwn : OwnB 5 (y9.drewN k) u.heap.size (some ⟨gE, 0, none⟩) 0 0 [] := hOwn
                  go_simp
                  refine hK _ _ (HU.out _ hLU).1 ?_
                  clear hK K
                  generalize y9.drewN k = y10 at *
                  generalize y10 = yz at *
                  refine walkS_act rfl (by rfl) (fun K hK => ?_)
                  have hsrc := ((HU.out yz hLU).2.at_behind (s := m) hm3 HA2.out)
                  refine wp_append_bs (.tmp 65) (.tmp 68) _ rfl u.heap.size 5 i0 Tryz.underlying22 hi hz0 hz1 hz2 _ 0 0 [] rfl hOwn A2 (n - m) (c - m) _ _ rfl hsrc (by omega) hLU.size ?_
                  intro A9 c9 w9 hO9 hg9 hx9
                  have hL9 : Low u w9 := hLU.grown hg9 hLU.size (fun k hk => (hOwn.lt k hk).1)
                  refine hK _ _ (HU.out _ hL9).1 ?_
                  clear hK K hsrc hg9 hx9 hOwn hLU
                  simp only [Act.put, List.setIfInBounds_toArray, List.set_cons_zero, List.set_cons_succ, Nat.zero_add, List.nil_append] at hO9 ⊢
                  refine walkS_read (v := .agg (segC ⟨num2 xs 0, num2 xs 2, num4 xs 4, num4 xs 8, x13, num2 xs 14, num2 xs 16, num2 xs 18, oA, om, oc, os, A9, n - m, c9, xs.drop m⟩).toArray) rfl (by rfl) (by intro y hy; go_simp; try rfl) ?_
                  simp only [Act.put, List.setIfInBounds_toArray, List.set_cons_zero, List.set_cons_succ]
                  replace HZ := Lib.hid (HZ.out.below hL9 HZ.out.lt)
                  refine walkS_act rfl (by rfl) (fun K hK => ?_)
                  refine wp_store_row 34 (.tmp 2) (.tmp 70) rfl w.heap.size (segC ⟨num2 xs 0, num2 xs 2, num4 xs 4, num4 xs 8, x13, num2 xs 14, num2 xs 16, num2 xs 18, oA, om, oc, os, A9, n - m, c9, xs.drop m⟩).toArray rfl rfl 34 _ HZ.out (by rw [seg_size]; rfl) rfl (segC_one _) ?_
                  have hBE := (HU.out _ hL9).1.trans (low_setRow w9 w.heap.size (segC ⟨num2 xs 0, num2 xs 2, num4 xs 4, num4 xs 8, x13, num2 xs 14, num2 xs 16, num2 xs 18, oA, om, oc, os, A9, n - m, c9, xs.drop m⟩).toArray (Nat.le_refl _))
                  refine hK _ _ hBE ?_
                  clear hK K
                  have HG := BlkV.setRow HZ.out (segC ⟨num2 xs 0, num2 xs 2, num4 xs 4, num4 xs 8, x13, num2 xs 14, num2 xs 16, num2 xs 18, oA, om, oc, os, A9, n - m, c9, xs.drop m⟩)
                  have hend := tcparse_end (w := w) (u := u) (w9 := w9) hL9 hO9 HOS.out HOF.out HLW1.out hL4.size (setRow_oth w9 w.heap.size (segC ⟨num2 xs 0, num2 xs 2, num4 xs 4, num4 xs 8, x13, num2 xs 14, num2 xs 16, num2 xs 18, oA, om, oc, os, A9, n - m, c9, xs.drop m⟩).toArray) (by simp) HB.out.all (by omega) (by omega) hr13 HRU.out (c := oc) (m := m)
                  clear HZ HOS HOF HU hL9 hO9
                  generalize w9.setRow w.heap.size (segC ⟨num2 xs 0, num2 xs 2, num4 xs 4, num4 xs 8, x13, num2 xs 14, num2 xs 16, num2 xs 18, oA, om, oc, os, A9, n - m, c9, xs.drop m⟩).toArray = wE at *
                  simp only [Act.put]
                  refine walkS_read (v := _) rfl (by rfl) (by intro y hy; go_simp; try rfl) ?_
                  simp only [Act.put, List.setIfInBounds_toArray, List.set_cons_zero, List.set_cons_succ]
                  unfold walkS
                  go_wp2
                  refine ret_seg Tryz.results18 rfl rfl HG (GivesSF.of HX.out ?_ hend.1 hBE hend.2) rfl
                  rw [HX13.out, ← HOV.out]
                  rfl
              · refine walkS_act rfl (by rfl) (fun K hK => ?_)
                go_simp
                obtain ⟨gE, hgE⟩ : ∃ g, g = y5.heap.size := ⟨_, rfl⟩
                have hOwn : OwnB 5 (y5.alloc (.cells #[] 5)) u.heap.size (some ⟨gE, 0, none⟩) 0 0 [] := by rw [hgE]; exact OwnB.fresh y5 5 hLU.size
                rw [← hgE]
                clear hgE
                replace hLU : Low u (y5.alloc (.cells #[] 5)) := hLU.trans (Low.alloc _ _)
                refine hK _ _ (HU.out _ hLU).1 ?_
                clear hK K
                generalize y5.alloc (.cells #[] 5) = y11 at *
                refine walkS_act rfl (by rfl) (fun K hK => ?_)
                go_simp
                refine (rftwo_any (some ⟨b, o, none⟩) n c 16 16 xs y11 hn (HU.out y11 hLU).2 rfl (by omega)).mono ?_
                rintro e v ⟨rfl, k, rfl⟩
                replace hLU : Low u (y11.drewN k) := below_drewN hLU k
                replace hOwn : OwnB 5 (y11.drewN k) u.heap.size (some ⟨gE, 0, none⟩) 0 0 [] := hOwn
                go_simp
                refine hK _ _ (HU.out _ hLU).1 ?_
                clear hK K
                generalize y11.drewN k = y12 at *
                refine walkS_act rfl (by rfl) (fun K hK => ?_)
                go_simp
                refine (rftwo_any (some ⟨b, o, none⟩) n c 18 18 xs y12 hn (HU.out y12 hLU).2 rfl (by omega)).mono ?_
                rintro e v ⟨rfl, k, rfl⟩
                replace hLU : Low u (y12.drewN k) := below_drewN hLU k
                replace hOwn : OwnB 5 (y12.drewN k) u.heap.size (some ⟨gE, 0, none⟩) 0 0 [] := hOwn
                go_simp
                refine hK _ _ (HU.out _ hLU).1 ?_
                clear hK K
                generalize y12.drewN k = y13 at *
                generalize y13 = yz at *
                refine walkS_act rfl (by rfl) (fun K hK => ?_)
                have hsrc := ((HU.out yz hLU).2.at_behind (s := m) hm3 HA2.out)
                refine wp_append_bs (.tmp 65) (.tmp 68) _ rfl u.heap.size 5 i0 Tryz.underlying22 hi hz0 hz1 hz2 _ 0 0 [] rfl hOwn A2 (n - m) (c - m) _ _ rfl hsrc (by omega) hLU.size ?_
                intro A9 c9 w9 hO9 hg9 hx9
                have hL9 : Low u w9 := hLU.grown hg9 hLU.size (fun k hk => (hOwn.lt k hk).1)
                refine hK _ _ (HU.out _ hL9).1 ?_
                clear hK K hsrc hg9 hx9 hOwn hLU
                simp only [Act.put, List.setIfInBounds_toArray, List.set_cons_zero, List.set_cons_succ, Nat.zero_add, List.nil_append] at hO9 ⊢
                refine walkS_read (v := .agg (segC ⟨num2 xs 0, num2 xs 2, num4 xs 4, num4 xs 8, x13, num2 xs 14, num2 xs 16, num2 xs 18, oA, om, oc, os, A9, n - m, c9, xs.drop m⟩).toArray) rfl (by rfl) (by intro y hy; go_simp; try rfl) ?_
                simp only [Act.put, List.setIfInBounds_toArray, List.set_cons_zero, List.set_cons_succ]
                replace HZ := Lib.hid (HZ.out.below hL9 HZ.out.lt)
                refine walkS_act rfl (by rfl) (fun K hK => ?_)
                refine wp_store_row 34 (.tmp 2) (.tmp 70) rfl w.heap.size (segC ⟨num2 xs 0, num2 xs 2, num4 xs 4, num4 xs 8, x13, num2 xs 14, num2 xs 16, num2 xs 18, oA, om, oc, os, A9, n - m, c9, xs.drop m⟩).toArray rfl rfl 34 _ HZ.out (by rw [seg_size]; rfl) rfl (segC_one _) ?_
                have hBE := (HU.out _ hL9).1.trans (low_setRow w9 w.heap.size (segC ⟨num2 xs 0, num2 xs 2, num4 xs 4, num4 xs 8, x13, num2 xs 14, num2 xs 16, num2 xs 18, oA, om, oc, os, A9, n - m, c9, xs.drop m⟩).toArray (Nat.le_refl _))
                refine hK _ _ hBE ?_
                clear hK K
                have HG := BlkV.setRow HZ.out (segC ⟨num2 xs 0, num2 xs 2, num4 xs 4, num4 xs 8, x13, num2 xs 14, num2 xs 16, num2 xs 18, oA, om, oc, os, A9, n - m, c9, xs.drop m⟩)
                have hend := tcparse_end (w := w) (u := u) (w9 := w9) hL9 hO9 HOS.out HOF.out HLW1.out hL4.size (setRow_oth w9 w.heap.size (segC ⟨num2 xs 0, num2 xs 2, num4 xs 4, num4 xs 8, x13, num2 xs 14, num2 xs 16, num2 xs 18, oA, om, oc, os, A9, n - m, c9, xs.drop m⟩).toArray) (by simp) HB.out.all (by omega) (by omega) hr13 HRU.out (c := oc) (m := m)
                clear HZ HOS HOF HU hL9 hO9
                generalize w9.setRow w.heap.size (segC ⟨num2 xs 0, num2 xs 2, num4 xs 4, num4 xs 8, x13, num2 xs 14, num2 xs 16, num2 xs 18, oA, om, oc, os, A9, n - m, c9, xs.drop m⟩).toArray = wE at *
                simp only [Act.put]
                refine walkS_read (v := _) rfl (by rfl) (by intro y hy; go_simp; try rfl) ?_
                simp only [Act.put, List.setIfInBounds_toArray, List.set_cons_zero, List.set_cons_succ]
                unfold walkS
                go_wp2
                refine ret_seg Tryz.results18 rfl rfl HG (GivesSF.of HX.out ?_ hend.1 hBE hend.2) rfl
                rw [HX13.out, ← HOV.out]
                rfl
            · refine walkS_act rfl (by rfl) (fun K hK => ?_)
              go_simp
              obtain ⟨gE, hgE⟩ : ∃ g, g = y4.heap.size := ⟨_, rfl⟩
              have hOwn : OwnB 5 (y4.alloc (.cells #[] 5)) u.heap.size (some ⟨gE, 0, none⟩) 0 0 [] := by rw [hgE]; exact OwnB.fresh y4 5 hLU.size
              rw [← hgE]
              clear hgE
              replace hLU : Low u (y4.alloc (.cells #[] 5)) := hLU.trans (Low.alloc _ _)
              refine hK _ _ (HU.out _ hLU).1 ?_
              clear hK K
              generalize y4.alloc (.cells #[] 5) = y14 at *
              refine walkS_act rfl (by rfl) (fun K hK => ?_)
              go_simp
              refine (rftwo_any (some ⟨b, o, none⟩) n c 14 14 xs y14 hn (HU.out y14 hLU).2 rfl (by omega)).mono ?_
              rintro e v ⟨rfl, k, rfl⟩
              replace hLU : Low u (y14.drewN k) := below_drewN hLU k
              replace hOwn : OwnB 5 (y14.drewN k) u.heap.size (some ⟨gE, 0, none⟩) 0 0 [] := hOwn
              go_simp
              refine hK _ _ (HU.out _ hLU).1 ?_
              clear hK K
              generalize y14.drewN k = y15 at *
              refine walkS_act rfl (by rfl) (fun K hK => ?_)
              go_simp
              refine (rftwo_any (some ⟨b, o, none⟩) n c 16 16 xs y15 hn (HU.out y15 hLU).2 rfl (by omega)).mono ?_
              rintro e v ⟨rfl, k, rfl⟩
              replace hLU : Low u (y15.drewN k) := below_drewN hLU k
              replace hOwn : OwnB 5 (y15.drewN k) u.heap.size (some ⟨gE, 0, none⟩) 0 0 [] := hOwn
              go_simp
              refine hK _ _ (HU.out _ hLU).1 ?_
              clear hK K
              generalize y15.drewN k = y16 at *
              refine walkS_act rfl (by rfl) (fun K hK => ?_)
              go_simp
              refine (rftwo_any (some ⟨b, o, none⟩) n c 18 18 xs y16 hn (HU.out y16 hLU).2 rfl (by omega)).mono ?_
              rintro e v ⟨rfl, k, rfl⟩
              replace hLU : Low u (y16.drewN k) := below_drewN hLU k
              replace hOwn : OwnB 5 (y16.drewN k) u.heap.size (some ⟨gE, 0, none⟩) 0 0 [] := hOwn
              go_simp
              refine hK _ _ (HU.out _ hLU).1 ?_
              clear hK K
              generalize y16.drewN k = y17 at *
              generalize y17 = yz at *
              refine walkS_act rfl (by rfl) (fun K hK => ?_)
              have hsrc := ((HU.out yz hLU).2.at_behind (s := m) hm3 HA2.out)
              refine wp_append_bs (.tmp 65) (.tmp 68) _ rfl u.heap.size 5 i0 Tryz.underlying22 hi hz0 hz1 hz2 _ 0 0 [] rfl hOwn A2 (n - m) (c - m) _ _ rfl hsrc (by omega) hLU.size ?_
              intro A9 c9 w9 hO9 hg9 hx9
              have hL9 : Low u w9 := hLU.grown hg9 hLU.size (fun k hk => (hOwn.lt k hk).1)
              refine hK _ _ (HU.out _ hL9).1 ?_
              clear hK K hsrc hg9 hx9 hOwn hLU
              simp only [Act.put, List.setIfInBounds_toArray, List.set_cons_zero, List.set_cons_succ, Nat.zero_add, List.nil_append] at hO9 ⊢
              refine walkS_read (v := .agg (segC ⟨num2 xs 0, num2 xs 2, num4 xs 4, num4 xs 8, x13, num2 xs 14, num2 xs 16, num2 xs 18, oA, om, oc, os, A9, n - m, c9, xs.drop m⟩).toArray) rfl (by rfl) (by intro y hy; go_simp; try rfl) ?_
              simp only [Act.put, List.setIfInBounds_toArray, List.set_cons_zero, List.set_cons_succ]
              replace HZ := Lib.hid (HZ.out.below hL9 HZ.out.lt)
              refine walkS_act rfl (by rfl) (fun K hK => ?_)
              refine wp_store_row 34 (.tmp 2) (.tmp 70) rfl w.heap.size (segC ⟨num2 xs 0, num2 xs 2, num4 xs 4, num4 xs 8, x13, num2 xs 14, num2 xs 16, num2 xs 18, oA, om, oc, os, A9, n - m, c9, xs.drop m⟩).toArray rfl rfl 34 _ HZ.out (by rw [seg_size]; rfl) rfl (segC_one _) ?_
              have hBE := (HU.out _ hL9).1.trans (low_setRow w9 w.heap.size (segC ⟨num2 xs 0, num2 xs 2, num4 xs 4, num4 xs 8, x13, num2 xs 14, num2 xs 16, num2 xs 18, oA, om, oc, os, A9, n - m, c9, xs.drop m⟩).toArray (Nat.le_refl _))
              refine hK _ _ hBE ?_
              clear hK K
              have HG := BlkV.setRow HZ.out (segC ⟨num2 xs 0, num2 xs 2, num4 xs 4, num4 xs 8, x13, num2 xs 14, num2 xs 16, num2 xs 18, oA, om, oc, os, A9, n - m, c9, xs.drop m⟩)
              have hend := tcparse_end (w := w) (u := u) (w9 := w9) hL9 hO9 HOS.out HOF.out HLW1.out hL4.size (setRow_oth w9 w.heap.size (segC ⟨num2 xs 0, num2 xs 2, num4 xs 4, num4 xs 8, x13, num2 xs 14, num2 xs 16, num2 xs 18, oA, om, oc, os, A9, n - m, c9, xs.drop m⟩).toArray) (by simp) HB.out.all (by omega) (by omega) hr13 HRU.out (c := oc) (m := m)
              clear HZ HOS HOF HU hL9 hO9
              generalize w9.setRow w.heap.size (segC ⟨num2 xs 0, num2 xs 2, num4 xs 4, num4 xs 8, x13, num2 xs 14, num2 xs 16, num2 xs 18, oA, om, oc, os, A9, n - m, c9, xs.drop m⟩).toArray = wE at *
              simp only [Act.put]
              refine walkS_read (v := _) rfl (by rfl) (by intro y hy; go_simp; try rfl) ?_
              simp only [Act.put, List.setIfInBounds_toArray, List.set_cons_zero, List.set_cons_succ]
              unfold walkS
              go_wp2
              refine ret_seg Tryz.results18 rfl rfl HG (GivesSF.of HX.out ?_ hend.1 hBE hend.2) rfl
              rw [HX13.out, ← HOV.out]
              rfl
          · refine walkS_act rfl (by rfl) (fun K hK => ?_)
            go_simp
            obtain ⟨gE, hgE⟩ : ∃ g, g = y3.heap.size := ⟨_, rfl⟩
            have hOwn : OwnB 5 (y3.alloc (.cells #[] 5)) u.heap.size (some ⟨gE, 0, none⟩) 0 0 [] := by rw [hgE]; exact OwnB.fresh y3 5 hLU.size
            rw [← hgE]
            clear hgE
            replace hLU : Low u (y3.alloc (.cells #[] 5)) := hLU.trans (Low.alloc _ _)
            refine hK _ _ (HU.out _ hLU).1 ?_
            clear hK K
            generalize y3.alloc (.cells #[] 5) = y18 at *
            refine walkS_act rfl (by rfl) (fun K hK => ?_)
            go_simp
            refine (rffour_any (some ⟨b, o, none⟩) n c 8 8 xs y18 hn (HU.out y18 hLU).2 rfl (by omega)).mono ?_
            rintro e v ⟨rfl, k, rfl⟩
            replace hLU : Low u (y18.drewN k) := below_drewN hLU k
            replace hOwn : OwnB 5 (y18.drewN k) u.heap.size (some ⟨gE, 0, none⟩) 0 0 [] := hOwn
            go_simp
            refine hK _ _ (HU.out _ hLU).1 ?_
            clear hK K
            generalize y18.drewN k = y19 at *
            refine walkS_act rfl (by rfl) (fun K hK => ?_)
            go_simp
            refine (rftwo_any (some ⟨b, o, none⟩) n c 14 14 xs y19 hn (HU.out y19 hLU).2 rfl (by omega)).mono ?_
            rintro e v ⟨rfl, k, rfl⟩
            replace hLU : Low u (y19.drewN k) := below_drewN hLU k
            replace hOwn : OwnB 5 (y19.drewN k) u.heap.size (some ⟨gE, 0, none⟩) 0 0 [] := hOwn
            go_simp
            refine hK _ _ (HU.out _ hLU).1 ?_
            clear hK K
            generalize y19.drewN k = y20 at *
            refine walkS_act rfl (by rfl) (fun K hK => ?_)
            go_simp
            refine (rftwo_any (some ⟨b, o, none⟩) n c 16 16 xs y20 hn (HU.out y20 hLU).2 rfl (by omega)).mono ?_
            rintro e v ⟨rfl, k, rfl⟩
            replace hLU : Low u (y20.drewN k) := below_drewN hLU k
            replace hOwn : OwnB 5 (y20.drewN k) u.heap.size (some ⟨gE, 0, none⟩) 0 0 [] := hOwn
            go_simp
            refine hK _ _ (HU.out _ hLU).1 ?_
            clear hK K
            generalize y20.drewN k = y21 at *
            refine walkS_act rfl (by rfl) (fun K hK => ?_)
            go_simp
            refine (rftwo_any (some ⟨b, o, none⟩) n c 18 18 xs y21 hn (HU.out y21 hLU).2 rfl (by omega)).mono ?_
            rintro e v ⟨rfl, k, rfl⟩
            replace hLU : Low u (y21.drewN k) := below_drewN hLU k
            replace hOwn : OwnB 5 (y21.drewN k) u.heap.size (some ⟨gE, 0, none⟩) 0 0 [] := hOwn
            go_simp
            refine hK _ _ (HU.out _ hLU).1 ?_
            clear hK K
            generalize y21.drewN k = y22 at *
            generalize y22 = yz at *
            refine walkS_act rfl (by rfl) (fun K hK => ?_)
            have hsrc := ((HU.out yz hLU).2.at_behind (s := m) hm3 HA2.out)
            refine wp_append_bs (.tmp 65) (.tmp 68) _ rfl u.heap.size 5 i0 Tryz.underlying22 hi hz0 hz1 hz2 _ 0 0 [] rfl hOwn A2 (n - m) (c - m) _ _ rfl hsrc (by omega) hLU.size ?_
            intro A9 c9 w9 hO9 hg9 hx9
            have hL9 : Low u w9 := hLU.grown hg9 hLU.size (fun k hk => (hOwn.lt k hk).1)
            refine hK _ _ (HU.out _ hL9).1 ?_
            clear hK K hsrc hg9 hx9 hOwn hLU
            simp only [Act.put, List.setIfInBounds_toArray, List.set_cons_zero, List.set_cons_succ, Nat.zero_add, List.nil_append] at hO9 ⊢
            refine walkS_read (v := .agg (segC ⟨num2 xs 0, num2 xs 2, num4 xs 4, num4 xs 8, x13, num2 xs 14, num2 xs 16, num2 xs 18, oA, om, oc, os, A9, n - m, c9, xs.drop m⟩).toArray) rfl (by rfl) (by intro y hy; go_simp; try rfl) ?_
            simp only [Act.put, List.setIfInBounds_toArray, List.set_cons_zero, List.set_cons_succ]
            replace HZ := Lib.hid (HZ.out.below hL9 HZ.out.lt)
            refine walkS_act rfl (by rfl) (fun K hK => ?_)
            refine wp_store_row 34 (.tmp 2) (.tmp 70) rfl w.heap.size (segC ⟨num2 xs 0, num2 xs 2, num4 xs 4, num4 xs 8, x13, num2 xs 14, num2 xs 16, num2 xs 18, oA, om, oc, os, A9, n - m, c9, xs.drop m⟩).toArray rfl rfl 34 _ HZ.out (by rw [seg_size]; rfl) rfl (segC_one _) ?_
            have hBE := (HU.out _ hL9).1.trans (low_setRow w9 w.heap.size (segC ⟨num2 xs 0, num2 xs 2, num4 xs 4, num4 xs 8, x13, num2 xs 14, num2 xs 16, num2 xs 18, oA, om, oc, os, A9, n - m, c9, xs.drop m⟩).toArray (Nat.le_refl _))
            refine hK _ _ hBE ?_
            clear hK K
            have HG := BlkV.setRow HZ.out (segC ⟨num2 xs 0, num2 xs 2, num4 xs 4, num4 xs 8, x13, num2 xs 14, num2 xs 16, num2 xs 18, oA, om, oc, os, A9, n - m, c9, xs.drop m⟩)
            have hend := tcparse_end (w := w) (u := u) (w9 := w9) hL9 hO9 HOS.out HOF.out HLW1.out hL4.size (setRow_oth w9 w.heap.size (segC ⟨num2 xs 0, num2 xs 2, num4 xs 4, num4 xs 8, x13, num2 xs 14, num2 xs 16, num2 xs 18, oA, om, oc, os, A9, n - m, c9, xs.drop m⟩).toArray) (by simp) HB.out.all (by omega) (by omega) hr13 HRU.out (c := oc) (m := m)
            clear HZ HOS HOF HU hL9 hO9
            generalize w9.setRow w.heap.size (segC ⟨num2 xs 0, num2 xs 2, num4 xs 4, num4 xs 8, x13, num2 xs 14, num2 xs 16, num2 xs 18, oA, om, oc, os, A9, n - m, c9, xs.drop m⟩).toArray = wE at *
            simp only [Act.put]
            refine walkS_read (v := _) rfl (by rfl) (by intro y hy; go_simp; try rfl) ?_
            simp only [Act.put, List.setIfInBounds_toArray, List.set_cons_zero, List.set_cons_succ]
            unfold walkS
            go_wp2
            refine ret_seg Tryz.results18 rfl rfl HG (GivesSF.of HX.out ?_ hend.1 hBE hend.2) rfl
            rw [HX13.out, ← HOV.out]
            rfl
        · refine walkS_act rfl (by rfl) (fun K hK => ?_)
          go_simp
          obtain ⟨gE, hgE⟩ : ∃ g, g = y2.heap.size := ⟨_, rfl⟩
          have hOwn : OwnB 5 (y2.alloc (.cells #[] 5)) u.heap.size (some ⟨gE, 0, none⟩) 0 0 [] := by rw [hgE]; exact OwnB.fresh y2 5 hLU.size
          rw [← hgE]
          clear hgE
          replace hLU : Low u (y2.alloc (.cells #[] 5)) := hLU.trans (Low.alloc _ _)
          refine hK _ _ (HU.out _ hLU).1 ?_
          clear hK K
          generalize y2.alloc (.cells #[] 5) = y23 at *
          refine walkS_act rfl (by rfl) (fun K hK => ?_)
          go_simp
          refine (rffour_any (some ⟨b, o, none⟩) n c 4 4 xs y23 hn (HU.out y23 hLU).2 rfl (by omega)).mono ?_
          rintro e v ⟨rfl, k, rfl⟩
          replace hLU : Low u (y23.drewN k) := below_drewN hLU k
          replace hOwn : OwnB 5 (y23.drewN k) u.heap.size (some ⟨gE, 0, none⟩) 0 0 [] := hOwn
          go_simp
          refine hK _ _ (HU.out _ hLU).1 ?_
          clear hK K
          generalize y23.drewN k = y24 at *
          refine walkS_act rfl (by rfl) (fun K hK => ?_)
          go_simp
          refine (rffour_any (some ⟨b, o, none⟩) n c 8 8 xs y24 hn (HU.out y24 hLU).2 rfl (by omega)).mono ?_
          rintro e v ⟨rfl, k, rfl⟩
          replace hLU : Low u (y24.drewN k) := below_drewN hLU k
          replace hOwn : OwnB 5 (y24.drewN k) u.heap.size (some ⟨gE, 0, none⟩) 0 0 [] := hOwn
          go_simp
          refine hK _ _ (HU.out _ hLU).1 ?_
          clear hK K
          generalize y24.drewN k = y25 at *
          refine walkS_act rfl (by rfl) (fun K hK => ?_)
          go_simp
          refine (rftwo_any (some ⟨b, o, none⟩) n c 14 14 xs y25 hn (HU.out y25 hLU).2 rfl (by omega)).mono ?_
          rintro e v ⟨rfl, k, rfl⟩
          replace hLU : Low u (y25.drewN k) := below_drewN hLU k
          replace hOwn : OwnB 5 (y25.drewN k) u.heap.size (some ⟨gE, 0, none⟩) 0 0 [] := hOwn
          go_simp
          refine hK _ _ (HU.out _ hLU).1 ?_
          clear hK K
          generalize y25.drewN k = y26 at *
          refine walkS_act rfl (by rfl) (fun K hK => ?_)
          go_simp
          refine (rftwo_any (some ⟨b, o, none⟩) n c 16 16 xs y26 hn (HU.out y26 hLU).2 rfl (by omega)).mono ?_
          rintro e v ⟨rfl, k, rfl⟩
          replace hLU : Low u (y26.drewN k) := below_drewN hLU k
          replace hOwn : OwnB 5 (y26.drewN k) u.heap.size (some ⟨gE, 0, none⟩) 0 0 [] := hOwn
          go_simp
          refine hK _ _ (HU.out _ hLU).1 ?_
          clear hK K
          generalize y26.drewN k = y27 at *
          refine walkS_act rfl (by rfl) (fun K hK => ?_)
          go_simp
          refine (rftwo_any (some ⟨b, o, none⟩) n c 18 18 xs y27 hn (HU.out y27 hLU).2 rfl (by omega)).mono ?_
          rintro e v ⟨rfl, k, rfl⟩
          replace hLU : Low u (y27.drewN k) := below_drewN hLU k
          replace hOwn : OwnB 5 (y27.drewN k) u.heap.size (some ⟨gE, 0, none⟩) 0 0 [] := hOwn
          go_simp
          refine hK _ _ (HU.out _ hLU).1 ?_
          clear hK K
          generalize y27.drewN k = y28 at *
          generalize y28 = yz at *
          refine walkS_act rfl (by rfl) (fun K hK => ?_)
          have hsrc := ((HU.out yz hLU).2.at_behind (s := m) hm3 HA2.out)
          refine wp_append_bs (.tmp 65) (.tmp 68) _ rfl u.heap.size 5 i0 Tryz.underlying22 hi hz0 hz1 hz2 _ 0 0 [] rfl hOwn A2 (n - m) (c - m) _ _ rfl hsrc (by omega) hLU.size ?_
          intro A9 c9 w9 hO9 hg9 hx9
          have hL9 : Low u w9 := hLU.grown hg9 hLU.size (fun k hk => (hOwn.lt k hk).1)
          refine hK _ _ (HU.out _ hL9).1 ?_
          clear hK K hsrc hg9 hx9 hOwn hLU
          simp only [Act.put, List.setIfInBounds_toArray, List.set_cons_zero, List.set_cons_succ, Nat.zero_add, List.nil_append] at hO9 ⊢
          refine walkS_read (v := .agg (segC ⟨num2 xs 0, num2 xs 2, num4 xs 4, num4 xs 8, x13, num2 xs 14, num2 xs 16, num2 xs 18, oA, om, oc, os, A9, n - m, c9, xs.drop m⟩).toArray) rfl (by rfl) (by intro y hy; go_simp; try rfl) ?_
          simp only [Act.put, List.setIfInBounds_toArray, List.set_cons_zero, List.set_cons_succ]
          replace HZ := Lib.hid (HZ.out.below hL9 HZ.out.lt)
          refine walkS_act rfl (by rfl) (fun K hK => ?_)
          refine wp_store_row 34 (.tmp 2) (.tmp 70) rfl w.heap.size (segC ⟨num2 xs 0, num2 xs 2, num4 xs 4, num4 xs 8, x13, num2 xs 14, num2 xs 16, num2 xs 18, oA, om, oc, os, A9, n - m, c9, xs.drop m⟩).toArray rfl rfl 34 _ HZ.out (by rw [seg_size]; rfl) rfl (segC_one _) ?_
          have hBE := (HU.out _ hL9).1.trans (low_setRow w9 w.heap.size (segC ⟨num2 xs 0, num2 xs 2, num4 xs 4, num4 xs 8, x13, num2 xs 14, num2 xs 16, num2 xs 18, oA, om, oc, os, A9, n - m, c9, xs.drop m⟩).toArray (Nat.le_refl _))
          refine hK _ _ hBE ?_
          clear hK K
          have HG := BlkV.setRow HZ.out (segC ⟨num2 xs 0, num2 xs 2, num4 xs 4, num4 xs 8, x13, num2 xs 14, num2 xs 16, num2 xs 18, oA, om, oc, os, A9, n - m, c9, xs.drop m⟩)
          have hend := tcparse_end (w := w) (u := u) (w9 := w9) hL9 hO9 HOS.out HOF.out HLW1.out hL4.size (setRow_oth w9 w.heap.size (segC ⟨num2 xs 0, num2 xs 2, num4 xs 4, num4 xs 8, x13, num2 xs 14, num2 xs 16, num2 xs 18, oA, om, oc, os, A9, n - m, c9, xs.drop m⟩).toArray) (by simp) HB.out.all (by omega) (by omega) hr13 HRU.out (c := oc) (m := m)
          clear HZ HOS HOF HU hL9 hO9
          generalize w9.setRow w.heap.size (segC ⟨num2 xs 0, num2 xs 2, num4 xs 4, num4 xs 8, x13, num2 xs 14, num2 xs 16, num2 xs 18, oA, om, oc, os, A9, n - m, c9, xs.drop m⟩).toArray = wE at *
          simp only [Act.put]
          refine walkS_read (v := _) rfl (by rfl) (by intro y hy; go_simp; try rfl) ?_
          simp only [Act.put, List.setIfInBounds_toArray, List.set_cons_zero, List.set_cons_succ]
          unfold walkS
          go_wp2
          refine ret_seg Tryz.results18 rfl rfl HG (GivesSF.of HX.out ?_ hend.1 hBE hend.2) rfl
          rw [HX13.out, ← HOV.out]
          rfl
      · refine walkS_act rfl (by rfl) (fun K hK => ?_)
        go_simp
        obtain ⟨gE, hgE⟩ : ∃ g, g = y1.heap.size := ⟨_, rfl⟩
        have hOwn : OwnB 5 (y1.alloc (.cells #[] 5)) u.heap.size (some ⟨gE, 0, none⟩) 0 0 [] := by rw [hgE]; exact OwnB.fresh y1 5 hLU.size
        rw [← hgE]
        clear hgE
        replace hLU : Low u (y1.alloc (.cells #[] 5)) := hLU.trans (Low.alloc _ _)
        refine hK _ _ (HU.out _ hLU).1 ?_
        clear hK K
        generalize y1.alloc (.cells #[] 5) = y29 at *
        refine walkS_act rfl (by rfl) (fun K hK => ?_)
        go_simp
        refine (rftwo_any (some ⟨b, o, none⟩) n c 2 2 xs y29 hn (HU.out y29 hLU).2 rfl (by omega)).mono ?_
        rintro e v ⟨rfl, k, rfl⟩
        replace hLU : Low u (y29.drewN k) := below_drewN hLU k
        replace hOwn : OwnB 5 (y29.drewN k) u.heap.size (some ⟨gE, 0, none⟩) 0 0 [] := hOwn
        go_simp
        refine hK _ _ (HU.out _ hLU).1 ?_
        clear hK K
        generalize y29.drewN k = y30 at *
        refine walkS_act rfl (by rfl) (fun K hK => ?_)
        go_simp
        refine (rffour_any (some ⟨b, o, none⟩) n c 4 4 xs y30 hn (HU.out y30 hLU).2 rfl (by omega)).mono ?_
        rintro e v ⟨rfl, k, rfl⟩
        replace hLU : Low u (y30.drewN k) := below_drewN hLU k
        replace hOwn : OwnB 5 (y30.drewN k) u.heap.size (some ⟨gE, 0, none⟩) 0 0 [] := hOwn
        go_simp
        refine hK _ _ (HU.out _ hLU).1 ?_
        clear hK K
        generalize y30.drewN k = y31 at *
        refine walkS_act rfl (by rfl) (fun K hK => ?_)
        go_simp
        refine (rffour_any (some ⟨b, o, none⟩) n c 8 8 xs y31 hn (HU.out y31 hLU).2 rfl (by omega)).mono ?_
        rintro e v ⟨rfl, k, rfl⟩
        replace hLU : Low u (y31.drewN k) := below_drewN hLU k
        replace hOwn : OwnB 5 (y31.drewN k) u.heap.size (some ⟨gE, 0, none⟩) 0 0 [] := hOwn
        go_simp
        refine hK _ _ (HU.out _ hLU).1 ?_
        clear hK K
        generalize y31.drewN k = y32 at *
        refine walkS_act rfl (by rfl) (fun K hK => ?_)
        go_simp
        refine (rftwo_any (some ⟨b, o, none⟩) n c 14 14 xs y32 hn (HU.out y32 hLU).2 rfl (by omega)).mono ?_
        rintro e v ⟨rfl, k, rfl⟩
        replace hLU : Low u (y32.drewN k) := below_drewN hLU k
        replace hOwn : OwnB 5 (y32.drewN k) u.heap.size (some ⟨gE, 0, none⟩) 0 0 [] := hOwn
        go_simp
        refine hK _ _ (HU.out _ hLU).1 ?_
        clear hK K
        generalize y32.drewN k = y33 at *
        refine walkS_act rfl (by rfl) (fun K hK => ?_)
        go_simp
        refine (rftwo_any (some ⟨b, o, none⟩) n c 16 16 xs y33 hn (HU.out y33 hLU).2 rfl (by omega)).mono ?_
        rintro e v ⟨rfl, k, rfl⟩
        replace hLU : Low u (y33.drewN k) := below_drewN hLU k
        replace hOwn : OwnB 5 (y33.drewN k) u.heap.size (some ⟨gE, 0, none⟩) 0 0 [] := hOwn
        go_simp
        refine hK _ _ (HU.out _ hLU).1 ?_
        clear hK K
        generalize y33.drewN k = y34 at *
        refine walkS_act rfl (by rfl) (fun K hK => ?_)
        go_simp
        refine (rftwo_any (some ⟨b, o, none⟩) n c 18 18 xs y34 hn (HU.out y34 hLU).2 rfl (by omega)).mono ?_
        rintro e v ⟨rfl, k, rfl⟩
        replace hLU : Low u (y34.drewN k) := below_drewN hLU k
        replace hOwn : OwnB 5 (y34.drewN k) u.heap.size (some ⟨gE, 0, none⟩) 0 0 [] := hOwn
        go_simp
        refine hK _ _ (HU.out _ hLU).1 ?_
        clear hK K
        generalize y34.drewN k = y35 at *
        generalize y35 = yz at *
        refine walkS_act rfl (by rfl) (fun K hK => ?_)
        have hsrc := ((HU.out yz hLU).2.at_behind (s := m) hm3 HA2.out)
        refine wp_append_bs (.tmp 65) (.tmp 68) _ rfl u.heap.size 5 i0 Tryz.underlying22 hi hz0 hz1 hz2 _ 0 0 [] rfl hOwn A2 (n - m) (c - m) _ _ rfl hsrc (by omega) hLU.size ?_
        intro A9 c9 w9 hO9 hg9 hx9
        have hL9 : Low u w9 := hLU.grown hg9 hLU.size (fun k hk => (hOwn.lt k hk).1)
        refine hK _ _ (HU.out _ hL9).1 ?_
        clear hK K hsrc hg9 hx9 hOwn hLU
        simp only [Act.put, List.setIfInBounds_toArray, List.set_cons_zero, List.set_cons_succ, Nat.zero_add, List.nil_append] at hO9 ⊢
        refine walkS_read (v := .agg (segC ⟨num2 xs 0, num2 xs 2, num4 xs 4, num4 xs 8, x13, num2 xs 14, num2 xs 16, num2 xs 18, oA, om, oc, os, A9, n - m, c9, xs.drop m⟩).toArray) rfl (by rfl) (by intro y hy; go_simp; try rfl) ?_
        simp only [Act.put, List.setIfInBounds_toArray, List.set_cons_zero, List.set_cons_succ]
        replace HZ := Lib.hid (HZ.out.below hL9 HZ.out.lt)
        refine walkS_act rfl (by rfl) (fun K hK => ?_)
        refine wp_store_row 34 (.tmp 2) (.tmp 70) rfl w.heap.size (segC ⟨num2 xs 0, num2 xs 2, num4 xs 4, num4 xs 8, x13, num2 xs 14, num2 xs 16, num2 xs 18, oA, om, oc, os, A9, n - m, c9, xs.drop m⟩).toArray rfl rfl 34 _ HZ.out (by rw [seg_size]; rfl) rfl (segC_one _) ?_
        have hBE := (HU.out _ hL9).1.trans (low_setRow w9 w.heap.size (segC ⟨num2 xs 0, num2 xs 2, num4 xs 4, num4 xs 8, x13, num2 xs 14, num2 xs 16, num2 xs 18, oA, om, oc, os, A9, n - m, c9, xs.drop m⟩).toArray (Nat.le_refl _))
        refine hK _ _ hBE ?_
        clear hK K
        have HG := BlkV.setRow HZ.out (segC ⟨num2 xs 0, num2 xs 2, num4 xs 4, num4 xs 8, x13, num2 xs 14, num2 xs 16, num2 xs 18, oA, om, oc, os, A9, n - m, c9, xs.drop m⟩)
        have hend := tcparse_end (w := w) (u := u) (w9 := w9) hL9 hO9 HOS.out HOF.out HLW1.out hL4.size (setRow_oth w9 w.heap.size (segC ⟨num2 xs 0, num2 xs 2, num4 xs 4, num4 xs 8, x13, num2 xs 14, num2 xs 16, num2 xs 18, oA, om, oc, os, A9, n - m, c9, xs.drop m⟩).toArray) (by simp) HB.out.all (by omega) (by omega) hr13 HRU.out (c := oc) (m := m)
        clear HZ HOS HOF HU hL9 hO9
        generalize w9.setRow w.heap.size (segC ⟨num2 xs 0, num2 xs 2, num4 xs 4, num4 xs 8, x13, num2 xs 14, num2 xs 16, num2 xs 18, oA, om, oc, os, A9, n - m, c9, xs.drop m⟩).toArray = wE at *
        simp only [Act.put]
        refine walkS_read (v := _) rfl (by rfl) (by intro y hy; go_simp; try rfl) ?_
        simp only [Act.put, List.setIfInBounds_toArray, List.set_cons_zero, List.set_cons_succ]
        unfold walkS
        go_wp2
        refine ret_seg Tryz.results18 rfl rfl HG (GivesSF.of HX.out ?_ hend.1 hBE hend.2) rfl
        rw [HX13.out, ← HOV.out]
        rfl
    · refine walkS_act rfl (by rfl) (fun K hK => ?_)
      go_simp
      obtain ⟨gE, hgE⟩ : ∃ g, g = u.heap.size := ⟨_, rfl⟩
      have hOwn : OwnB 5 (u.alloc (.cells #[] 5)) u.heap.size (some ⟨gE, 0, none⟩) 0 0 [] := by rw [hgE]; exact OwnB.fresh u 5 hLU.size
      rw [← hgE]
      clear hgE
      replace hLU : Low u (u.alloc (.cells #[] 5)) := hLU.trans (Low.alloc _ _)
      refine hK _ _ (HU.out _ hLU).1 ?_
      clear hK K
      generalize u.alloc (.cells #[] 5) = y36 at *
      refine walkS_act rfl (by rfl) (fun K hK => ?_)
      go_simp
      refine (rftwo_any (some ⟨b, o, none⟩) n c 0 0 xs y36 hn (HU.out y36 hLU).2 rfl (by omega)).mono ?_
      rintro e v ⟨rfl, k, rfl⟩
      replace hLU : Low u (y36.drewN k) := below_drewN hLU k
      replace hOwn : OwnB 5 (y36.drewN k) u.heap.size (some ⟨gE, 0, none⟩) 0 0 [] := hOwn
      go_simp
      refine hK _ _ (HU.out _ hLU).1 ?_
      clear hK K
      generalize y36.drewN k = y37 at *
      refine walkS_act rfl (by rfl) (fun K hK => ?_)
      go_simp
      refine (rftwo_any (some ⟨b, o, none⟩) n c 2 2 xs y37 hn (HU.out y37 hLU).2 rfl (by omega)).mono ?_
      rintro e v ⟨rfl, k, rfl⟩
      replace hLU : Low u (y37.drewN k) := below_drewN hLU k
      replace hOwn : OwnB 5 (y37.drewN k) u.heap.size (some ⟨gE, 0, none⟩) 0 0 [] := hOwn
      go_simp
      refine hK _ _ (HU.out _ hLU).1 ?_
      clear hK K
      generalize y37.drewN k = y38 at *
      refine walkS_act rfl (by rfl) (fun K hK => ?_)
      go_simp
      refine (rffour_any (some ⟨b, o, none⟩) n c 4 4 xs y38 hn (HU.out y38 hLU).2 rfl (by omega)).mono ?_
      rintro e v ⟨rfl, k, rfl⟩
      replace hLU : Low u (y38.drewN k) := below_drewN hLU k
      replace hOwn : OwnB 5 (y38.drewN k) u.heap.size (some ⟨gE, 0, none⟩) 0 0 [] := hOwn
      go_simp
      refine hK _ _ (HU.out _ hLU).1 ?_
      clear hK K
      generalize y38.drewN k = y39 at *
      refine walkS_act rfl (by rfl) (fun K hK => ?_)
      go_simp
      refine (rffour_any (some ⟨b, o, none⟩) n c 8 8 xs y39 hn (HU.out y39 hLU).2 rfl (by omega)).mono ?_
      rintro e v ⟨rfl, k, rfl⟩
      replace hLU : Low u (y39.drewN k) := below_drewN hLU k
      replace hOwn : OwnB 5 (y39.drewN k) u.heap.size (some ⟨gE, 0, none⟩) 0 0 [] := hOwn
      go_simp
      refine hK _ _ (HU.out _ hLU).1 ?_
      clear hK K
      generalize y39.drewN k = y40 at *
      refine walkS_act rfl (by rfl) (fun K hK => ?_)
      go_simp
      refine (rftwo_any (some ⟨b, o, none⟩) n c 14 14 xs y40 hn (HU.out y40 hLU).2 rfl (by omega)).mono ?_
      rintro e v ⟨rfl, k, rfl⟩
      replace hLU : Low u (y40.drewN k) := below_drewN hLU k
      replace hOwn : OwnB 5 (y40.drewN k) u.heap.size (some ⟨gE, 0, none⟩) 0 0 [] := hOwn
      go_simp
      refine hK _ _ (HU.out _ hLU).1 ?_
      clear hK K
      generalize y40.drewN k = y41 at *
      refine walkS_act rfl (by rfl) (fun K hK => ?_)
      go_simp
      refine (rftwo_any (some ⟨b, o, none⟩) n c 16 16 xs y41 hn (HU.out y41 hLU).2 rfl (by omega)).mono ?_
      rintro e v ⟨rfl, k, rfl⟩
      replace hLU : Low u (y41.drewN k) := below_drewN hLU k
      replace hOwn : OwnB 5 (y41.drewN k) u.heap.size (some ⟨gE, 0, none⟩) 0 0 [] := hOwn
      go_simp
      refine hK _ _ (HU.out _ hLU).1 ?_
      clear hK K
      generalize y41.drewN k = y42 at *
      refine walkS_act rfl (by rfl) (fun K hK => ?_)
      go_simp
      refine (rftwo_any (some ⟨b, o, none⟩) n c 18 18 xs y42 hn (HU.out y42 hLU).2 rfl (by omega)).mono ?_
      rintro e v ⟨rfl, k, rfl⟩
      replace hLU : Low u (y42.drewN k) := below_drewN hLU k
      replace hOwn : OwnB 5 (y42.drewN k) u.heap.size (some ⟨gE, 0, none⟩) 0 0 [] := hOwn
      go_simp
      refine hK _ _ (HU.out _ hLU).1 ?_
      clear hK K
      generalize y42.drewN k = y43 at *
      generalize y43 = yz at *
      refine walkS_act rfl (by rfl) (fun K hK => ?_)
      have hsrc := ((HU.out yz hLU).2.at_behind (s := m) hm3 HA2.out)
      refine wp_append_bs (.tmp 65) (.tmp 68) _ rfl u.heap.size 5 i0 Tryz.underlying22 hi hz0 hz1 hz2 _ 0 0 [] rfl hOwn A2 (n - m) (c - m) _ _ rfl hsrc (by omega) hLU.size ?_
      intro A9 c9 w9 hO9 hg9 hx9
      have hL9 : Low u w9 := hLU.grown hg9 hLU.size (fun k hk => (hOwn.lt k hk).1)
      refine hK _ _ (HU.out _ hL9).1 ?_
      clear hK K hsrc hg9 hx9 hOwn hLU
      simp only [Act.put, List.setIfInBounds_toArray, List.set_cons_zero, List.set_cons_succ, Nat.zero_add, List.nil_append] at hO9 ⊢
      refine walkS_read (v := .agg (segC ⟨num2 xs 0, num2 xs 2, num4 xs 4, num4 xs 8, x13, num2 xs 14, num2 xs 16, num2 xs 18, oA, om, oc, os, A9, n - m, c9, xs.drop m⟩).toArray) rfl (by rfl) (by intro y hy; go_simp; try rfl) ?_
      simp only [Act.put, List.setIfInBounds_toArray, List.set_cons_zero, List.set_cons_succ]
      replace HZ := Lib.hid (HZ.out.below hL9 HZ.out.lt)
      refine walkS_act rfl (by rfl) (fun K hK => ?_)
      refine wp_store_row 34 (.tmp 2) (.tmp 70) rfl w.heap.size (segC ⟨num2 xs 0, num2 xs 2, num4 xs 4, num4 xs 8, x13, num2 xs 14, num2 xs 16, num2 xs 18, oA, om, oc, os, A9, n - m, c9, xs.drop m⟩).toArray rfl rfl 34 _ HZ.out (by rw [seg_size]; rfl) rfl (segC_one _) ?_
      have hBE := (HU.out _ hL9).1.trans (low_setRow w9 w.heap.size (segC ⟨num2 xs 0, num2 xs 2, num4 xs 4, num4 xs 8, x13, num2 xs 14, num2 xs 16, num2 xs 18, oA, om, oc, os, A9, n - m, c9, xs.drop m⟩).toArray (Nat.le_refl _))
      refine hK _ _ hBE ?_
      clear hK K
      have HG := BlkV.setRow HZ.out (segC ⟨num2 xs 0, num2 xs 2, num4 xs 4, num4 xs 8, x13, num2 xs 14, num2 xs 16, num2 xs 18, oA, om, oc, os, A9, n - m, c9, xs.drop m⟩)
      have hend := tcparse_end (w := w) (u := u) (w9 := w9) hL9 hO9 HOS.out HOF.out HLW1.out hL4.size (setRow_oth w9 w.heap.size (segC ⟨num2 xs 0, num2 xs 2, num4 xs 4, num4 xs 8, x13, num2 xs 14, num2 xs 16, num2 xs 18, oA, om, oc, os, A9, n - m, c9, xs.drop m⟩).toArray) (by simp) HB.out.all (by omega) (by omega) hr13 HRU.out (c := oc) (m := m)
      clear HZ HOS HOF HU hL9 hO9
      generalize w9.setRow w.heap.size (segC ⟨num2 xs 0, num2 xs 2, num4 xs 4, num4 xs 8, x13, num2 xs 14, num2 xs 16, num2 xs 18, oA, om, oc, os, A9, n - m, c9, xs.drop m⟩).toArray = wE at *
      simp only [Act.put]
      refine walkS_read (v := _) rfl (by rfl) (by intro y hy; go_simp; try rfl) ?_
      simp only [Act.put, List.setIfInBounds_toArray, List.set_cons_zero, List.set_cons_succ]
      unfold walkS
      go_wp2
      refine ret_seg Tryz.results18 rfl rfl HG (GivesSF.of HX.out ?_ hend.1 hBE hend.2) rfl
      rw [HX13.out, ← HOV.out]
      rfl

  · rw [if_neg hre] at HX
    clear hos hov hof
    generalize ol.length = om at *
    go_wp2_with ((refine wpList_store_seg rfl (.tmp 2) (.tmp 44) rfl w.heap.size rfl zeroS rfl zeroS HZ.out ?_); intro w5 HG hb5 hz5)
    exact ret_seg Tryz.results18 rfl rfl HG (GivesSF.of HX.out rfl (zeroS_ok _ _) (Below.trans hL4 hb5) (zeroS_from _)) rfl

theorem trcparse_anyF (A : Option Addr) (n c : Nat) (xs : List Int) (w : World) (hn0 : n ≤ 140737488351232) (hc : n ≤ c) (hc2 : c ≤ 9223372036854775807) (hb : Bs w w.heap.size A n xs) :
    Calls Tryz.prog 18 #[.slice A n c] w (GivesSF w (parseS xs)) := by
  by_cases h : (aheadS xs).2 = 0
  · exact trcparse_yes A n c xs w hn0 hc hc2 hb h
  · exact trcparse_err A n c xs w (by omega) hc hc2 hb h
theorem trcparse_any (A : Option Addr) (n c : Nat) (xs : List Int) (w : World) (hn0 : n ≤ 140737488351232) (hc : n ≤ c) (hc2 : c ≤ 9223372036854775807) (hb : Bs w w.heap.size A n xs) :
    Calls Tryz.prog 18 #[.slice A n c] w (GivesS w (parseS xs)) := (trcparse_anyF A n c xs w hn0 hc hc2 hb).mono fun _ _ h => h.weak
end Go.Proofs.YtjafjapnmffohaaGreatDoor

namespace Go.Proofs.YtjafjapnmffohaaGreatDoor
open Go.RowKit
set_option linter.unusedVariables false

end Go.Proofs.YtjafjapnmffohaaGreatDoor

namespace Go.Proofs.YtjafjapnmffohaaGreatDoor
open Go.RowKit
set_option linter.unusedVariables false

set_option maxHeartbeats 800000 in
theorem tcfine_any (s d : List Int) (A : Option Addr) (n c : Nat) (xs : List Int) (w : World) (hs : s.length = 16) (hd : d.length = 16) (vs : AllB s) (vd : AllB d) (hn : n ≤ 140737488355328) (hb : Bs w w.heap.size A n xs) :
    Calls Tryz.prog 110 #[addrV s, addrV d, .slice A n c] w fun e w' => e = .returned (.bool (fineB s d 6 xs)) ∧ Below w.heap.size w w' := by
  unfold addrV
  have HS := Lib.hid hs
  have HD := Lib.hid hd
  have HB0 := Lib.hid (box_first w s d 24 24)
  have HB1 := Lib.hid (box_second w s d 24 24)
  have hL := low2 w s d 24 24
  have HB := Lib.hid (hb.below' hL hL.size)
  clear hs hd hb
  go_enter Tryz.func110, Tryz.ntmps110
  go_wp2_with (first
    | (with_reducible refine wpList_load_addr rfl (.tmp 3) rfl w.heap.size rfl _ s HB0.out HS.out ?_)
    | (with_reducible refine wpList_load_addr rfl (.tmp 4) rfl (w.heap.size + 1) rfl _ d HB1.out HD.out ?_))
  clear HB0 HB1
  generalize (w.alloc (.cells (cellsB s).toArray 24)).alloc (.cells (cellsB d).toArray 24) = w1 at *
  refine (fine_any s d 6 A n c xs w1 HS.out HD.out vs vd (by unfold i64ok; omega) hn HB.out).mono ?_
  rintro e w2 ⟨rfl, hl⟩
  replace hL := hL.trans hl
  clear hl
  obtain ⟨z, hz⟩ : ∃ z, z = fineB s d 6 xs := ⟨_, rfl⟩
  rw [← hz]
  have HZ := Lib.hid hz
  clear hz
  go_wp2
  go_ret
  exact ⟨by rw [← HZ.out]; rfl, hL⟩

/-- the sum that a segment is sealed with, and the segment then -/
def sumS (s d : List Int) (x : Sb) : Int := nt (chk s d 6 (putS { x with su := 0 }))
def sealG (s d : List Int) (t : Sg) : Sg := if canS t.v = 0 then { t with su := sumS s d t.v } else t
theorem canS_su {x : Sb} (h : canS x = 0) (z : Int) (h0 : 0 ≤ z) (h1 : z ≤ 65535) : canS { x with su := z } = 0 := by
  obtain ⟨hf, h2, h3⟩ := canS_zero h
  have hs := fitB_spec hf
  have hf2 : fitB { x with su := z } = true := by
    unfold fitB
    rw [decide_eq_true_iff]
    exact ⟨hs.1, hs.2.1, hs.2.2.1, ⟨h0, h1⟩, hs.2.2.2.2.1, hs.2.2.2.2.2⟩
  unfold canS
  rw [if_pos hf2]
  dsimp only
  rw [if_pos h2, if_neg (by omega)]
theorem headS_len (x : Sb) : (headS x).length = 20 := by simp [headS, two, four]
theorem putS_len (x : Sb) : (putS x).length ≤ 65535 := by
  unfold putS
  split
  · rename_i h
    obtain ⟨-, -, h3⟩ := canS_zero h
    rw [List.length_append, List.length_append, headS_len]
    omega
  · simp
theorem sumS_range (s d : List Int) (x : Sb) : 0 ≤ sumS s d x ∧ sumS s d x ≤ 65535 := by
  have := nt_range (chk s d 6 (putS { x with su := 0 }))
  unfold sumS
  omega
theorem sealG_ok {w : World} {B : Nat} {t : Sg} (h : t.ok w B) (s d : List Int) : (sealG s d t).ok w B := by
  unfold sealG
  split
  · have := sumS_range s d t.v
    exact ⟨h.sp, h.dp, h.sq, h.ak, h.fl, h.wi, by unfold i64ok; dsimp only; omega, h.ur, h.om, h.os, h.pm, h.ps⟩
  · exact h

end Go.Proofs.YtjafjapnmffohaaGreatDoor

namespace Go.Proofs.YtjafjapnmffohaaGreatDoor
open Go.RowKit
set_option linter.unusedVariables false

def exSb : Sb := ⟨1, 2, 7, 0, 2, 0, 0, 0, [], [1, 2]⟩
theorem exS_can : canS exSb = 0 := by decide
theorem exS_len : (putS exSb).length = 22 := by decide
theorem exS_short {xs : List Int} (h : xs.length = 19) : parseS xs = (zeroSb, 3) := by
  have ha : aheadS xs = (0, 3) := by unfold aheadS; rw [if_pos (by omega)]
  unfold parseS
  rw [ha]
  rfl
theorem exS_has1 : hasB 2 1 = false := by decide +kernel
theorem exS_has2 : hasB 2 2 = true := by decide +kernel
theorem exS_has4 : hasB 2 4 = false := by decide +kernel
theorem exS_has16 : hasB 2 16 = false := by decide +kernel

end Go.Proofs.YtjafjapnmffohaaGreatDoor

namespace Go.Proofs.YtjafjapnmffohaaGreatDoor
open Go.RowKit
set_option linter.unusedVariables false

theorem two_num {x : Int} (h : 0 ≤ x ∧ x ≤ 65535) : x / 256 % 256 * 256 + x % 256 = x := by omega
theorem four_num {x : Int} (h : 0 ≤ x ∧ x < 4294967296) : x / 16777216 * 16777216 + x / 65536 % 256 * 65536 + x / 256 % 256 * 256 + x % 256 = x := by omega
/-- the bytes of a segment, one by one -/
theorem putS_lit {x : Sb} (h : canS x = 0) : putS x = x.sp / 256 % 256 :: x.sp % 256 :: x.dp / 256 % 256 :: x.dp % 256 :: x.sq / 16777216 :: x.sq / 65536 % 256 :: x.sq / 256 % 256 :: x.sq % 256 :: x.ak / 16777216 :: x.ak / 65536 % 256 :: x.ak / 256 % 256 :: x.ak % 256 ::
    (5 + ((putO x.os).length : Int) / 4) * 16 :: x.fl :: x.wi / 256 % 256 :: x.wi % 256 :: x.su / 256 % 256 :: x.su % 256 :: x.ur / 256 % 256 :: x.ur % 256 :: (putO x.os ++ x.ps) := by
  unfold putS
  rw [if_pos h, List.append_assoc]
  rfl
theorem parseSb_put {x : Sb} (h : canS x = 0) (hsq : 0 ≤ x.sq ∧ x.sq < 4294967296) (hak : 0 ≤ x.ak ∧ x.ak < 4294967296) : parseS (putS x) = (x, 0) := by
  obtain ⟨hf, hco, hl⟩ := canS_zero h
  obtain ⟨b1, b2, b3, b4, b5, b6⟩ := fitB_spec hf
  obtain ⟨hpp, hq40, hq4⟩ := parse_put hco
  have hlit := putS_lit h
  generalize hq : (putO x.os).length = q at *
  have hlen : (putS x).length = 20 + q + x.ps.length := by rw [hlit]; simp [hq]; omega
  have h12 : (putS x).getD 12 0 = (5 + (q : Int) / 4) * 16 := by rw [hlit]; rfl
  have ha : aheadS (putS x) = (20 + q, 0) := by
    unfold aheadS
    rw [h12, hlen, if_neg (by omega), if_neg (by omega), if_neg (by omega)]
    congr 1
    omega
  have hmid : ((putS x).take (20 + q)).drop 20 = putO x.os := by
    rw [hlit]
    have e : ∀ (l : List Int), List.take (20 + q) (x.sp / 256 % 256 :: x.sp % 256 :: x.dp / 256 % 256 :: x.dp % 256 :: x.sq / 16777216 :: x.sq / 65536 % 256 :: x.sq / 256 % 256 :: x.sq % 256 :: x.ak / 16777216 :: x.ak / 65536 % 256 :: x.ak / 256 % 256 :: x.ak % 256 ::
      (5 + (q : Int) / 4) * 16 :: x.fl :: x.wi / 256 % 256 :: x.wi % 256 :: x.su / 256 % 256 :: x.su % 256 :: x.ur / 256 % 256 :: x.ur % 256 :: l) = x.sp / 256 % 256 :: x.sp % 256 :: x.dp / 256 % 256 :: x.dp % 256 :: x.sq / 16777216 :: x.sq / 65536 % 256 :: x.sq / 256 % 256 :: x.sq % 256 :: x.ak / 16777216 :: x.ak / 65536 % 256 :: x.ak / 256 % 256 :: x.ak % 256 ::
      (5 + (q : Int) / 4) * 16 :: x.fl :: x.wi / 256 % 256 :: x.wi % 256 :: x.su / 256 % 256 :: x.su % 256 :: x.ur / 256 % 256 :: x.ur % 256 :: l.take q := fun l => by
      rw [show 20 + q = q + 20 by omega]
      simp only [List.take_succ_cons]
    rw [e, List.take_left' hq]
    rfl
  have hdr : (putS x).drop (20 + q) = x.ps := by
    rw [hlit, ← List.drop_drop]
    show List.drop q (putO x.os ++ x.ps) = x.ps
    rw [List.drop_left' hq]
  unfold parseS
  rw [ha]
  dsimp only
  rw [if_pos rfl, hmid, hpp]
  dsimp only
  rw [if_pos rfl]
  unfold segS
  rw [hdr]
  have n0 : num2 (putS x) 0 = x.sp := by rw [hlit]; exact two_num b1
  have n2 : num2 (putS x) 2 = x.dp := by rw [hlit]; exact two_num b2
  have n4 : num4 (putS x) 4 = x.sq := by rw [hlit]; exact four_num hsq
  have n8 : num4 (putS x) 8 = x.ak := by rw [hlit]; exact four_num hak
  have n13 : (putS x).getD 13 0 = x.fl := by rw [hlit]; rfl
  have n14 : num2 (putS x) 14 = x.wi := by rw [hlit]; exact two_num b3
  have n16 : num2 (putS x) 16 = x.su := by rw [hlit]; exact two_num b4
  have n18 : num2 (putS x) 18 = x.ur := by rw [hlit]; exact two_num b5
  rw [n0, n2, n4, n8, n13, n14, n16, n18]
theorem parseS_put {t : Sg} {w : World} {B : Nat} (h : canS t.v = 0) (ht : t.ok w B) : parseS (putS t.v) = (t.v, 0) := parseSb_put h ht.sq ht.ak

theorem putS_all {x : Sb} (hps : AllB x.ps) (hos : ∀ o ∈ x.os, AllB o.2) (hsq : 0 ≤ x.sq ∧ x.sq < 4294967296) (hak : 0 ≤ x.ak ∧ x.ak < 4294967296) : AllB (putS x) := by
  unfold putS
  split
  · rename_i h
    obtain ⟨hf, hco, hl⟩ := canS_zero h
    obtain ⟨b1, b2, b3, b4, b5, b6⟩ := fitB_spec hf
    obtain ⟨-, hq40, hq4⟩ := parse_put hco
    unfold headS
    refine (AllB.append ?_ (putO_all hos)).append hps
    refine ((((((((two_all _).append (two_all _)).append (four_all _ hsq)).append (four_all _ hak)).append ?_).append (two_all _)).append (two_all _)).append (two_all _))
    exact .cons (by omega) (by omega) (.cons (by omega) (by omega) .nil)
  · exact AllB.nil
/-- the bytes with another sum -/
theorem putS_su {x : Sb} (h : canS x = 0) {z : Int} (h0 : 0 ≤ z) (h1 : z ≤ 65535) : putS { x with su := z } = ((putS { x with su := 0 }).set 16 (z / 256 % 256)).set 17 (z % 256) := by
  rw [putS_lit (canS_su h z h0 h1), putS_lit (canS_su h 0 (by omega) (by omega))]
  rfl
theorem sealed_fine {s d : List Int} (vs : AllB s) (vd : AllB d) {x : Sb} (h : canS x = 0) (hps : AllB x.ps) (hos : ∀ o ∈ x.os, AllB o.2) (hsq : 0 ≤ x.sq ∧ x.sq < 4294967296) (hak : 0 ≤ x.ak ∧ x.ak < 4294967296) :
    fineB s d 6 (putS { x with su := sumS s d x }) = true := by
  have hr := sumS_range s d x
  rw [putS_su h hr.1 hr.2]
  have hc := canS_su h 0 (by omega) (by omega)
  have hl : 18 ≤ (putS { x with su := 0 }).length := by rw [putS_lit hc]; simp
  have g16 : (putS { x with su := 0 }).getD 16 0 = 0 := by rw [putS_lit hc]; rfl
  have g17 : (putS { x with su := 0 }).getD 17 0 = 0 := by rw [putS_lit hc]; rfl
  exact fine_law vs vd (putS_all (x := { x with su := 0 }) hps hos hsq hak) 6 16 hl rfl g16 g17
end Go.Proofs.YtjafjapnmffohaaGreatDoor
