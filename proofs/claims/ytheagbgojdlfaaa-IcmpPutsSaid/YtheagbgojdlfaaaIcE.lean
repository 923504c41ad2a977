/- What the document's Parse answers: the message of bytes. Conditions: addresses are 16 bytes; at most 2^47 - 4096 bytes. -/
import Derived.Test.YtheagbgojdlfaaaIcD
import Derived.Test.YtheagbgojdlfaaaCkF
import Derived.Test.YtheagbgojdlfaaaApp
import Derived.Test.YtheagbgojdlfaaaSlc
namespace Go.Proofs.Ytheagbgojdlfaaa
open Go.RowKit
set_option linter.unusedVariables false

section
variable (s d : List Int) (A : Option Addr) (n c : Nat) (xs : List Int) (w : World) (hs : s.length = 16) (hd : d.length = 16) (vs : AllB s) (vd : AllB d) (hn : n ≤ 140737488351232) (hc : n ≤ c) (hb : Bs w w.heap.size A n xs)
include hs hd vs vd hn hc hb

set_option maxRecDepth 100000 in
set_option maxHeartbeats 1600000 in
theorem ricparse_any : Calls Try.prog 11 #[addrV s, addrV d, .slice A n c] w (GivesMF w (parseM s d xs) (.int .i64 (parseE s d xs))) := by
  unfold addrV
  have HBX := Lib.hid hb
  have hl := hb.len
  have HS := Lib.hid hs
  have HD := Lib.hid hd
  have VS := Lib.hid vs
  have VD := Lib.hid vd
  have HB0 := Lib.hid (box_first w s d 23 23)
  have HB1 := Lib.hid (box_second w s d 23 23)
  have hL := low2 w s d 23 23
  have hz2 : ((w.alloc (.cells (cellsB s).toArray 23)).alloc (.cells (cellsB d).toArray 23)).heap.size = w.heap.size + 2 := by simp
  clear hs hd vs vd hb
  have hcs := parseM_cases s d xs
  rw [hl] at hcs
  clear hl
  rcases hcs with ⟨h1, e1, e2⟩ | ⟨h1, h2, e1, e2⟩ | ⟨h1, h2, e1, e2⟩
  · have HE := Lib.hid (And.intro e1 e2)
    have d1 : (n : Int) < 8 := by omega
    clear e1 e2
    go_enter Try.func11, Try.ntmps11
    go_wp2_with ((with_reducible refine wpList_alloc_msg rfl rfl ?_); intro w3 HZ hl3 hz3; refine Hid.out ?_)
    refine Lib.hid ?_
    replace hL := hL.trans hl3
    rw [hz2] at HZ
    clear hl3 hz2 hz3
    go_wp2_with ((refine wpList_store_msg rfl (.tmp 6) (.tmp 13) rfl (w.heap.size + 2) rfl zeroM rfl zeroM HZ ?_); intro w4 HG hb4 ho4 hz4)
    exact ret_msg Try.results11 rfl rfl HG (GivesMF.of (by rw [HE.out.2]; rfl) (by rw [HE.out.1]; rfl) (zeroM_ok _ _) (Below.trans hL (hb4.mono (by omega))) (zeroM_from _)) rfl
  · have HE := Lib.hid (And.intro e1 e2)
    have d1 : ¬ (n : Int) < 8 := by omega
    clear e1 e2
    go_enter Try.func11, Try.ntmps11
    go_wp2_with ((with_reducible refine wpList_alloc_msg rfl rfl ?_); intro w3 HZ hl3 hz3; refine Hid.out ?_)
    refine Lib.hid ?_
    replace hL := hL.trans hl3
    rw [hz2] at HZ
    replace HZ := Lib.hid HZ
    replace HB0 := Lib.hid (HB0.out.below hl3 HB0.out.lt)
    replace HB1 := Lib.hid (HB1.out.below hl3 HB1.out.lt)
    clear hl3 hz2 hz3
    go_wp2_with (first
      | (with_reducible refine wpList_load_addr rfl (.tmp 3) rfl w.heap.size rfl _ s HB0.out HS.out ?_)
      | (with_reducible refine wpList_load_addr rfl (.tmp 4) rfl (w.heap.size + 1) rfl _ d HB1.out HD.out ?_))
    refine (rfine_any s d 58 A n c xs w3 HS.out HD.out VS.out VD.out (by unfold i64ok; omega) hn (HBX.out.below' hL hL.size)).mono ?_
    rintro e w4 ⟨rfl, hl4⟩
    rw [h2]
    replace HZ := Lib.hid (HZ.out.below hl4 HZ.out.lt)
    replace hL := Low.trans hL hl4
    clear hl4 HB0 HB1
    go_wp2_with ((refine wpList_store_msg rfl (.tmp 6) (.tmp 19) rfl (w.heap.size + 2) rfl zeroM rfl zeroM HZ.out ?_); intro w5 HG hb5 ho5 hz5)
    exact ret_msg Try.results11 rfl rfl HG (GivesMF.of (by rw [HE.out.2]; rfl) (by rw [HE.out.1]; rfl) (zeroM_ok _ _) (Below.trans hL (hb5.mono (by omega))) (zeroM_from _)) rfl
  · have HE := Lib.hid (And.intro e1 e2)
    have d1 : ¬ (n : Int) < 8 := by omega
    clear e1 e2
    go_enter Try.func11, Try.ntmps11
    go_wp2_with ((with_reducible refine wpList_alloc_msg rfl rfl ?_); intro w3 HZ hl3 hz3; refine Hid.out ?_)
    refine Lib.hid ?_
    replace hL := hL.trans hl3
    rw [hz2] at HZ
    replace HZ := Lib.hid HZ
    replace HB0 := Lib.hid (HB0.out.below hl3 HB0.out.lt)
    replace HB1 := Lib.hid (HB1.out.below hl3 HB1.out.lt)
    clear hl3 hz2 hz3
    go_wp2_with (first
      | (with_reducible refine wpList_load_addr rfl (.tmp 3) rfl w.heap.size rfl _ s HB0.out HS.out ?_)
      | (with_reducible refine wpList_load_addr rfl (.tmp 4) rfl (w.heap.size + 1) rfl _ d HB1.out HD.out ?_))
    refine (rfine_any s d 58 A n c xs w3 HS.out HD.out VS.out VD.out (by unfold i64ok; omega) hn (HBX.out.below' hL hL.size)).mono ?_
    rintro e w4 ⟨rfl, hl4⟩
    rw [h2]
    replace HZ := Lib.hid (HZ.out.below hl4 HZ.out.lt)
    replace hL := Low.trans hL hl4
    clear hl4 HB0 HB1
    have hb4 := HBX.out.below' hL hL.size
    go_wp2_with fail
    refine (r32_yes A n c 4 4 xs w4 (by omega) hb4 rfl (by omega)).mono ?_
    rintro e w5 ⟨rfl, k5, rfl⟩
    replace HZ : Hid (BlkM (w4.drewN k5) (w.heap.size + 2) zeroM) := HZ
    replace hL := below_drewN hL k5
    replace hb4 : Bs (w4.drewN k5) (w4.drewN k5).heap.size A n xs := hb4.drewN k5
    generalize w4.drewN k5 = w5 at *
    obtain ⟨i0, hi, hz0, hz1, hz2⟩ := info_parts info5
    have hsz := HZ.out.lt
    obtain ⟨b, o, rfl, hbl, hcell⟩ := HBX.out.mem (by omega)
    obtain ⟨A8, hcut, hA8⟩ := slc_from b o n c 8 8 hc rfl (by omega)
    have HCUT := Lib.hid (And.intro hcut hA8)
    clear hcut hA8
    have c0 := hcell 0 (by omega)
    have c1 := hcell 1 (by omega)
    rw [Nat.add_zero] at c0
    have r0 := HBX.out.nonneg 0
    have r1 := HBX.out.nonneg 1
    have k0 : IntKind.i64.wrap (xs.getD 0 0) = xs.getD 0 0 := wraps_i64 _ r0.1 (by omega)
    have k1 : IntKind.i64.wrap (xs.getD 1 0) = xs.getD 1 0 := wraps_i64 _ r1.1 (by omega)
    have n0 : (0 : Int) < n := by omega
    have n0' : 0 < n := by omega
    have n1 : (1 : Int) < n := by omega
    have HG := Lib.hid (show getM xs = ⟨xs.getD 0 0, xs.getD 1 0, num4 xs 4, xs.drop 8⟩ from rfl)
    have H4 := Lib.hid (icnum4 HBX.out.all 4)
    have hmm : n - 8 ≤ 140737488351232 := by omega
    clear hcell
    generalize xs.getD 0 0 = x0 at *
    generalize xs.getD 1 0 = x1 at *
    generalize num4 xs 4 = x4 at *
    go_wp2_with fail
    refine wp_region_planS (fun y => Below w.heap.size w y) (.rd 0 (.rd 1 (.rd 2 (.rd 3 (.rd 4 (.rd 5 (.rd 6 (.rd 7 (.rd 8 (.rd 10 (.rd 11 (.act 9 (.act 12 (.rd 13 (.act 14 (.rd 15 (.done))))))))))))))))) (by kernel_rfl) (by kernel_rfl) (fun _ _ d _ _ h => by cases d <;> exact h) (by kernel_rfl) (Below.drew hL) ?_
    replace HZ : Hid (BlkM w5.drew (w.heap.size + 2) zeroM) := HZ
    replace hL := Below.drew hL
    replace hsz : w.heap.size + 2 < w5.drew.heap.size := hsz
    generalize w5.drew = w7 at *
    iterate 10 (refine walkS_read (v := _) rfl (by rfl) (by
      intro y hy
      have e0 := (hy.cell (p := ⟨b, o, none⟩) hbl).trans c0; have e1 := (hy.cell (p := ⟨b, o + 1, none⟩) hbl).trans c1
      go_simp; try rfl) ?_; simp only [Act.put, List.setIfInBounds_toArray, List.set_cons_zero, List.set_cons_succ])
    refine walkS_read (v := .slice A8 (n - 8) (c - 8)) rfl (by rfl) (by intro y hy; exact slc_exec (HCUT.out.1 y)) ?_
    simp only [Act.put, List.setIfInBounds_toArray, List.set_cons_zero, List.set_cons_succ]
    refine walkS_act rfl (by rfl) (fun K hK => ?_)
    go_simp
    have hla := Low.alloc w7 (.cells #[] 5)
    have hOwn := OwnB.fresh (base := w7.heap.size) w7 5 (Nat.le_refl _)
    refine hK _ _ (Low.trans hL hla) ?_
    clear hK K
    have hLU : Below w7.heap.size w7 (w7.alloc (.cells #[] 5)) := hla
    obtain ⟨gE, hgE⟩ : ∃ g, g = w7.heap.size := ⟨_, rfl⟩
    rw [show (⟨w7.heap.size, 0, none⟩ : Addr) = ⟨gE, 0, none⟩ by rw [hgE]] at hOwn ⊢
    clear hla hgE
    generalize w7.alloc (.cells #[] 5) = w8 at *
    have hsrc := (HBX.out.below' (Low.trans hL hLU) (Low.trans hL hLU).size).cutFrom (s := 8) (by omega) HCUT.out.2
    refine walkS_act rfl (by rfl) (fun K hK => ?_)
    refine wp_append_bs (.tmp 34) (.tmp 36) _ rfl w7.heap.size 5 i0 Try.underlying27 hi hz0 hz1 hz2 _ 0 0 [] rfl hOwn A8 (n - 8) (c - 8) _ _ rfl hsrc (by omega) hLU.size ?_
    intro A9 c9 w9 hO9 hg9 hx9
    have hL9 : Below w7.heap.size w7 w9 := hLU.grown hg9 hLU.size (fun k hk => (hOwn.lt k hk).1)
    refine hK _ _ (Below.trans hL (hL9.mono hL.size)) ?_
    clear hK K hsrc hg9 hx9 hOwn hLU
    replace HZ := Lib.hid (HZ.out.below hL9 HZ.out.lt)
    replace hL := Below.trans hL (hL9.mono hL.size)
    clear hL9
    rw [Nat.zero_add, List.nil_append] at hO9
    simp only [Act.put, List.setIfInBounds_toArray, List.set_cons_zero, List.set_cons_succ, Nat.zero_add]
    generalize xs.drop 8 = ys at *
    iterate 1 (refine walkS_read (v := _) rfl (by rfl) (by intro y hy; go_simp; try rfl) ?_; simp only [Act.put, List.setIfInBounds_toArray, List.set_cons_zero, List.set_cons_succ])
    refine walkS_act rfl (by rfl) (fun K hK => ?_)
    refine wp_store_row 29 (.tmp 6) (.tmp 38) rfl (w.heap.size + 2) (msgC ⟨x0, x1, x4, A9, n - 8, c9, ys⟩).toArray rfl rfl 29 _ HZ.out (by rw [msg_size]; rfl) rfl (msgC_one _) ?_
    have hBE := hL.trans (low_setRow w9 (w.heap.size + 2) (msgC ⟨x0, x1, x4, A9, n - 8, c9, ys⟩).toArray (Nat.le_add_right _ _))
    refine hK _ _ hBE ?_
    clear hK K
    have HE2 := BlkV.setRow HZ.out (msgC ⟨x0, x1, x4, A9, n - 8, c9, ys⟩)
    have hok : Mg.ok (w9.setRow (w.heap.size + 2) (msgC ⟨x0, x1, x4, A9, n - 8, c9, ys⟩).toArray) (w9.setRow (w.heap.size + 2) (msgC ⟨x0, x1, x4, A9, n - 8, c9, ys⟩).toArray).heap.size ⟨x0, x1, x4, A9, n - 8, c9, ys⟩ :=
      ⟨by unfold i64ok; dsimp only; omega, by unfold i64ok; dsimp only; omega, H4.out, hmm, hO9.other (g' := w.heap.size + 2) hsz (fun p hp => World.cell?_of_block (by simp [World.setRow, Array.getElem?_modify, Ne.symm hp])) (by simp)⟩
    have hfr := MFrom.own (kd := x0) (cd := x1) (wd := x4) (k := c9) (bs := ys) hO9 (show w.heap.size ≤ w7.heap.size by omega)
    clear HZ hO9
    generalize w9.setRow (w.heap.size + 2) (msgC ⟨x0, x1, x4, A9, n - 8, c9, ys⟩).toArray = wE at *
    simp only [Act.put]
    iterate 1 (refine walkS_read (v := _) rfl (by rfl) (by intro y hy; go_simp; try rfl) ?_; simp only [Act.put, List.setIfInBounds_toArray, List.set_cons_zero, List.set_cons_succ])
    unfold walkS
    go_wp2
    exact ret_msg Try.results11 rfl rfl HE2 (GivesMF.of (by rw [HE.out.2, HG.out]; rfl) (by rw [HE.out.1]; rfl) hok hBE hfr) rfl
end
end Go.Proofs.Ytheagbgojdlfaaa
