/- What icmp.Parse answers: the message of bytes. Conditions: addresses are 16 bytes; at most 2^47 - 4096 bytes. -/
import Derived.Test.YtheagbgojdlfaaaIcB
import Derived.Test.YtheagbgojdlfaaaOctU
import Derived.Test.YtheagbgojdlfaaaReg3
namespace Go.Proofs.Ytheagbgojdlfaaa
open Go.RowKit
set_option linter.unusedVariables false

/-- the message of bytes, and why there is none -/
def getM (xs : List Int) : Mb := ⟨xs.getD 0 0, xs.getD 1 0, num4 xs 4, xs.drop 8⟩
def parseE (s d xs : List Int) : Int := if xs.length < 8 then 3 else if fineB s d 58 xs = true then 0 else 6
def parseM (s d xs : List Int) : Mb := if parseE s d xs = 0 then getM xs else zeroMb
theorem parseM_cases (s d xs : List Int) : (xs.length < 8 ∧ parseE s d xs = 3 ∧ parseM s d xs = zeroMb) ∨ (8 ≤ xs.length ∧ fineB s d 58 xs = false ∧ parseE s d xs = 6 ∧ parseM s d xs = zeroMb) ∨
    (8 ≤ xs.length ∧ fineB s d 58 xs = true ∧ parseE s d xs = 0 ∧ parseM s d xs = getM xs) := by
  by_cases h1 : xs.length < 8
  · have e : parseE s d xs = 3 := by unfold parseE; rw [if_pos h1]
    exact .inl ⟨h1, e, by unfold parseM; rw [e]; rfl⟩
  · cases h2 : fineB s d 58 xs
    · have e : parseE s d xs = 6 := by unfold parseE; rw [if_neg h1, h2]; rfl
      exact .inr (.inl ⟨by omega, rfl, e, by unfold parseM; rw [e]; rfl⟩)
    · have e : parseE s d xs = 0 := by unfold parseE; rw [if_neg h1, h2]; rfl
      exact .inr (.inr ⟨by omega, rfl, e, by unfold parseM; rw [e]; rfl⟩)
theorem icnum4 {xs : List Int} (h : AllB xs) (p : Nat) : 0 ≤ num4 xs p ∧ num4 xs p < 4294967296 := by
  have h1 := h.getD p
  have h2 := h.getD (p + 1)
  have h3 := h.getD (p + 2)
  have h4 := h.getD (p + 3)
  unfold num4
  omega

section
variable (s d : List Int) (A : Option Addr) (n c : Nat) (xs : List Int) (w : World) (hs : s.length = 16) (hd : d.length = 16) (vs : AllB s) (vd : AllB d) (hn : n ≤ 140737488351232) (hc : n ≤ c) (hc2 : c ≤ 9223372036854775807) (hb : Bs w w.heap.size A n xs)
include hs hd vs vd hn hc hc2 hb

set_option maxRecDepth 100000 in
set_option maxHeartbeats 1600000 in
theorem icparse_any : Calls Try.prog 10 #[addrV s, addrV d, .slice A n c] w (GivesMF w (parseM s d xs) (.int .i64 (parseE s d xs))) := by
  unfold addrV
  have HBX := Lib.hid hb
  have hl := hb.len
  have HS := Lib.hid hs
  have HD := Lib.hid hd
  have VS := Lib.hid vs
  have VD := Lib.hid vd
  have HB0 := Lib.hid (box_first w s d 23 23)
  have HB1 := Lib.hid (box_second w s d 23 23)
  have hL := low2 w s d 23 23
  have hz2 : ((w.alloc (.cells (cellsB s).toArray 23)).alloc (.cells (cellsB d).toArray 23)).heap.size = w.heap.size + 2 := by simp
  clear hs hd vs vd hb
  have hcs := parseM_cases s d xs
  rw [hl] at hcs
  clear hl
  rcases hcs with ⟨h1, e1, e2⟩ | ⟨h1, h2, e1, e2⟩ | ⟨h1, h2, e1, e2⟩
  · have HE := Lib.hid (And.intro e1 e2)
    have d1 : (n : Int) < 8 := by omega
    clear e1 e2
    go_enter Try.func10, Try.ntmps10
    go_wp2_with ((with_reducible refine wpList_alloc_msg rfl rfl ?_); intro w3 HZ hl3 hz3; refine Hid.out ?_)
    refine Lib.hid ?_
    replace hL := hL.trans hl3
    rw [hz2] at HZ
    clear hl3 hz2 hz3
    go_wp2_with ((refine wpList_store_msg rfl (.tmp 6) (.tmp 15) rfl (w.heap.size + 2) rfl zeroM rfl zeroM HZ ?_); intro w4 HG hb4 ho4 hz4)
    exact ret_msg Try.results10 rfl rfl HG (GivesMF.of (by rw [HE.out.2]; rfl) (by rw [HE.out.1]; rfl) (zeroM_ok _ _) (Below.trans hL (hb4.mono (by omega))) (zeroM_from _)) rfl
  · have HE := Lib.hid (And.intro e1 e2)
    have d1 : ¬ (n : Int) < 8 := by omega
    clear e1 e2
    go_enter Try.func10, Try.ntmps10
    go_wp2_with ((with_reducible refine wpList_alloc_msg rfl rfl ?_); intro w3 HZ hl3 hz3; refine Hid.out ?_)
    refine Lib.hid ?_
    replace hL := hL.trans hl3
    rw [hz2] at HZ
    replace HZ := Lib.hid HZ
    replace HB0 := Lib.hid (HB0.out.below hl3 HB0.out.lt)
    replace HB1 := Lib.hid (HB1.out.below hl3 HB1.out.lt)
    clear hl3 hz2 hz3
    go_wp2_with (first
      | (with_reducible refine wpList_load_addr rfl (.tmp 3) rfl w.heap.size rfl _ s HB0.out HS.out ?_)
      | (with_reducible refine wpList_load_addr rfl (.tmp 4) rfl (w.heap.size + 1) rfl _ d HB1.out HD.out ?_))
    refine (fine_any s d 58 A n c xs w3 HS.out HD.out VS.out VD.out (by unfold i64ok; omega) (by omega) (HBX.out.below' hL hL.size)).mono ?_
    rintro e w4 ⟨rfl, hl4⟩
    rw [h2]
    replace HZ := Lib.hid (HZ.out.below hl4 HZ.out.lt)
    replace hL := Low.trans hL hl4
    clear hl4 HB0 HB1
    go_wp2_with ((refine wpList_store_msg rfl (.tmp 6) (.tmp 21) rfl (w.heap.size + 2) rfl zeroM rfl zeroM HZ.out ?_); intro w5 HG hb5 ho5 hz5)
    exact ret_msg Try.results10 rfl rfl HG (GivesMF.of (by rw [HE.out.2]; rfl) (by rw [HE.out.1]; rfl) (zeroM_ok _ _) (Below.trans hL (hb5.mono (by omega))) (zeroM_from _)) rfl
  · have HE := Lib.hid (And.intro e1 e2)
    have d1 : ¬ (n : Int) < 8 := by omega
    clear e1 e2
    go_enter Try.func10, Try.ntmps10
    go_wp2_with ((with_reducible refine wpList_alloc_msg rfl rfl ?_); intro w3 HZ hl3 hz3; refine Hid.out ?_)
    refine Lib.hid ?_
    replace hL := hL.trans hl3
    rw [hz2] at HZ
    replace HZ := Lib.hid HZ
    replace HB0 := Lib.hid (HB0.out.below hl3 HB0.out.lt)
    replace HB1 := Lib.hid (HB1.out.below hl3 HB1.out.lt)
    clear hl3 hz2 hz3
    go_wp2_with (first
      | (with_reducible refine wpList_load_addr rfl (.tmp 3) rfl w.heap.size rfl _ s HB0.out HS.out ?_)
      | (with_reducible refine wpList_load_addr rfl (.tmp 4) rfl (w.heap.size + 1) rfl _ d HB1.out HD.out ?_))
    refine (fine_any s d 58 A n c xs w3 HS.out HD.out VS.out VD.out (by unfold i64ok; omega) (by omega) (HBX.out.below' hL hL.size)).mono ?_
    rintro e w4 ⟨rfl, hl4⟩
    rw [h2]
    replace HZ := Lib.hid (HZ.out.below hl4 HZ.out.lt)
    replace hL := Low.trans hL hl4
    clear hl4 HB0 HB1
    have hb4 := HBX.out.below' hL hL.size
    go_wp2_with fail
    refine (u32_yes A n c 4 4 xs w4 (by omega) hb4 rfl (by omega)).mono ?_
    rintro e w5 ⟨rfl, k5, rfl⟩
    replace HZ : Hid (BlkM (w4.drewN k5) (w.heap.size + 2) zeroM) := HZ
    replace hL := below_drewN hL k5
    replace hb4 : Bs (w4.drewN k5) (w4.drewN k5).heap.size A n xs := hb4.drewN k5
    generalize w4.drewN k5 = w5 at *
    go_wp2_with fail
    refine (cut_yes A n c 8 ((n : Int) - 8) 8 (n - 8) xs w5 (by omega) hc hc2 hb4 rfl (by omega) (by omega)).mono ?_
    rintro e w6 ⟨v, rfl, g, rfl, hg, hk, hl6, ha6, hl⟩
    rw [List.take_of_length_le (by rw [List.length_drop, HBX.out.len]; omega)] at hk hl6 ha6
    have hgz : w.heap.size + 2 < g := Nat.lt_of_lt_of_le HZ.out.lt hg
    replace HZ := Lib.hid (HZ.out.below hl HZ.out.lt)
    replace hL := Low.trans hL hl
    have HBY := Lib.hid (And.intro hk (And.intro hl6 ha6))
    clear hk hl6 ha6 hl hb4 hg
    obtain ⟨b, o, rfl, hbl, hcell⟩ := HBX.out.mem (by omega)
    have c0 := hcell 0 (by omega)
    have c1 := hcell 1 (by omega)
    rw [Nat.add_zero] at c0
    have r0 := HBX.out.nonneg 0
    have r1 := HBX.out.nonneg 1
    have k0 : IntKind.i64.wrap (xs.getD 0 0) = xs.getD 0 0 := wraps_i64 _ r0.1 (by omega)
    have k1 : IntKind.i64.wrap (xs.getD 1 0) = xs.getD 1 0 := wraps_i64 _ r1.1 (by omega)
    have n0 : (0 : Int) < n := by omega
    have n0' : 0 < n := by omega
    have n1 : (1 : Int) < n := by omega
    have HG := Lib.hid (show getM xs = ⟨xs.getD 0 0, xs.getD 1 0, num4 xs 4, xs.drop 8⟩ from rfl)
    have H4 := Lib.hid (icnum4 HBX.out.all 4)
    have hmm : n - 8 ≤ 140737488351232 := by omega
    clear hcell
    generalize xs.getD 0 0 = x0 at *
    generalize xs.getD 1 0 = x1 at *
    generalize num4 xs 4 = x4 at *
    generalize xs.drop 8 = ys at *
    go_wp2_with fail
    refine wp_region_planS (fun y => Below w.heap.size w y) (.rd 0 (.rd 1 (.rd 2 (.rd 3 (.rd 4 (.rd 5 (.rd 6 (.rd 7 (.rd 8 (.rd 9 (.rd 10 (.act 11 (.rd 12 (.done)))))))))))))) (by kernel_rfl) (by kernel_rfl) (fun _ _ d _ _ h => by cases d <;> exact h) (by kernel_rfl) (Below.drew hL) ?_
    replace HZ : Hid (BlkM w6.drew (w.heap.size + 2) zeroM) := HZ
    replace HBY : Hid (Blk w6.drew 5 g ys ∧ ys.length = n - 8 ∧ AllB ys) := HBY
    replace hL := Below.drew hL
    generalize w6.drew = w7 at *
    iterate 11 (refine walkS_read (v := _) rfl (by rfl) (by
      intro y hy
      have e0 := (hy.cell (p := ⟨b, o, none⟩) hbl).trans c0; have e1 := (hy.cell (p := ⟨b, o + 1, none⟩) hbl).trans c1
      go_simp; try rfl) ?_; simp only [Act.put, List.setIfInBounds_toArray, List.set_cons_zero, List.set_cons_succ])
    refine walkS_act rfl (by rfl) (fun K hK => ?_)
    refine wp_store_row 29 (.tmp 6) (.tmp 45) rfl (w.heap.size + 2) (msgC ⟨x0, x1, x4, some ⟨g, 0, none⟩, n - 8, n - 8, ys⟩).toArray rfl rfl 29 _ HZ.out (by rw [msg_size]; rfl) rfl (msgC_one _) ?_
    have hBE := hL.trans (low_setRow w7 (w.heap.size + 2) (msgC ⟨x0, x1, x4, some ⟨g, 0, none⟩, n - 8, n - 8, ys⟩).toArray (Nat.le_add_right _ _))
    refine hK _ _ hBE ?_
    clear hK K
    have HE2 := BlkV.setRow HZ.out (msgC ⟨x0, x1, x4, some ⟨g, 0, none⟩, n - 8, n - 8, ys⟩)
    have hok : Mg.ok (w7.setRow (w.heap.size + 2) (msgC ⟨x0, x1, x4, some ⟨g, 0, none⟩, n - 8, n - 8, ys⟩).toArray) (w7.setRow (w.heap.size + 2) (msgC ⟨x0, x1, x4, some ⟨g, 0, none⟩, n - 8, n - 8, ys⟩).toArray).heap.size ⟨x0, x1, x4, some ⟨g, 0, none⟩, n - 8, n - 8, ys⟩ :=
      ⟨by unfold i64ok; dsimp only; omega, by unfold i64ok; dsimp only; omega, H4.out, hmm, HBY.out.1.other HBY.out.2.2 (g' := w.heap.size + 2) (by omega) (fun p hp => World.cell?_of_block (by simp [World.setRow, Array.getElem?_modify, Ne.symm hp])) (by simpa using HBY.out.1.lt) HBY.out.2.1⟩
    clear HZ HBY
    generalize w7.setRow (w.heap.size + 2) (msgC ⟨x0, x1, x4, some ⟨g, 0, none⟩, n - 8, n - 8, ys⟩).toArray = wE at *
    simp only [Act.put]
    iterate 1 (refine walkS_read (v := _) rfl (by rfl) (by intro y hy; go_simp; try rfl) ?_; simp only [Act.put, List.setIfInBounds_toArray, List.set_cons_zero, List.set_cons_succ])
    unfold walkS
    go_wp2
    exact ret_msg Try.results10 rfl rfl HE2 (GivesMF.of (by rw [HE.out.2, HG.out]; rfl) (by rw [HE.out.1]; rfl) hok hBE (MFrom.at_ (by omega))) rfl
end
end Go.Proofs.Ytheagbgojdlfaaa
