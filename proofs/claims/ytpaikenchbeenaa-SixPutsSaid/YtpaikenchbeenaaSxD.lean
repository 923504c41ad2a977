/- What six.Put tells of any bytes and any header. Conditions: the header's numbers are ints, its addresses 16 bytes; the bytes are at most 2^47. -/
import Derived.Test.YtpaikenchbeenaaSxB
namespace Go.Proofs.Ytpaikenchbeenaa
open Go.RowKit
set_option linter.unusedVariables false

theorem Row.six {w : World} {g : Nat} {t : TypeId} {a0 a1 a2 a3 a4 a5 : Option Addr} {n0 c0 n1 c1 n2 c2 n3 c3 n4 c4 n5 c5 : Nat} {x0 x1 x2 x3 x4 x5 : List Int}
    (hg : w.heap[g]? = some (.cells #[.slice a0 n0 c0, .slice a1 n1 c1, .slice a2 n2 c2, .slice a3 n3 c3, .slice a4 n4 c4, .slice a5 n5 c5] t (0, 0))) (h0 : Bs w w.heap.size a0 n0 x0) (h1 : Bs w w.heap.size a1 n1 x1) (h2 : Bs w w.heap.size a2 n2 x2) (h3 : Bs w w.heap.size a3 n3 x3) (h4 : Bs w w.heap.size a4 n4 x4) (h5 : Bs w w.heap.size a5 n5 x5) :
    Row w (some ⟨g, 0, none⟩) [(a0, n0, c0), (a1, n1, c1), (a2, n2, c2), (a3, n3, c3), (a4, n4, c4), (a5, n5, c5)] [x0, x1, x2, x3, x4, x5] := by
  refine ⟨rfl, fun i hi => ?_, fun _ => ⟨g, 0, rfl, (Array.getElem?_eq_some_iff.1 hg).1, fun i hi => ?_⟩⟩
  · match i, hi with
    | 0, _ => exact h0
    | 1, _ => exact h1
    | 2, _ => exact h2
    | 3, _ => exact h3
    | 4, _ => exact h4
    | 5, _ => exact h5
  · rw [cell_of_row w g _ _ _ _ hg]
    match i, hi with
    | 0, _ => rfl
    | 1, _ => rfl
    | 2, _ => rfl
    | 3, _ => rfl
    | 4, _ => rfl
    | 5, _ => rfl

/-- the bytes of a header -/
def firstN (h : Hd) : Int := 1610612736 + h.cl * 1048576 + h.lb
def headL (h : Hd) : List Int := four (firstN h) ++ (two h.ln ++ ([h.nx, h.hp] ++ (h.s ++ h.d)))
def putL (h : Hd) : List Int := if canB h then headL h else []
theorem headL_length {h : Hd} (hk : h.ok) : (headL h).length = 40 := by simp [headL, four, two, hk.s, hk.d]
theorem can_range {h : Hd} (hc : canB h = true) : (0 ≤ h.cl ∧ h.cl ≤ 255) ∧ (0 ≤ h.lb ∧ h.lb ≤ 1048575) ∧ (0 ≤ h.ln ∧ h.ln ≤ 65535) ∧ (0 ≤ h.nx ∧ h.nx ≤ 255) ∧ (0 ≤ h.hp ∧ h.hp ≤ 255) := by
  unfold canB at hc
  rw [decide_eq_true_eq] at hc
  omega
theorem headL_all {h : Hd} (hk : h.ok) (hc : canB h = true) : AllB (headL h) := by
  obtain ⟨h0, h1, h2, h3, h4⟩ := can_range hc
  exact (four_all _ (by unfold firstN; omega)).append ((two_all _).append ((AllB.cons (by omega) (by omega) (.cons (by omega) (by omega) .nil)).append (hk.vs.append hk.vd)))
/-- the two addresses in a header's block -/
theorem BlkV.src {w : World} {g : Nat} {h : Hd} (hb : BlkH w g h) (hk : h.ok) {B : Nat} (hg : g < B) : Bs w B (some ⟨g, 5, none⟩) 16 h.s :=
  ⟨hk.s, hk.vs, fun _ => ⟨g, 5, rfl, hg, fun i hi => by
    rw [hb.cell, headC]
    have e : 5 + i = i + 1 + 1 + 1 + 1 + 1 := by omega
    rw [e]
    simp only [List.getElem?_cons_succ]
    rw [List.getElem?_append_left (by rw [cellsB_length, hk.s]; exact hi), cellsB_get (by rw [hk.s]; exact hi)]⟩⟩
theorem BlkV.dst {w : World} {g : Nat} {h : Hd} (hb : BlkH w g h) (hk : h.ok) {B : Nat} (hg : g < B) : Bs w B (some ⟨g, 21, none⟩) 16 h.d :=
  ⟨hk.d, hk.vd, fun _ => ⟨g, 21, rfl, hg, fun i hi => by
    rw [hb.cell, headC]
    have e : 21 + i = (16 + i) + 1 + 1 + 1 + 1 + 1 := by omega
    rw [e]
    simp only [List.getElem?_cons_succ]
    rw [List.getElem?_append_right (by rw [cellsB_length, hk.s]; omega), cellsB_length, hk.s, Nat.add_sub_cancel_left, cellsB_get (by rw [hk.d]; exact hi)]⟩⟩
theorem first_or (x y : Int) (hx : 0 ≤ x ∧ x ≤ 255) (hy : 0 ≤ y ∧ y ≤ 1048575) : bits .or .u32 (bits .or .u32 1610612736 (x * 1048576)) y = 1610612736 + x * 1048576 + y := by
  rw [or_u32 28 1610612736 (x * 1048576) (by omega) (by omega) (by omega) (by omega) (by omega) (by omega), or_u32 20 (1610612736 + x * 1048576) y (by omega) (by omega) (by omega) (by omega) (by omega) (by omega)]

set_option maxHeartbeats 1600000 in
set_option maxRecDepth 100000 in
theorem put_yes (A : Option Addr) (n c : Nat) (xs : List Int) (h : Hd) (w : World) (hk : h.ok) (hc : canB h = true) (hn : n ≤ 140737488355328) (hb : Bs w w.heap.size A n xs) :
    Calls Try.prog 10 #[.slice A n c, headV h] w fun e w' => ∃ v, e = .returned v ∧ NewB 5 w (n + 40) (xs ++ headL h) v w' := by
  unfold headV
  have HO := Lib.hid hk
  clear hk
  go_enter Try.func10, Try.ntmps10
  go_wp2_with ((with_reducible refine wpList_box_v rfl 25 (.tmp 1) rfl (headC h) rfl ?_); intro w1 HB hL hz1; refine Hid.out ?_)
  refine Lib.hid ?_
  replace HB := Lib.hid HB
  replace hb := hb.below' hL hL.size
  clear hz1
  go_wp2_with (with_reducible refine wpList_load_head rfl (.tmp 3) rfl w.heap.size rfl h HB.out HO.out.s HO.out.d ?_)
  refine (can_any h w1 HO.out).mono ?_
  rintro e w2 ⟨rfl, hl⟩
  replace HB := Lib.hid (HB.out.below hl HB.out.lt)
  replace hb := hb.below' hl hl.size
  replace hL := hL.trans hl
  clear hl
  have HC := Lib.hid hc
  rw [show canE h = 0 by unfold canE; rw [if_pos hc]]
  clear hc
  obtain ⟨h0, h1, h2, h3, h4⟩ := can_range HC.out
  have c0 := HB.out.cell 0; have c1 := HB.out.cell 1; have c2 := HB.out.cell 2
  replace c0 : _ = some (Value.int .i64 h.cl) := c0
  replace c1 : _ = some (Value.int .i64 h.lb) := c1
  replace c2 : _ = some (Value.int .i64 h.ln) := c2
  have e1 := first_or h.cl h.lb h0 h1
  go_wp2_with fail
  refine (put32_any none 0 0 _ [] w2 (by omega) (by omega) (Bs.nil _ _ _)).mono ?_
  rintro e w3 ⟨v, rfl, g3, rfl, hg3, hk3, hl3, ha3, hl⟩
  replace hk3 : Blk w3 5 g3 (four (firstN h)) := hk3
  rw [← hl.cell (p := ⟨w.heap.size, 2, none⟩) HB.out.lt] at c2
  replace HB := Lib.hid (HB.out.below hl HB.out.lt)
  replace hb := hb.below' hl hl.size
  replace hL := hL.trans hl
  have hb3 := hk3.bs ha3 hk3.lt hl3
  clear hl hk3 ha3 hl3 hg3 c0 c1
  go_wp2_with fail
  refine (put16_any none 0 0 _ [] w3 (by omega) (by unfold i64ok; omega) (Bs.nil _ _ _)).mono ?_
  rintro e w4 ⟨v, rfl, g4, rfl, hg4, hk4, hl4, ha4, hl⟩
  replace hk4 : Blk w4 5 g4 (two h.ln) := hk4
  replace HB := Lib.hid (HB.out.below hl HB.out.lt)
  replace hb := hb.below' hl hl.size
  replace hL := hL.trans hl
  replace hb3 := hb3.below' hl hl.size
  have hb4 := hk4.bs ha4 hk4.lt hl4
  clear hl hk4 ha4 hl4 hg4 c2
  go_wp2_with fail
  refine wp_region_plan (.rd 0 (.rd 1 (.rd 2 (.rd 3 (.rd 4 (.rd 5 (.rd 6 (.rd 7 (.rd 8 (.rd 10 (.rd 11 (.rd 12 (.rd 13 (.act 9 (.act 14 (.act 15 (.rd 16 (.done))))))))))))))))))
    (by kernel_rfl) (by kernel_rfl) (fun _ _ d _ _ h => by cases d <;> exact h) (by kernel_rfl) ?_
  replace hL : Low w w4.drew := hL.trans (Below.drew (Below.refl _ _))
  replace HB : Hid (BlkH w4.drew w.heap.size h) := HB
  replace hb : Bs w4.drew w4.drew.heap.size A n xs := hb.drew
  replace hb3 : Bs w4.drew w4.drew.heap.size (some ⟨g3, 0, none⟩) 4 (four (firstN h)) := hb3.drew
  replace hb4 : Bs w4.drew w4.drew.heap.size (some ⟨g4, 0, none⟩) 2 (two h.ln) := hb4.drew
  generalize w4.drew = w5 at *
  have c3 := HB.out.cell 3; have c4 := HB.out.cell 4
  replace c3 : _ = some (Value.int .i64 h.nx) := c3
  replace c4 : _ = some (Value.int .i64 h.hp) := c4
  have hgs := HB.out.lt
  have k3 : IntKind.u8.wrap h.nx = h.nx := by simp [IntKind.wrap, IntKind.bits, IntKind.signed]; omega
  have k4 : IntKind.u8.wrap h.hp = h.hp := by simp [IntKind.wrap, IntKind.bits, IntKind.signed]; omega
  have HD := Lib.hid (BlkV.dst HB.out HO.out hgs)
  have HS := Lib.hid (BlkV.src HB.out HO.out hgs)
  have HA := Lib.hid (headL_all HO.out HC.out)
  have HE := Lib.hid (show headL h = four (firstN h) ++ (two h.ln ++ ([h.nx, h.hp] ++ (h.s ++ h.d))) from rfl)
  have HLn := Lib.hid (headL_length HO.out)
  clear HB
  generalize w.heap.size = gs at c3 c4 HD HS hgs ⊢
  iterate 13 (refine walkP_read (v := _) rfl (by rfl) (by intro y hy; have e3 := (hy.cell (p := ⟨gs, 3, none⟩) hgs).trans c3; have e4 := (hy.cell (p := ⟨gs, 4, none⟩) hgs).trans c4; go_simp; try rfl) ?_; simp only [Act.put, List.setIfInBounds_toArray, List.set_cons_zero, List.set_cons_succ])
  refine walkP_act rfl (by rfl) (fun K hK => ?_)
  go_simp
  refine hK _ _ (Low.alloc _ _) ?_
  clear hK K
  have hl := Low.alloc w5 (.cells #[.int .u8 h.nx, .int .u8 h.hp] 5)
  have hk5 : Blk (w5.alloc (.cells #[.int .u8 h.nx, .int .u8 h.hp] 5)) 5 w5.heap.size [h.nx, h.hp] := Blk.new w5 5 [h.nx, h.hp]
  have hb5 := hk5.bs (.cons (by omega) (by omega) (.cons (by omega) (by omega) .nil)) hk5.lt (n := 2) rfl
  replace hL := hL.trans hl
  replace hb := hb.below' hl hl.size
  replace hb3 := hb3.below' hl hl.size
  replace hb4 := hb4.below' hl hl.size
  replace HS := Lib.hid (HS.out.below' hl hl.size)
  replace HD := Lib.hid (HD.out.below' hl hl.size)
  clear hl hk5 c3 c4 hgs
  generalize w5.alloc (.cells #[.int .u8 h.nx, .int .u8 h.hp] 5) = w6 at *
  generalize w5.heap.size = g5 at *
  refine walkP_act rfl (by rfl) (fun K hK => ?_)
  go_simp
  refine hK _ _ (Low.alloc _ _) ?_
  clear hK K
  have hl := Low.alloc w6 (.cells #[.slice A n c, .slice (some ⟨g3, 0, none⟩) 4 4, .slice (some ⟨g4, 0, none⟩) 2 2, .slice (some ⟨g5, 0, none⟩) 2 2, .slice (some ⟨gs, 5, none⟩) 16 16, .slice (some ⟨gs, 21, none⟩) 16 16] 26)
  have hrow := heap_alloc_new w6 (.cells #[.slice A n c, .slice (some ⟨g3, 0, none⟩) 4 4, .slice (some ⟨g4, 0, none⟩) 2 2, .slice (some ⟨g5, 0, none⟩) 2 2, .slice (some ⟨gs, 5, none⟩) 16 16, .slice (some ⟨gs, 21, none⟩) 16 16] 26 (0, 0))
  replace hL := hL.trans hl
  replace hb := hb.below' hl hl.size
  replace hb3 := hb3.below' hl hl.size
  replace hb4 := hb4.below' hl hl.size
  replace hb5 := hb5.below' hl hl.size
  replace HS := Lib.hid (HS.out.below' hl hl.size)
  replace HD := Lib.hid (HD.out.below' hl hl.size)
  clear hl
  generalize w6.alloc (.cells #[.slice A n c, .slice (some ⟨g3, 0, none⟩) 4 4, .slice (some ⟨g4, 0, none⟩) 2 2, .slice (some ⟨g5, 0, none⟩) 2 2, .slice (some ⟨gs, 5, none⟩) 16 16, .slice (some ⟨gs, 21, none⟩) 16 16] 26) = w7 at *
  generalize w6.heap.size = g7 at *
  have hR := Row.six hrow hb hb3 hb4 hb5 HS.out HD.out
  have HF : Hid ([xs, four (firstN h), two h.ln, [h.nx, h.hp], h.s, h.d].flatten = xs ++ headL h) := Lib.hid (by rw [HE.out]; simp)
  have HN : Hid ((xs ++ headL h).length = n + 40) := Lib.hid (by rw [List.length_append, HLn.out, hb.len])
  have HAll : Hid (AllB (xs ++ headL h)) := Lib.hid (hb.all.append HA.out)
  clear hb hb3 hb4 hb5 HS HD hrow
  refine walkP_act rfl (by rfl) (fun K hK => ?_)
  go_simp
  refine (join_any _ 6 6 _ _ (n + 40) w7 rfl (by omega) hR (by rw [HF.out, HN.out]) (by omega)).mono ?_
  rintro e w8 ⟨rfl, hk8, hl⟩
  rw [HF.out] at hk8
  have hN2 : NewB 5 w (n + 40) (xs ++ headL h) (.slice (some ⟨w7.heap.size, 0, none⟩) (n + 40) (n + 40)) w8 := ⟨_, rfl, hL.size, hk8, HN.out, HAll.out, hL.trans hl⟩
  go_simp
  refine hK _ _ hl ?_
  clear hK K hR hk8 hl
  iterate 1 (refine walkP_read (v := _) rfl (by rfl) (by intro y hy; go_simp; try rfl) ?_; simp only [Act.put, List.setIfInBounds_toArray, List.set_cons_zero, List.set_cons_succ])
  unfold walkP
  go_wp2
  go_ret
  exact ⟨_, rfl, hN2⟩

set_option maxHeartbeats 1600000 in
theorem put_no (A : Option Addr) (n c : Nat) (xs : List Int) (h : Hd) (w : World) (hk : h.ok) (hc : canB h = false) (hn : n ≤ 140737488355328) (hb : Bs w w.heap.size A n xs) :
    Calls Try.prog 10 #[.slice A n c, headV h] w fun e w' => ∃ v, e = .returned v ∧ NewB 5 w n xs v w' := by
  unfold headV
  have HO := Lib.hid hk
  clear hk
  go_enter Try.func10, Try.ntmps10
  go_wp2_with ((with_reducible refine wpList_box_v rfl 25 (.tmp 1) rfl (headC h) rfl ?_); intro w1 HB hL hz1; refine Hid.out ?_)
  refine Lib.hid ?_
  replace HB := Lib.hid HB
  replace hb := hb.below' hL hL.size
  clear hz1
  go_wp2_with (with_reducible refine wpList_load_head rfl (.tmp 3) rfl w.heap.size rfl h HB.out HO.out.s HO.out.d ?_)
  refine (can_any h w1 HO.out).mono ?_
  rintro e w2 ⟨rfl, hl⟩
  replace HB := Lib.hid (HB.out.below hl HB.out.lt)
  replace hb := hb.below' hl hl.size
  replace hL := hL.trans hl
  clear hl
  rw [show canE h = 2 by unfold canE; rw [hc]; rfl]
  clear hc
  have hl := Low.alloc w2 (.cells #[.slice A n c] 26)
  have hrow := heap_alloc_new w2 (.cells #[.slice A n c] 26 (0, 0))
  replace hL := hL.trans hl
  replace hb := hb.below' hl hl.size
  go_wp2_with fail
  refine (join1 A n c _ _ xs _ (by omega) hrow hb).mono ?_
  rintro e w4 ⟨v, rfl, hN⟩
  have hN2 := NewB.wider hN hL
  clear hN hl hb hrow HB
  go_wp2
  go_ret
  exact ⟨_, rfl, hN2⟩
theorem put_any (A : Option Addr) (n c : Nat) (xs : List Int) (h : Hd) (w : World) (hk : h.ok) (hn : n ≤ 140737488355328) (hb : Bs w w.heap.size A n xs) :
    Calls Try.prog 10 #[.slice A n c, headV h] w fun e w' => ∃ v, e = .returned v ∧ NewB 5 w (n + (putL h).length) (xs ++ putL h) v w' := by
  by_cases hc : canB h = true
  · rw [show putL h = headL h by unfold putL; rw [if_pos hc], headL_length hk]
    exact put_yes A n c xs h w hk hc hn hb
  · rw [show putL h = [] by unfold putL; rw [if_neg hc], List.append_nil]
    exact put_no A n c xs h w hk (by simpa using hc) hn hb
end Go.Proofs.Ytpaikenchbeenaa
