/- What the document's Same answers of two routing headers that say the same: true. Condition: at most 2^47 segments and parts. -/
import Derived.Test.YtnfiijbnfmcpjaaSrB
import Derived.Test.YtnfiijbnfmcpjaaTlH
import Derived.Test.YtnfiijbnfmcpjaaEq
namespace Go.Proofs.Ytnfiijbnfmcpjaa
open Go.RowKit
set_option linter.unusedVariables false

set_option maxRecDepth 100000 in
set_option maxHeartbeats 1600000 in
theorem srsame_eq (a b : Sr) (w : World) (ha : a.ok w w.heap.size) (hb : b.ok w w.heap.size) (h : a.v = b.v) :
    Calls Try.prog 15 #[srV a, srV b] w fun e w' => e = .returned (.bool true) ∧ Below w.heap.size w w' := by
  unfold srV
  have hga := ha.sg.len
  have hgb := hb.sg.len
  obtain ⟨nx, le, fl, tg, gA, gm, gc, sg, tA, tm, tc, tl⟩ := a
  obtain ⟨nx', le', fl', tg', gA', gm', gc', sg', tA', tm', tc', tl'⟩ := b
  unfold Sr.v at h
  simp only [Rb.mk.injEq] at h
  obtain ⟨rfl, rfl, rfl, rfl, rfl, htl⟩ := h
  dsimp only at hga hgb
  obtain rfl : gm' = gm := by omega
  have HA := Lib.hid ha
  have HB := Lib.hid hb
  have HT := Lib.hid htl
  have hgm := ha.gm
  dsimp only at hgm
  clear ha hb htl hga hgb
  go_enter Try.func15, Try.ntmps15
  go_wp2_with (first
    | ((with_reducible refine wpList_box_sr rfl (.tmp 0) rfl ⟨nx, le, fl, tg, gA, gm', gc, sg, tA, tm, tc, tl⟩ rfl ?_); intro w1 HK1 hl1 hz1)
    | ((with_reducible refine wpList_box_sr rfl (.tmp 1) rfl ⟨nx, le, fl, tg, gA', gm', gc', sg, tA', tm', tc', tl'⟩ rfl ?_); intro w2 HK2 hl2 hz2; refine Hid.out ?_))
  refine Lib.hid ?_
  rw [hz1] at HK2
  replace HK1 := HK1.below hl2 HK1.lt
  have hL : Low w w2 := hl1.trans hl2
  clear hl1 hl2 hz1 hz2
  obtain ⟨a0, a1, a2, a3, a4, a5⟩ := BlkR.cells HK1
  obtain ⟨b0, b1, b2, b3, b4, b5⟩ := BlkR.cells HK2
  dsimp only at a0 a1 a2 a3 a4 a5 b0 b1 b2 b3 b4 b5
  have HK := Lib.hid (And.intro HK1 HK2)
  have HAS := Lib.hid (HA.out.low hL).sg
  have HBS := Lib.hid (HB.out.low hL).sg
  dsimp only at HAS HBS
  clear HK1 HK2
  go_wp2_with fail
  go_loopw [5] (fun i wr => ∃ j : Nat, j ≤ gm' ∧ i = .int .i64 j ∧ Hid (Low w2 wr)) (fun i _ => gm' - (intOf i).toNat)
  case atStart => exact ⟨0, Nat.zero_le _, rfl, Lib.hid (Low.refl _)⟩
  case round =>
    obtain ⟨j, hj, rfl, HL⟩ := hrel
    have d0 := (HL.out.cell (p := ⟨w.heap.size, 4, none⟩) HK.out.1.lt).trans a4
    have e0 := (HL.out.cell (p := ⟨w.heap.size + 1, 4, none⟩) HK.out.2.lt).trans b4
    have d5 := (HL.out.cell (p := ⟨w.heap.size, 5, none⟩) HK.out.1.lt).trans a5
    have e5 := (HL.out.cell (p := ⟨w.heap.size + 1, 5, none⟩) HK.out.2.lt).trans b5
    have HAB := Lib.hid (And.intro a4 (And.intro a5 (And.intro b4 b5)))
    clear a0 a1 a2 a3 a4 a5 b0 b1 b2 b3 b4 b5
    by_cases hjn : j < gm'
    · obtain ⟨ba, oa, rfl, -, -⟩ := HAS.out.mem (by omega)
      obtain ⟨bb, ob, rfl, -, -⟩ := HBS.out.mem (by omega)
      obtain ⟨hla, hra⟩ := HAS.out.at_ hjn
      obtain ⟨hlb, hrb⟩ := HBS.out.at_ hjn
      have hx16 := (HAS.out.all.getD j).1
      generalize sg.getD j zero16 = x at *
      have HRA := Lib.hid (rangeAt_below hra HL.out hla)
      have HRB := Lib.hid (rangeAt_below hrb HL.out hlb)
      have HX := Lib.hid hx16
      have hsz := HL.out.size
      clear hra hrb hx16 d5 e5
      go_wp2_with fail
      refine wp_region_plan (.rd 0 (.rd 1 (.rd 2 (.rd 3 (.rd 4 (.rd 5 (.rd 6 (.rd 7 (.rd 8 (.rd 9 (.rd 10 (.done)))))))))))) (by kernel_rfl) (by kernel_rfl) (fun _ _ d _ _ h => by cases d <;> exact h) (by kernel_rfl) ?_
      replace HL : Hid (Low w2 wr.drew) := Lib.hid (HL.out.trans (Below.drew (Below.refl wr.heap.size wr)))
      replace HRA : Hid (wr.drew.rangeAt ba (oa + j * 16) (cellsB x)) := HRA
      replace HRB : Hid (wr.drew.rangeAt bb (ob + j * 16) (cellsB x)) := HRB
      replace d0 : wr.drew.cell? _ = _ := d0
      replace e0 : wr.drew.cell? _ = _ := e0
      replace hsz : w2.heap.size ≤ wr.drew.heap.size := hsz
      generalize wr.drew = w3 at *
      have hk1 := HK.out.1.lt
      have hk2 := HK.out.2.lt
      iterate 10 (refine walkP_read (v := _) rfl (by rfl) (by
        intro y hy
        have z1 := (hy.cell (p := ⟨w.heap.size, 4, none⟩) (by show w.heap.size < w3.heap.size; omega)).trans d0
        have z2 := (hy.cell (p := ⟨w.heap.size + 1, 4, none⟩) (by show w.heap.size + 1 < w3.heap.size; omega)).trans e0
        first
          | exact exec_load_at rfl HX.out (rangeAt_below HRA.out hy (by omega))
          | exact exec_load_at rfl HX.out (rangeAt_below HRB.out hy (by omega))
          | (go_simp; try rfl)) ?_; simp only [Act.put, List.setIfInBounds_toArray, List.set_cons_zero, List.set_cons_succ])
      refine walkP_read (v := _) rfl (by rfl) (by intro y hy; have heq := eq_addr x x HX.out HX.out y; go_simp; try rfl) ?_
      simp only [walkP, Act.put, List.setIfInBounds_toArray, List.set_cons_zero, List.set_cons_succ]
      clear d0 e0 hk1 hk2
      go_wp2_with fail
      exact ⟨⟨j + 1, by omega, by go_num, HL⟩, by simp [intOf]; omega⟩
    · obtain rfl : j = gm' := by omega
      have hL3 := hL.trans HL.out
      go_wp2_with fail
      refine (sameT_any tA tA' tm tc tm' tc' tl tl' wr (by have := HA.out.tm; dsimp only at this; omega) (by have := HB.out.tm; dsimp only at this; omega) (HA.out.low hL3).tl (HB.out.low hL3).tl).mono ?_
      rintro e w4 ⟨rfl, hB4⟩
      rw [decide_eq_true HT.out]
      have hL4 := Low.trans hL3 hB4
      clear d0 e0 d5 e5 hB4
      go_wp2_with fail
      go_ret
      exact ⟨rfl, hL4⟩
end Go.Proofs.Ytnfiijbnfmcpjaa
