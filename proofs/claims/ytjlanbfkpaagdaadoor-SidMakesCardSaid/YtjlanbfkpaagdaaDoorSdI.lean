/- What the document's own Split and Is tell. Condition: an address is 16 bytes. -/
import Derived.Test.YtjlanbfkpaagdaaDoorSdH
namespace Go.Proofs.YtjlanbfkpaagdaaDoor
open Go.RowKit
set_option linter.unusedVariables false

/-- what bytes are a segment's, one by one -/
theorem isD_eq (s : List Int) (hs : s.length = 16) (vs : AllB s) : isD s = (s.getD 0 0 == 253 && s.getD 1 0 == 108 && s.getD 2 0 == 0 && s.getD 3 0 == 98 && s.getD 4 0 == 0 && s.getD 5 0 == 0 && s.getD 6 0 == 0 && s.getD 7 0 == 0 && s.getD 11 0 == 0) := by
  have b8 := vs.getD 8
  have b9 := vs.getD 9
  have b12 := vs.getD 12
  have b13 := vs.getD 13
  have b14 := vs.getD 14
  have b15 := vs.getD 15
  obtain ⟨x0, x1, x2, x3, x4, x5, x6, x7, x8, x9, x10, x11, x12, x13, x14, x15, rfl⟩ : ∃ x0 x1 x2 x3 x4 x5 x6 x7 x8 x9 x10 x11 x12 x13 x14 x15 : Int, s = [x0, x1, x2, x3, x4, x5, x6, x7, x8, x9, x10, x11, x12, x13, x14, x15] := by
    refine ⟨s.getD 0 0, s.getD 1 0, s.getD 2 0, s.getD 3 0, s.getD 4 0, s.getD 5 0, s.getD 6 0, s.getD 7 0, s.getD 8 0, s.getD 9 0, s.getD 10 0, s.getD 11 0, s.getD 12 0, s.getD 13 0, s.getD 14 0, s.getD 15 0, ?_⟩
    apply List.ext_getElem
    · rw [hs]; rfl
    · intro i h1 h2
      have hi : i < 16 := by omega
      have e : s[i] = s.getD i 0 := by simp [List.getD, h1]
      rw [e]
      have k : i = 0 ∨ i = 1 ∨ i = 2 ∨ i = 3 ∨ i = 4 ∨ i = 5 ∨ i = 6 ∨ i = 7 ∨ i = 8 ∨ i = 9 ∨ i = 10 ∨ i = 11 ∨ i = 12 ∨ i = 13 ∨ i = 14 ∨ i = 15 := by omega
      rcases k with rfl | rfl | rfl | rfl | rfl | rfl | rfl | rfl | rfl | rfl | rfl | rfl | rfl | rfl | rfl | rfl <;> rfl
  replace b8 : 0 ≤ x8 ∧ x8 < 256 := b8
  replace b9 : 0 ≤ x9 ∧ x9 < 256 := b9
  replace b12 : 0 ≤ x12 ∧ x12 < 256 := b12
  replace b13 : 0 ≤ x13 ∧ x13 < 256 := b13
  replace b14 : 0 ≤ x14 ∧ x14 < 256 := b14
  replace b15 : 0 ≤ x15 ∧ x15 < 256 := b15
  have e : backD [x0, x1, x2, x3, x4, x5, x6, x7, x8, x9, x10, x11, x12, x13, x14, x15] = [253, 108, 0, 98, 0, 0, 0, 0, x8, x9, x10, 0, x12, x13, x14, x15] := by
    show [253, 108, 0, 98, 0, 0, 0, 0, (x8 * 256 + x9) / 256 % 256, (x8 * 256 + x9) % 256, x10, 0, (x12 * 16777216 + x13 * 65536 + x14 * 256 + x15) / 16777216, (x12 * 16777216 + x13 * 65536 + x14 * 256 + x15) / 65536 % 256, (x12 * 16777216 + x13 * 65536 + x14 * 256 + x15) / 256 % 256, (x12 * 16777216 + x13 * 65536 + x14 * 256 + x15) % 256] = _
    rw [show (x8 * 256 + x9) / 256 % 256 = x8 by omega, show (x8 * 256 + x9) % 256 = x9 by omega, show (x12 * 16777216 + x13 * 65536 + x14 * 256 + x15) / 16777216 = x12 by omega, show (x12 * 16777216 + x13 * 65536 + x14 * 256 + x15) / 65536 % 256 = x13 by omega, show (x12 * 16777216 + x13 * 65536 + x14 * 256 + x15) / 256 % 256 = x14 by omega, show (x12 * 16777216 + x13 * 65536 + x14 * 256 + x15) % 256 = x15 by omega]
  unfold isD
  rw [e, Bool.eq_iff_iff]
  simp only [beq_iff_eq, Bool.and_eq_true, List.cons.injEq, and_true, true_and, List.getD_cons_zero, List.getD_cons_succ]
  constructor
  · rintro ⟨h0, h1, h2, h3, h4, h5, h6, h7, h11⟩
    exact ⟨⟨⟨⟨⟨⟨⟨⟨h0.symm, h1.symm⟩, h2.symm⟩, h3.symm⟩, h4.symm⟩, h5.symm⟩, h6.symm⟩, h7.symm⟩, h11.symm⟩
  · rintro ⟨⟨⟨⟨⟨⟨⟨⟨h0, h1⟩, h2⟩, h3⟩, h4⟩, h5⟩, h6⟩, h7⟩, h11⟩
    simp only [h0, h1, h2, h3, h4, h5, h6, h7, h11, and_self]

set_option maxRecDepth 100000 in
set_option maxHeartbeats 12800000 in
theorem rsplit_any (s : List Int) (w : World) (hs : s.length = 16) (vs : AllB s) :
    Calls Tryd.prog 14 #[addrV s] w fun e w' => e = .returned (.tuple #[.agg (sdC (splitD s)).toArray, .bool (isD s)]) ∧ Below w.heap.size w w' := by
  unfold addrV
  have HS := Lib.hid hs
  have HV := Lib.hid vs
  have HQ := isD_eq s hs vs
  have HY := Lib.hid (fun h : isD s = true => show splitD s = sdOf s by unfold splitD; rw [h]; rfl)
  have HN := Lib.hid (fun h : isD s = false => show splitD s = zeroSd by unfold splitD; rw [h]; rfl)
  clear hs vs
  obtain ⟨y0, hy0⟩ : ∃ y, y = s.getD 0 0 := ⟨_, rfl⟩
  rw [← hy0] at HQ
  replace hy0 := Lib.hid hy0
  obtain ⟨y1, hy1⟩ : ∃ y, y = s.getD 1 0 := ⟨_, rfl⟩
  rw [← hy1] at HQ
  replace hy1 := Lib.hid hy1
  obtain ⟨y2, hy2⟩ : ∃ y, y = s.getD 2 0 := ⟨_, rfl⟩
  rw [← hy2] at HQ
  replace hy2 := Lib.hid hy2
  obtain ⟨y3, hy3⟩ : ∃ y, y = s.getD 3 0 := ⟨_, rfl⟩
  rw [← hy3] at HQ
  replace hy3 := Lib.hid hy3
  obtain ⟨y4, hy4⟩ : ∃ y, y = s.getD 4 0 := ⟨_, rfl⟩
  rw [← hy4] at HQ
  replace hy4 := Lib.hid hy4
  obtain ⟨y5, hy5⟩ : ∃ y, y = s.getD 5 0 := ⟨_, rfl⟩
  rw [← hy5] at HQ
  replace hy5 := Lib.hid hy5
  obtain ⟨y6, hy6⟩ : ∃ y, y = s.getD 6 0 := ⟨_, rfl⟩
  rw [← hy6] at HQ
  replace hy6 := Lib.hid hy6
  obtain ⟨y7, hy7⟩ : ∃ y, y = s.getD 7 0 := ⟨_, rfl⟩
  rw [← hy7] at HQ
  replace hy7 := Lib.hid hy7
  obtain ⟨y11, hy11⟩ : ∃ y, y = s.getD 11 0 := ⟨_, rfl⟩
  rw [← hy11] at HQ
  replace hy11 := Lib.hid hy11
  replace HQ := Lib.hid HQ
  go_enter Tryd.func14, Tryd.ntmps14
  go_wp2_with (first | ((with_reducible refine wpList_box_ad rfl (.tmp 0) rfl rfl ?_); intro w1 HB hL hz1) | ((with_reducible refine wpList_alloc_sd rfl rfl ?_); intro w2 HZ hl hz2; refine Hid.out ?_))
  refine Lib.hid ?_
  rw [hz1] at HZ
  replace HZ := Lib.hid HZ
  replace HB := Lib.hid (HB.below hl HB.lt)
  replace hL := hL.trans hl
  clear hl hz1 hz2
  have c0 : w2.cell? ⟨w.heap.size, 0, none⟩ = some (.int .u8 y0) := by rw [HB.out.cell 0, hy0.out]; exact cellsB_get (by have := HS.out; omega)
  have c1 : w2.cell? ⟨w.heap.size, 1, none⟩ = some (.int .u8 y1) := by rw [HB.out.cell 1, hy1.out]; exact cellsB_get (by have := HS.out; omega)
  have c2 : w2.cell? ⟨w.heap.size, 2, none⟩ = some (.int .u8 y2) := by rw [HB.out.cell 2, hy2.out]; exact cellsB_get (by have := HS.out; omega)
  have c3 : w2.cell? ⟨w.heap.size, 3, none⟩ = some (.int .u8 y3) := by rw [HB.out.cell 3, hy3.out]; exact cellsB_get (by have := HS.out; omega)
  have c4 : w2.cell? ⟨w.heap.size, 4, none⟩ = some (.int .u8 y4) := by rw [HB.out.cell 4, hy4.out]; exact cellsB_get (by have := HS.out; omega)
  have c5 : w2.cell? ⟨w.heap.size, 5, none⟩ = some (.int .u8 y5) := by rw [HB.out.cell 5, hy5.out]; exact cellsB_get (by have := HS.out; omega)
  have c6 : w2.cell? ⟨w.heap.size, 6, none⟩ = some (.int .u8 y6) := by rw [HB.out.cell 6, hy6.out]; exact cellsB_get (by have := HS.out; omega)
  have c7 : w2.cell? ⟨w.heap.size, 7, none⟩ = some (.int .u8 y7) := by rw [HB.out.cell 7, hy7.out]; exact cellsB_get (by have := HS.out; omega)
  have c11 : w2.cell? ⟨w.heap.size, 11, none⟩ = some (.int .u8 y11) := by rw [HB.out.cell 11, hy11.out]; exact cellsB_get (by have := HS.out; omega)
  clear hy0 hy1 hy2 hy3 hy4 hy5 hy6 hy7 hy11
  go_wp2_with (refine wpList_store_sd rfl (.tmp 2) (.tmp 49) rfl (w.heap.size + 1) rfl zeroSd rfl _ HZ.out ?_; intro w10 HG hb10 hz10; refine Hid.out ?_)
  · refine Lib.hid ?_
    replace HG := Lib.hid HG
    have HI : Hid (isD s = false) := Lib.hid (by rw [HQ.out]; simp_all)
    have HSP := Lib.hid (HN.out HI.out)
    clear HY HN HB HQ
    go_wp2_with fail
    exact ret_sd Tryd.results14 rfl rfl HG.out ⟨by rw [HI.out, HSP.out]; rfl, Below.trans hL (hb10.mono (by omega))⟩ rfl
  · have HI : Hid (isD s = true) := Lib.hid (by rw [HQ.out]; simp_all)
    have HSP := Lib.hid (HY.out HI.out)
    clear HY HN HQ c0 c1 c2 c3 c4 c5 c6 c7 c11
    refine (r32_yes (some ⟨w.heap.size, 0, none⟩) 16 16 12 12 s w2 (by omega) (HB.out.bs HV.out HB.out.lt HS.out) rfl (by omega)).mono ?_
    rintro e w4 ⟨rfl, k4, hk4⟩
    have hl : Low w2 w4 := by rw [hk4]; exact below_drewN (Below.refl _ _) _
    replace HB := Lib.hid (HB.out.below hl HB.out.lt)
    replace HZ := Lib.hid (HZ.out.below hl HZ.out.lt)
    replace hL := hL.trans hl
    clear hl hk4
    obtain ⟨y8, hy8⟩ : ∃ y, y = s.getD 8 0 := ⟨_, rfl⟩
    obtain ⟨y9, hy9⟩ : ∃ y, y = s.getD 9 0 := ⟨_, rfl⟩
    obtain ⟨y10, hy10⟩ : ∃ y, y = s.getD 10 0 := ⟨_, rfl⟩
    obtain ⟨a, ha⟩ : ∃ a, a = num4 s 12 := ⟨_, rfl⟩
    have b8 : 0 ≤ y8 ∧ y8 < 256 := by rw [hy8]; exact HV.out.getD 8
    have b9 : 0 ≤ y9 ∧ y9 < 256 := by rw [hy9]; exact HV.out.getD 9
    have b10 : 0 ≤ y10 ∧ y10 < 256 := by rw [hy10]; exact HV.out.getD 10
    have c8 : w4.cell? ⟨w.heap.size, 8, none⟩ = some (.int .u8 y8) := by rw [HB.out.cell 8, hy8]; exact cellsB_get (by have := HS.out; omega)
    have c9 : w4.cell? ⟨w.heap.size, 9, none⟩ = some (.int .u8 y9) := by rw [HB.out.cell 9, hy9]; exact cellsB_get (by have := HS.out; omega)
    have c10 : w4.cell? ⟨w.heap.size, 10, none⟩ = some (.int .u8 y10) := by rw [HB.out.cell 10, hy10]; exact cellsB_get (by have := HS.out; omega)
    rw [← ha]
    have HX := Lib.hid (show (⟨y8 * 256 + y9, y10, a⟩ : Sd) = sdOf s by rw [hy8, hy9, hy10, ha]; rfl)
    clear hy8 hy9 hy10 ha HB
    go_wp2_with (refine wpList_store_sd rfl (.tmp 2) (.tmp 67) rfl (w.heap.size + 1) rfl ⟨y8 * 256 + y9, y10, a⟩ rfl _ HZ.out ?_; intro w10 HG hb10 hz10; refine Hid.out ?_)
    refine Lib.hid ?_
    replace HG := Lib.hid HG
    go_wp2_with fail
    exact ret_sd Tryd.results14 rfl rfl HG.out ⟨by rw [HI.out, HSP.out, ← HX.out]; rfl, Below.trans hL (hb10.mono (by omega))⟩ rfl
  all_goals
    refine Lib.hid ?_
    replace HG := Lib.hid HG
    have HI : Hid (isD s = false) := Lib.hid (by rw [HQ.out]; simp_all)
    have HSP := Lib.hid (HN.out HI.out)
    clear HY HN HB HQ
    go_wp2_with fail
    exact ret_sd Tryd.results14 rfl rfl HG.out ⟨by rw [HI.out, HSP.out]; rfl, Below.trans hL (hb10.mono (by omega))⟩ rfl

set_option maxRecDepth 100000 in
set_option maxHeartbeats 3200000 in
theorem ris_anyD (s : List Int) (n d : Int) (w : World) (hs : s.length = 16) (vs : AllB s) :
    Calls Tryd.prog 16 #[addrV s, .int .i64 n, .int .i64 d] w fun e w' => e = .returned (.bool (isB s n d)) ∧ Below w.heap.size w w' := by
  unfold addrV
  have HS := Lib.hid hs
  have HM := Lib.hid (fun w => rsplit_any s w hs vs)
  unfold addrV at HM
  clear hs vs
  go_enter Tryd.func16, Tryd.ntmps16
  go_wp2_with ((with_reducible refine wpList_box_ad rfl (.tmp 0) rfl rfl ?_); intro w1 HB hL hz1; refine Hid.out ?_)
  refine Lib.hid ?_
  replace HB := Lib.hid HB
  clear hz1
  go_wp2_with (with_reducible refine wpList_load_addr rfl (.tmp 3) rfl w.heap.size rfl 26 s HB.out HS.out ?_)
  refine (HM.out w1).mono ?_
  rintro e w2 ⟨rfl, hl⟩
  replace hL := hL.trans hl
  clear hl HB HM
  have HX := Lib.hid (show isB s n d = (isD s && ((splitD s).n == n && (splitD s).d == d)) from rfl)
  generalize splitD s = x at *
  generalize isD s = b at *
  go_wp2_with ((with_reducible refine wpList_alloc_sd rfl rfl ?_); intro w3 HY hl hz5; refine Hid.out ?_)
  refine Lib.hid ?_
  replace HY := Lib.hid HY
  go_wp2_with ((with_reducible refine wpList_store_sd rfl (.tmp 7) (.tmp 12) rfl w2.heap.size rfl x rfl _ HY.out ?_); intro w4 HK hb6 hz6; refine Hid.out ?_)
  refine Lib.hid ?_
  replace HK := Lib.hid HK
  replace hl : Low w2 w4 := Below.trans hl hb6
  replace hL := hL.trans hl
  obtain ⟨G, hG⟩ : ∃ g, g = w2.heap.size := ⟨_, rfl⟩
  rw [← hG] at HK ⊢
  clear HY hz5 hz6 hb6 hl hG
  obtain ⟨xn, xd, xa⟩ := x
  have c0 : w4.cell? ⟨G, 0, none⟩ = some (.int .i64 xn) := BlkV.cell HK.out 0
  have c1 : w4.cell? ⟨G, 1, none⟩ = some (.int .i64 xd) := BlkV.cell HK.out 1
  have c2 : w4.cell? ⟨G, 2, none⟩ = some (.int .u32 xa) := BlkV.cell HK.out 2
  cases b
  · go_wp2_with fail
    go_ret
    exact ⟨by rw [HX.out]; rfl, hL⟩
  · by_cases hx : xn = n
    · have HE := Lib.hid (show (true && (xn == n && xd == d)) = (xd == d) by rw [hx]; simp)
      subst hx
      go_wp2_with fail
      go_ret
      exact ⟨by rw [HX.out, HE.out]; rfl, hL⟩
    · have hx' : (xn == n) = false := by simpa using hx
      have HE := Lib.hid (show (true && (xn == n && xd == d)) = false by rw [hx']; rfl)
      go_wp2_with fail
      go_ret
      exact ⟨by rw [HX.out, HE.out]; rfl, hL⟩
end Go.Proofs.YtjlanbfkpaagdaaDoor
