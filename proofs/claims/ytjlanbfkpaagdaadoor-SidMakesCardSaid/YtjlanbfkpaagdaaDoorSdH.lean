/- What sid.Is tells. Condition: an address is 16 bytes. -/
import Derived.Test.YtjlanbfkpaagdaaDoorSdG
namespace Go.Proofs.YtjlanbfkpaagdaaDoor
open Go.RowKit
set_option linter.unusedVariables false

/-- is it a segment of that node, to do that? -/
def isB (s : List Int) (n d : Int) : Bool := isD s && ((splitD s).n == n && (splitD s).d == d)

set_option maxRecDepth 100000 in
set_option maxHeartbeats 3200000 in
theorem is_anyD (s : List Int) (n d : Int) (w : World) (hs : s.length = 16) (vs : AllB s) :
    Calls Tryd.prog 15 #[addrV s, .int .i64 n, .int .i64 d] w fun e w' => e = .returned (.bool (isB s n d)) ∧ Below w.heap.size w w' := by
  unfold addrV
  have HS := Lib.hid hs
  have HM := Lib.hid (fun w => split_any s w hs vs)
  unfold addrV at HM
  clear hs vs
  go_enter Tryd.func15, Tryd.ntmps15
  go_wp2_with ((with_reducible refine wpList_box_ad rfl (.tmp 0) rfl rfl ?_); intro w1 HB hL hz1; refine Hid.out ?_)
  refine Lib.hid ?_
  replace HB := Lib.hid HB
  clear hz1
  go_wp2_with (with_reducible refine wpList_load_addr rfl (.tmp 3) rfl w.heap.size rfl 26 s HB.out HS.out ?_)
  refine (HM.out w1).mono ?_
  rintro e w2 ⟨rfl, hl⟩
  replace hL := hL.trans hl
  clear hl HB HM
  have HX := Lib.hid (show isB s n d = (isD s && ((splitD s).n == n && (splitD s).d == d)) from rfl)
  generalize splitD s = x at *
  generalize isD s = b at *
  go_wp2_with ((with_reducible refine wpList_alloc_sd rfl rfl ?_); intro w3 HY hl hz5; refine Hid.out ?_)
  refine Lib.hid ?_
  replace HY := Lib.hid HY
  go_wp2_with ((with_reducible refine wpList_store_sd rfl (.tmp 7) (.tmp 12) rfl w2.heap.size rfl x rfl _ HY.out ?_); intro w4 HK hb6 hz6; refine Hid.out ?_)
  refine Lib.hid ?_
  replace HK := Lib.hid HK
  replace hl : Low w2 w4 := Below.trans hl hb6
  replace hL := hL.trans hl
  obtain ⟨G, hG⟩ : ∃ g, g = w2.heap.size := ⟨_, rfl⟩
  rw [← hG] at HK ⊢
  clear HY hz5 hz6 hb6 hl hG
  obtain ⟨xn, xd, xa⟩ := x
  have c0 : w4.cell? ⟨G, 0, none⟩ = some (.int .i64 xn) := BlkV.cell HK.out 0
  have c1 : w4.cell? ⟨G, 1, none⟩ = some (.int .i64 xd) := BlkV.cell HK.out 1
  have c2 : w4.cell? ⟨G, 2, none⟩ = some (.int .u32 xa) := BlkV.cell HK.out 2
  have heq := fun u => eq_sd ⟨xn, xd, xa⟩ ⟨n, d, xa⟩ u
  have HE := Lib.hid (show eqD ⟨xn, xd, xa⟩ ⟨n, d, xa⟩ = (xn == n && xd == d) by unfold eqD; simp)
  cases b
  · go_wp2_with fail
    go_ret
    exact ⟨by rw [HX.out]; rfl, hL⟩
  · generalize eqD ⟨xn, xd, xa⟩ ⟨n, d, xa⟩ = q at *
    go_wp2_with fail
    go_ret
    exact ⟨by rw [HX.out, HE.out]; rfl, hL⟩
end Go.Proofs.YtjlanbfkpaagdaaDoor
