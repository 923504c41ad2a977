/- What sid.Node and the document's own Node tell, over whatever Make of both. No condition beyond the arguments' types. -/
import Derived.Test.YtjlanbfkpaagdaaDoorSdD
namespace Go.Proofs.YtjlanbfkpaagdaaDoor
open Go.RowKit
set_option linter.unusedVariables false

set_option maxRecDepth 100000 in
set_option maxHeartbeats 1600000 in
theorem sidnode_any (n : Int) (w : World) :
    Calls Tryd.prog 8 #[.int .i64 n] w fun e w' => e = .returned (addrV (makeD n 0 0)) ∧ Below w.heap.size w w' := by
  have HL := Lib.hid (makeD_len n 0 0)
  have HM := Lib.hid (fun w => sidmake_any n 0 0 w (by omega))
  unfold sidV at HM
  go_enter Tryd.func8, Tryd.ntmps8
  go_wp2_with ((with_reducible refine wpList_alloc_v rfl 26 rfl (cellsB zero16) addr_zeroD ?_); intro w1 HZ0 hL hz1; refine Hid.out ?_)
  refine Lib.hid ?_
  have HZ : Hid (Blk w1 26 w.heap.size zero16) := Lib.hid HZ0
  clear HZ0 hz1
  go_wp2_with fail
  refine (HM.out w1).mono ?_
  rintro e w2 ⟨rfl, hl⟩
  obtain ⟨s, hs⟩ : ∃ s, s = makeD n 0 0 := ⟨_, rfl⟩
  rw [← hs] at HL ⊢
  replace hs := Lib.hid hs
  generalize errD n 0 = er at *
  replace hL := hL.trans hl
  replace HZ := Lib.hid (HZ.out.below hl HZ.out.lt)
  clear hl HM
  unfold addrV
  go_wp2_with ((with_reducible refine wpList_alloc_v rfl 26 rfl (cellsB zero16) addr_zeroD ?_); intro w3 HY0 hl hz1; refine Hid.out ?_)
  refine Lib.hid ?_
  have hlt := HZ.out.lt
  have HY : Hid (Blk w3 26 w2.heap.size zero16) := Lib.hid HY0
  replace HZ := Lib.hid (HZ.out.below hl HZ.out.lt)
  go_wp2_with ((with_reducible refine wpList_store_addr rfl (.tmp 3) (.tmp 9) rfl w2.heap.size rfl s rfl _ zero16 HY.out rfl HL.out ?_); intro w4 HG hb4 hz4; refine Hid.out ?_)
  refine Lib.hid ?_
  replace HG := Lib.hid HG
  replace HZ := Lib.hid (HZ.out.below hb4 hlt)
  replace hl : Low w2 w4 := Below.trans hl hb4
  replace hL := hL.trans hl
  clear HY HY0 hz1 hz4 hb4 hl
  go_wp2_with (first | (with_reducible refine wpList_load_addr rfl (.tmp 3) rfl w2.heap.size rfl _ s HG.out HL.out ?_) | ((with_reducible refine wpList_store_addr rfl (.tmp 2) (.tmp 11) rfl w.heap.size rfl s rfl _ zero16 HZ.out rfl HL.out ?_); intro w5 HR hb5 hz5; refine Hid.out ?_))
  refine Lib.hid ?_
  replace HR := Lib.hid HR
  go_wp2_with fail
  exact ret_addr1D Tryd.results8 rfl HR.out HL.out ⟨by rw [hs.out], Below.trans hL hb5⟩ rfl
end Go.Proofs.YtjlanbfkpaagdaaDoor
