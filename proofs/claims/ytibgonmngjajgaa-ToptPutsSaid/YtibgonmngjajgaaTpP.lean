/- What the laws' own small test of options answers: true. No condition. -/
import Derived.Test.YtibgonmngjajgaaTpG
import Derived.Test.YtibgonmngjajgaaTpJ
import Derived.Test.YtibgonmngjajgaaTpO
import Derived.Test.YtibgonmngjajgaaOctL
namespace Go.Proofs.Ytibgonmngjajgaa
open Go.RowKit
set_option linter.unusedVariables false

theorem ex_put : putO [(2, [5, 220])] = [2, 4, 5, 220] := by decide
theorem ex_can : canO [(2, [5, 220])] = 0 := by decide
theorem ex_parse : parseL [0, 1] = ([], 5) := by decide
theorem ex_arg : canO [zeroB] = 2 := by decide

set_option maxHeartbeats 1600000 in
theorem tplives_any (w : World) : Calls Try.prog 7 #[] w fun e w' => e = .returned (.bool true) ∧ Below w.heap.size w w' := by
  have ha : AllB [5, 220] := .cons (by omega) (by omega) (.cons (by omega) (by omega) .nil)
  have hk0 : Blk (w.alloc (.cells #[.int .u8 5, .int .u8 220] 5)) 5 w.heap.size [5, 220] := Blk.new w 5 [5, 220]
  have hl0 := Low.alloc w (.cells #[.int .u8 5, .int .u8 220] 5)
  have hod : Od.ok (w.alloc (.cells #[.int .u8 5, .int .u8 220] 5)) (w.alloc (.cells #[.int .u8 5, .int .u8 220] 5)).heap.size ⟨2, some ⟨w.heap.size, 0, none⟩, 2, 2, [5, 220]⟩ :=
    ⟨by simp [i64ok], by simp, hk0.bs ha hk0.lt rfl⟩
  have hos := Os.one (w.alloc (.cells #[.int .u8 5, .int .u8 220] 5)) 39 _ hod (B := w.heap.size + 2) (by simp)
  simp only [World.size_alloc] at hos
  have hl1 := hl0.trans (Low.alloc _ (.cells #[.int .i64 2, .slice (some ⟨w.heap.size, 0, none⟩) 2 2] 39))
  have HOS := Lib.hid hos
  have HL := Lib.hid hl1
  clear hk0 hl0 hod hos hl1
  go_enter Try.func7, Try.ntmps7
  go_wp2_with fail
  refine (tput_any _ 1 1 _ _ (by omega) (HOS.out.more (by simp))).mono ?_
  rintro e w1 ⟨A1, c1, rfl, hb1, -, hB1⟩
  simp only [List.map_cons, List.map_nil, Od.v, ex_put, ex_can, List.length_cons, List.length_nil, Nat.zero_add, Nat.reduceAdd] at hb1 ⊢
  have hB := Low.trans HL.out hB1
  have hk2 : Blk (w1.alloc (.cells #[.int .u8 0, .int .u8 1] 5)) 5 w1.heap.size [0, 1] := Blk.new w1 5 [0, 1]
  have hl2 := Low.alloc w1 (.cells #[.int .u8 0, .int .u8 1] 5)
  have hb2 := hb1.below' hl2 hl2.size
  have HK := Lib.hid (hk2.bs (.cons (by omega) (by omega) (.cons (by omega) (by omega) .nil)) hk2.lt rfl)
  have HB := Lib.hid (Low.trans hB hl2)
  have HB2 := Lib.hid hb2
  clear hB1 hB hk2 hl2 hb2 hb1
  go_wp2_with fail
  refine (tparse_any _ 2 2 [0, 1] _ (by omega) (by omega) (by omega) HK.out).mono ?_
  rintro e w3 ⟨A3, c3, os3, rfl, -, -, hB3⟩
  rw [ex_parse]
  have hb3 := HB2.out.below' hB3 hB3.size
  have hcv := conv_bs (c := c1) hb3
  rw [show strOfNums [2, 4, 5, 220] = ⟨#[2, 4, 5, 220]⟩ by decide] at hcv
  have HB4 := Lib.hid (Low.trans HB.out hB3)
  clear hB3 hb3
  go_wp2_with fail
  refine (seg_any none 0 0 [] w3 (by omega) (Os.nil _ _ _)).mono ?_
  rintro e w4 ⟨rfl, hB5⟩
  rw [show segO (List.map Od.v []) = 1220 by rfl]
  have hB6 := Low.trans HB4.out hB5
  have hos2 := Os.one w4 39 zeroO (zeroO_ok _ _) (B := w4.heap.size + 1) (by omega)
  have HOS2 := Lib.hid hos2
  have HB6 := Lib.hid (Low.trans hB6 (Low.alloc w4 (.cells #[.int .i64 0, .slice none 0 0] 39)))
  clear hB5 hB6 hcv hos2
  go_wp2_with fail
  refine (tcan_any _ 1 1 [zeroO] _ (by omega) (HOS2.out.more (by simp))).mono ?_
  rintro e w5 ⟨rfl, hB7⟩
  rw [show canO (List.map Od.v [zeroO]) = 2 from ex_arg]
  have hB8 := Low.trans HB6.out hB7
  clear hB7
  go_wp2_with fail
  go_ret
  exact ⟨rfl, hB8⟩
end Go.Proofs.Ytibgonmngjajgaa
