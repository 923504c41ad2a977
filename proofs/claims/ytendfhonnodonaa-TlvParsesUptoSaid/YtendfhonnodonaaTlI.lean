/- What the laws' own small test of parts answers: true. No condition. -/
import Derived.Test.YtendfhonnodonaaTlD
import Derived.Test.YtendfhonnodonaaTlF
import Derived.Test.YtendfhonnodonaaOctL
namespace Go.Proofs.Ytendfhonnodonaa
open Go.RowKit
set_option linter.unusedVariables false

theorem tlex_put : putT [(5, [9])] = [5, 1, 9, 4, 3, 0, 0, 0] := by decide
theorem tlex_can : canT [(5, [9])] = 0 := by decide
theorem tlex_parse : parseTL [0, 4, 0, 7] = ([], 3) := by decide
theorem tlex_pad : (padT 9).length = 9 := by decide
theorem tlex_arg : canT [(4, [])] = 2 := by decide

set_option maxHeartbeats 1600000 in
theorem tllives_any (w : World) : Calls Try.prog 7 #[] w fun e w' => e = .returned (.bool true) ∧ Below w.heap.size w w' := by
  have ha : AllB [9] := .cons (by omega) (by omega) .nil
  have hk0 : Blk (w.alloc (.cells #[.int .u8 9] 5)) 5 w.heap.size [9] := Blk.new w 5 [9]
  have hl0 := Low.alloc w (.cells #[.int .u8 9] 5)
  have hod : Od.ok (w.alloc (.cells #[.int .u8 9] 5)) (w.alloc (.cells #[.int .u8 9] 5)).heap.size ⟨5, some ⟨w.heap.size, 0, none⟩, 1, 1, [9]⟩ :=
    ⟨by simp [i64ok], by simp, hk0.bs ha hk0.lt rfl⟩
  have hos := Os.one (w.alloc (.cells #[.int .u8 9] 5)) 38 _ hod (B := w.heap.size + 2) (by simp)
  simp only [World.size_alloc] at hos
  have hl1 := hl0.trans (Low.alloc _ (.cells #[.int .i64 5, .slice (some ⟨w.heap.size, 0, none⟩) 1 1] 38))
  have HOS := Lib.hid hos
  have HL := Lib.hid hl1
  clear hk0 hl0 hod hos hl1
  go_enter Try.func7, Try.ntmps7
  go_wp2_with fail
  refine (tlput_any _ 1 1 _ _ (by omega) (HOS.out.more (by simp))).mono ?_
  rintro e w1 ⟨A1, c1, rfl, hb1, -, hB1⟩
  simp only [List.map_cons, List.map_nil, Od.v, tlex_put, tlex_can, List.length_cons, List.length_nil, Nat.zero_add, Nat.reduceAdd] at hb1 ⊢
  have hB := Low.trans HL.out hB1
  have hk2 : Blk (w1.alloc (.cells #[.int .u8 0, .int .u8 4, .int .u8 0, .int .u8 7] 5)) 5 w1.heap.size [0, 4, 0, 7] := Blk.new w1 5 [0, 4, 0, 7]
  have hl2 := Low.alloc w1 (.cells #[.int .u8 0, .int .u8 4, .int .u8 0, .int .u8 7] 5)
  have hb2 := hb1.below' hl2 hl2.size
  have HK := Lib.hid (hk2.bs (.cons (by omega) (by omega) (.cons (by omega) (by omega) (.cons (by omega) (by omega) (.cons (by omega) (by omega) .nil)))) hk2.lt rfl)
  have HB := Lib.hid (Low.trans hB hl2)
  have HB2 := Lib.hid hb2
  clear hB1 hB hk2 hl2 hb2 hb1
  go_wp2_with fail
  refine (tlparse_any _ 4 4 [0, 4, 0, 7] _ (by omega) (by omega) (by omega) HK.out).mono ?_
  rintro e w3 ⟨A3, c3, os3, rfl, -, -, hB3, -⟩
  rw [tlex_parse]
  have hb3 := HB2.out.below' hB3 hB3.size
  have hcv := conv_bs (c := c1) hb3
  rw [show strOfNums [5, 1, 9, 4, 3, 0, 0, 0] = ⟨#[5, 1, 9, 4, 3, 0, 0, 0]⟩ by decide] at hcv
  have HB4 := Lib.hid (Low.trans HB.out hB3)
  clear hB3 hb3
  go_wp2_with fail
  refine (tlpad_any 9 w3 (by simp [i64ok])).mono ?_
  rintro e w4 ⟨A4, c4, rfl, -, hB5⟩
  rw [tlex_pad]
  have hB6 := Low.trans HB4.out hB5
  have hos2 := Os.one w4 38 ⟨4, none, 0, 0, []⟩ (B := w4.heap.size + 1) ⟨by simp [i64ok], by simp, Bs.nil _ _ _⟩ (by omega)
  have HOS2 := Lib.hid hos2
  have HB6 := Lib.hid (Low.trans hB6 (Low.alloc w4 (.cells #[.int .i64 4, .slice none 0 0] 38)))
  clear hB5 hB6 hcv hos2
  go_wp2_with fail
  refine (tlcan_any _ 1 1 [⟨4, none, 0, 0, []⟩] _ (by omega) (HOS2.out.more (by simp))).mono ?_
  rintro e w5 ⟨rfl, hB7⟩
  rw [show canT (List.map Od.v [⟨4, none, 0, 0, []⟩]) = 2 from tlex_arg]
  have hB8 := Low.trans HB6.out hB7
  clear hB7
  go_wp2_with fail
  go_ret
  exact ⟨rfl, hB8⟩
end Go.Proofs.Ytendfhonnodonaa
