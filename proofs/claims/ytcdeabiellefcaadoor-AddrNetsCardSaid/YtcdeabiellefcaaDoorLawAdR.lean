/- The law AddrReads answers true for every text. Condition: the library's variables hold what its text lays. -/
import Derived.Test.YtcdeabiellefcaaDoorAdLi
namespace Go.Proofs.YtcdeabiellefcaaDoor
open Go.RowKit
set_option linter.unusedVariables false

theorem readL_length (l : List UInt8) : ((readL l).getD zero16).length = 16 := by
  unfold readL readP
  split
  · split <;> split <;> first | exact ofL_length _ | rfl
  · rfl

set_option maxHeartbeats 3200000 in
set_option maxRecDepth 100000 in
theorem adr_walk (s : ByteArray) (w : World) (hs : s.size ≤ 9223372036854775807) (h : Libs w) :
    Calls Tryd.prog 4 #[.string s] w fun e w' => e = .returned (.bool true) ∧ Below w.heap.size w w' := by
  by_cases h100 : 100 < s.size
  · go_enter Tryd.func4, Tryd.ntmps4
    go_wp2_with fail
    refine (adlives_any w h).mono ?_
    rintro e w1 ⟨rfl, hl⟩
    go_wp2_with fail
    go_ret
    exact ⟨rfl, hl⟩
  · have HL := Lib.hid h
    clear h
    go_enter Tryd.func4, Tryd.ntmps4
    go_wp2_with fail
    refine (read_any s w (by omega) HL.out).mono ?_
    rintro e w1 ⟨rfl, hL⟩
    replace hL : Low w w1 := hL
    replace HL := Lib.hid (HL.out.low hL)
    unfold addrV
    have HR := Lib.hid (readL_length s.data.toList)
    have HSM := Lib.hid (read_same s.data.toList)
    obtain ⟨r, hr⟩ : ∃ r, r = (readL s.data.toList).getD zero16 := ⟨_, rfl⟩
    obtain ⟨c, hc⟩ : ∃ c : Int, c = (if (readL s.data.toList).isSome = true then 0 else 5) := ⟨_, rfl⟩
    rw [← hr] at HR ⊢
    rw [← hc]
    have HRR := Lib.hid hr
    have HCC := Lib.hid hc
    clear hr hc
    have HZ : Hid (Blk (w1.alloc (.cells #[.int .u8 0, .int .u8 0, .int .u8 0, .int .u8 0, .int .u8 0, .int .u8 0, .int .u8 0, .int .u8 0, .int .u8 0, .int .u8 0, .int .u8 0, .int .u8 0, .int .u8 0, .int .u8 0, .int .u8 0, .int .u8 0] 23)) 23 w1.heap.size zero16) := Blk.new w1 _ zero16
    have hl : Low w1 (w1.alloc (.cells #[.int .u8 0, .int .u8 0, .int .u8 0, .int .u8 0, .int .u8 0, .int .u8 0, .int .u8 0, .int .u8 0, .int .u8 0, .int .u8 0, .int .u8 0, .int .u8 0, .int .u8 0, .int .u8 0, .int .u8 0, .int .u8 0] 23)) := Low.alloc w1 _
    go_wp2_with ((refine wpList_store_addr rfl (.tmp 3) (.tmp 14) rfl w1.heap.size rfl r rfl _ zero16 HZ.out rfl HR.out ?_); intro w2 HG2 hb2 hz2)
    have HG := Lib.hid HG2
    have hl2 : Low w1 w2 := Below.trans hl hb2
    replace hL := hL.trans hl2
    replace HL := Lib.hid (HL.out.low hl2)
    clear HG2 hb2 hz2 hl HZ hl2
    generalize w1.heap.size = g at *
    refine (rread_any s w2 (by omega)).mono ?_
    rintro e w3 ⟨rfl, hl⟩
    rw [← HSM.out, ← HRR.out, ← HCC.out]
    unfold addrV
    replace hL := hL.trans hl
    replace HL := Lib.hid (HL.out.low hl)
    replace HG := Lib.hid (HG.out.below hl HG.out.lt)
    clear hl
    have HZ : Hid (Blk (w3.alloc (.cells #[.int .u8 0, .int .u8 0, .int .u8 0, .int .u8 0, .int .u8 0, .int .u8 0, .int .u8 0, .int .u8 0, .int .u8 0, .int .u8 0, .int .u8 0, .int .u8 0, .int .u8 0, .int .u8 0, .int .u8 0, .int .u8 0] 23)) 23 w3.heap.size zero16) := Blk.new w3 _ zero16
    have hl : Low w3 (w3.alloc (.cells #[.int .u8 0, .int .u8 0, .int .u8 0, .int .u8 0, .int .u8 0, .int .u8 0, .int .u8 0, .int .u8 0, .int .u8 0, .int .u8 0, .int .u8 0, .int .u8 0, .int .u8 0, .int .u8 0, .int .u8 0, .int .u8 0] 23)) := Low.alloc w3 _
    have HG1 := Lib.hid (HG.out.below hl HG.out.lt)
    have he := eq_addr r r HR.out HR.out
    have hrr : (r == r) = true := by simp
    go_wp2_with (first
      | ((refine wpList_store_addr rfl (.tmp 5) (.tmp 19) rfl w3.heap.size rfl r rfl _ zero16 HZ.out rfl HR.out ?_); intro w4 HG4 hb4 hz4; replace HG1 := Lib.hid (HG1.out.below hb4 HG.out.lt))
      | (with_reducible refine wpList_load_addr rfl (.tmp 3) rfl g rfl _ r HG1.out HR.out ?_)
      | (with_reducible refine wpList_load_addr rfl (.tmp 5) rfl w3.heap.size rfl _ r HG4 HR.out ?_))
    have hl4 : Low w3 w4 := Below.trans hl hb4
    replace hL := hL.trans hl4
    replace HL := Lib.hid (HL.out.low hl4)
    refine (adlives_any w4 HL.out).mono ?_
    rintro e w5 ⟨rfl, hl⟩
    go_wp2_with fail
    go_ret
    exact ⟨rfl, hL.trans hl⟩
end Go.Proofs.YtcdeabiellefcaaDoor
