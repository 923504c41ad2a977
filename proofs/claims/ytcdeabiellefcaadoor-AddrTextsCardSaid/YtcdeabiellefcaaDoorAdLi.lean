/- The examples of layer 3, as the statements' own lives asks for them. Condition: the library's variables hold what its text lays. -/
import Derived.Test.YtcdeabiellefcaaDoorAdMd
namespace Go.Proofs.YtcdeabiellefcaaDoor
open Go.RowKit
set_option linter.unusedVariables false

def exW : List Int := [8193, 3512, 0, 0, 1, 0, 0, 1]
def exA : List Int := [32, 1, 13, 184, 0, 0, 0, 0, 0, 1, 0, 0, 0, 0, 0, 1]
theorem ex_of : ofL exW = exA := by decide +kernel
theorem ex_text : textL exA = [50, 48, 48, 49, 58, 100, 98, 56, 58, 58, 49, 58, 48, 58, 48, 58, 49] := by decide +kernel
theorem ex_zero : textL zero16 = [58, 58] := by decide +kernel
theorem ex_read : readL [49, 58, 50] = none := by decide +kernel
theorem ex_less : lessL zero16 exA = true := by decide +kernel
theorem ex_ints : AllI exW := fun x hx => by
  have k : ∀ x ∈ exW, -9223372036854775808 ≤ x ∧ x ≤ 9223372036854775807 := by decide
  exact k x hx
theorem ex_all : AllB exA := fun x hx => by
  have : ∀ x ∈ exA, 0 ≤ x ∧ x < 256 := by decide
  exact this x hx

/-- an address is read whole, where the guard lets it -/
theorem wpList_load_addr_g {ops : Array Oper} {rest : List Oper} {o : Oper} {a : Act} {w : World} {Q : Exit → Act → World → Prop} (hw : Region.wanted o (yielded ops a.tmps) = true) (x : Operand) (ho : o.op = .load 23 x)
    (g : Nat) (hx : a.eval x = .pointer (some ⟨g, 0, none⟩)) (t : TypeId) (s : List Int) (h : Blk w t g s) (hs : s.length = 16)
    (hk : wpList Tryd.prog ops Q rest (a.put o.dst (.agg (cellsB s).toArray)) w) : wpList Tryd.prog ops Q (o :: rest) a w :=
  wpList_step fun K hK => by
    simp only [hw, if_true]
    exact wp_load_row 23 x ho g hx t (cellsB s).toArray (0, 0) _ h Tryd.underlying23 rfl (by rw [addr_size]; simp [cellsB_length, hs]) (hK _ _ hk)

set_option maxHeartbeats 3200000 in
set_option maxRecDepth 100000 in
theorem adlives_any (w : World) (h : Libs w) :
    Calls Tryd.prog 7 #[] w fun e w' => e = .returned (.bool true) ∧ Below w.heap.size w w' := by
  have hL : Low w (w.alloc (.cells #[.int .i64 8193, .int .i64 3512, .int .i64 0, .int .i64 0, .int .i64 1, .int .i64 0, .int .i64 0, .int .i64 1] 3)) := Low.alloc w _
  have hN : BlkN (w.alloc (.cells #[.int .i64 8193, .int .i64 3512, .int .i64 0, .int .i64 0, .int .i64 1, .int .i64 0, .int .i64 0, .int .i64 1] 3)) 3 w.heap.size exW := BlkN.new w 3 exW
  have HL := Lib.hid (h.low hL)
  have HN := Lib.hid (hN.bs (B := (w.alloc (.cells #[.int .i64 8193, .int .i64 3512, .int .i64 0, .int .i64 0, .int .i64 1, .int .i64 0, .int .i64 0, .int .i64 1] 3)).heap.size) ex_ints hN.lt (n := 8) rfl)
  clear h hN
  go_enter Tryd.func7, Tryd.ntmps7
  go_wp2_with fail
  generalize w.alloc (.cells #[.int .i64 8193, .int .i64 3512, .int .i64 0, .int .i64 0, .int .i64 1, .int .i64 0, .int .i64 0, .int .i64 1] 3) = w1 at *
  refine (of_any (some ⟨w.heap.size, 0, none⟩) 8 8 exW w1 (by omega) (by omega) HN.out).mono ?_
  rintro e w2 ⟨rfl, hl⟩
  rw [ex_of]
  unfold addrV
  replace hL := hL.trans hl
  replace HL := Lib.hid (HL.out.low hl)
  clear hl HN
  have HA := Lib.hid (show exA.length = 16 from rfl)
  have HTX := Lib.hid ex_text
  have HLS := Lib.hid ex_less
  have HAL := Lib.hid ex_all
  generalize exA = r at *
  have HZ : Hid (Blk (w2.alloc (.cells #[.int .u8 0, .int .u8 0, .int .u8 0, .int .u8 0, .int .u8 0, .int .u8 0, .int .u8 0, .int .u8 0, .int .u8 0, .int .u8 0, .int .u8 0, .int .u8 0, .int .u8 0, .int .u8 0, .int .u8 0, .int .u8 0] 23)) 23 w2.heap.size zero16) := Blk.new w2 _ zero16
  have hl : Low w2 (w2.alloc (.cells #[.int .u8 0, .int .u8 0, .int .u8 0, .int .u8 0, .int .u8 0, .int .u8 0, .int .u8 0, .int .u8 0, .int .u8 0, .int .u8 0, .int .u8 0, .int .u8 0, .int .u8 0, .int .u8 0, .int .u8 0, .int .u8 0] 23)) := Low.alloc w2 _
  go_wp2_with ((refine wpList_store_addr rfl (.tmp 1) (.tmp 5) rfl w2.heap.size rfl r rfl _ zero16 HZ.out rfl HA.out ?_); intro w3 HG hb3 hz3)
  have HG3 := Lib.hid HG
  have hl3 : Low w2 w3 := Below.trans hl hb3
  replace hL := hL.trans hl3
  replace HL := Lib.hid (HL.out.low hl3)
  clear HG hb3 hz3 hl HZ hl3
  generalize w2.heap.size = g at *
  refine (read_any ⟨#[49, 58, 50]⟩ w3 (by decide) HL.out).mono ?_
  rintro e w4 ⟨he, hl⟩
  rw [show readL (⟨#[49, 58, 50]⟩ : ByteArray).data.toList = none from ex_read] at he
  subst he
  unfold addrV
  simp only [Option.getD_none, Option.isSome_none, Bool.false_eq_true, if_false]
  replace hL := hL.trans hl
  replace HL := Lib.hid (HL.out.low hl)
  replace HG3 := Lib.hid (HG3.out.below hl HG3.out.lt)
  clear hl
  have HZ : Hid (Blk (w4.alloc (.cells #[.int .u8 0, .int .u8 0, .int .u8 0, .int .u8 0, .int .u8 0, .int .u8 0, .int .u8 0, .int .u8 0, .int .u8 0, .int .u8 0, .int .u8 0, .int .u8 0, .int .u8 0, .int .u8 0, .int .u8 0, .int .u8 0] 23)) 23 w4.heap.size zero16) := Blk.new w4 _ zero16
  have hl : Low w4 (w4.alloc (.cells #[.int .u8 0, .int .u8 0, .int .u8 0, .int .u8 0, .int .u8 0, .int .u8 0, .int .u8 0, .int .u8 0, .int .u8 0, .int .u8 0, .int .u8 0, .int .u8 0, .int .u8 0, .int .u8 0, .int .u8 0, .int .u8 0] 23)) := Low.alloc w4 _
  have HG4 := Lib.hid (HG3.out.below hl HG3.out.lt)
  go_wp2_with (first
    | ((refine wpList_store_addr rfl (.tmp 2) (.tmp 8) rfl w4.heap.size rfl zero16 rfl _ zero16 HZ.out rfl rfl ?_); intro w5 HG5 hb5 hz5; replace HG4 := Lib.hid (HG4.out.below hb5 HG3.out.lt))
    | (with_reducible refine wpList_load_addr rfl (.tmp 1) rfl g rfl _ r HG4.out HA.out ?_))
  have hl5 : Low w4 w5 := Below.trans hl hb5
  replace hL := hL.trans hl5
  replace HL := Lib.hid (HL.out.low hl5)
  clear HG5 hb5 hz5 hl HZ hl5 HG3
  refine (text_any r w5 HA.out HAL.out HL.out).mono ?_
  rintro e w6 ⟨rfl, hl⟩
  rw [HTX.out]
  replace hL := hL.trans hl
  replace HL := Lib.hid (HL.out.low hl)
  replace HG4 := Lib.hid (HG4.out.below hl HG4.out.lt)
  clear hl
  have hq1 : ((strL [50, 48, 48, 49, 58, 100, 98, 56, 58, 58, 49, 58, 48, 58, 48, 58, 49]).toList == [50, 48, 48, 49, 58, 100, 98, 56, 58, 58, 49, 58, 48, 58, 48, 58, 49]) = true := by rw [ByteArray.toList_eq]; rfl
  have hq2 : ((strL [58, 58]).toList == [58, 58]) = true := by rw [ByteArray.toList_eq]; rfl
  go_wp2_with fail
  refine (text_any zero16 w6 rfl zero_all HL.out).mono ?_
  rintro e w7 ⟨rfl, hl⟩
  rw [ex_zero]
  replace hL := hL.trans hl
  replace HG4 := Lib.hid (HG4.out.below hl HG4.out.lt)
  clear hl
  go_wp2_with (refine wpList_load_addr_g rfl (.tmp 1) rfl g rfl _ r HG4.out HA.out ?_)
  refine (less_any zero16 r w7 rfl HA.out).mono ?_
  rintro e w8 ⟨rfl, hl⟩
  rw [HLS.out]
  go_wp2_with fail
  go_ret
  exact ⟨rfl, hL.trans hl⟩
end Go.Proofs.YtcdeabiellefcaaDoor
