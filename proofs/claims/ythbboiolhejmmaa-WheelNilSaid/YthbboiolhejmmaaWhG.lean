/- Stage 23: the walk of WheelNil, given what the program tells of a wheel that no call made. Conditions: the arguments are ints. -/
import Derived.Test.YthbboiolhejmmaaWhD
set_option maxRecDepth 100000
namespace Go.Proofs.Ythbboiolhejmmaa
open Go.RowKit
set_option linter.unusedVariables false

/-- a fresh wheel's cells -/
def zeroWh : List Value := [.int .i64 0, .map none] ++ List.replicate 64 (.slice none 0 0)
theorem wh_zeroV (w : World) : (zeroValue 48).run Try.prog w = .ok (.agg zeroWh.toArray) w := by kernel_rfl
theorem wh_isZero : IsZero 48 zeroWh.toArray := by unfold IsZero; kernel_rfl
structure WhNone where
  set : ∀ {w v} (id x : Int), NoOb 48 w v → i64ok id → i64ok x → Calls Try.prog 8 #[v, .int .i64 id, .int .i64 x] w fun e w' => e = .returned (.bool false) ∧ Low w w'
  unset : ∀ {w v} (id : Int), NoOb 48 w v → i64ok id → Calls Try.prog 10 #[v, .int .i64 id] w fun e w' => e = .returned (.bool false) ∧ Low w w'
  when : ∀ {w v} (id : Int), NoOb 48 w v → i64ok id → Calls Try.prog 7 #[v, .int .i64 id] w fun e w' => ∃ x : Int, e = .returned (.tuple #[.int .i64 x, .bool false]) ∧ Low w w'
  advance : ∀ {w v}, NoOb 48 w v → Calls Try.prog 14 #[v] w fun e w' => ∃ A c, e = .returned (.slice A 0 c) ∧ Low w w'
  now_ : ∀ {w v}, NoOb 48 w v → Calls Try.prog 15 #[v] w fun e w' => e = .returned (.int .i64 0) ∧ Low w w'
  len : ∀ {w v}, NoOb 48 w v → Calls Try.prog 16 #[v] w fun e w' => e = .returned (.int .i64 0) ∧ Low w w'

set_option maxHeartbeats 6400000 in
set_option maxRecDepth 100000 in
theorem whn_walk (O : WhObj) (Z : WhNone) (id x : Int) (w : World) (hid : i64ok id) (hx : i64ok x) :
    Calls Try.prog 5 #[.int .i64 id, .int .i64 x] w fun e w' => e = .returned (.bool true) ∧ Low w w' := by
  have HLV := Lib.hid fun u => whlives_any O u
  have HID := Lib.hid hid
  have HX := Lib.hid hx
  clear hid hx
  have hz := wh_zeroV w
  go_enter Try.func5, Try.ntmps5
  go_wp2_with fail
  clear hz
  refine (Z.when id (.inl rfl) HID.out).mono ?_
  rintro e w2 ⟨x2, rfl, hl⟩
  have HZ := Lib.hid ((NoOb.new w wh_isZero).low hl)
  have HL := Lib.hid (show Low w w2 from (Low.alloc w _).trans hl)
  clear hl
  obtain ⟨g0, hgg⟩ : ∃ g0, g0 = w.heap.size := ⟨_, rfl⟩
  rw [← hgg] at HZ ⊢
  clear hgg
  go_wp2_with fail
  refine (Z.when id HZ.out HID.out).mono ?_
  rintro e w3 ⟨x3, rfl, hl⟩
  replace HZ := Lib.hid (HZ.out.low hl)
  replace HL := Lib.hid (HL.out.trans hl)
  clear hl
  go_wp2_with fail
  refine (Z.set id x (.inl rfl) HID.out HX.out).mono ?_
  rintro e w4 ⟨rfl, hl⟩
  replace HZ := Lib.hid (HZ.out.low hl)
  replace HL := Lib.hid (HL.out.trans hl)
  clear hl
  go_wp2_with fail
  refine (Z.set id x HZ.out HID.out HX.out).mono ?_
  rintro e w5 ⟨rfl, hl⟩
  replace HZ := Lib.hid (HZ.out.low hl)
  replace HL := Lib.hid (HL.out.trans hl)
  clear hl
  go_wp2_with fail
  refine (Z.unset id (.inl rfl) HID.out).mono ?_
  rintro e w6 ⟨rfl, hl⟩
  replace HZ := Lib.hid (HZ.out.low hl)
  replace HL := Lib.hid (HL.out.trans hl)
  clear hl
  go_wp2_with fail
  refine (Z.unset id HZ.out HID.out).mono ?_
  rintro e w7 ⟨rfl, hl⟩
  replace HZ := Lib.hid (HZ.out.low hl)
  replace HL := Lib.hid (HL.out.trans hl)
  clear hl
  go_wp2_with fail
  refine (Z.advance (.inl rfl)).mono ?_
  rintro e w8 ⟨A8, c8, rfl, hl⟩
  replace HZ := Lib.hid (HZ.out.low hl)
  replace HL := Lib.hid (HL.out.trans hl)
  clear hl
  go_wp2_with fail
  refine (Z.advance HZ.out).mono ?_
  rintro e w9 ⟨A9, c9, rfl, hl⟩
  replace HZ := Lib.hid (HZ.out.low hl)
  replace HL := Lib.hid (HL.out.trans hl)
  clear hl
  go_wp2_with fail
  refine (Z.now_ (.inl rfl)).mono ?_
  rintro e w10 ⟨rfl, hl⟩
  replace HZ := Lib.hid (HZ.out.low hl)
  replace HL := Lib.hid (HL.out.trans hl)
  clear hl
  go_wp2_with fail
  refine (Z.now_ HZ.out).mono ?_
  rintro e w11 ⟨rfl, hl⟩
  replace HZ := Lib.hid (HZ.out.low hl)
  replace HL := Lib.hid (HL.out.trans hl)
  clear hl
  go_wp2_with fail
  refine (Z.len (.inl rfl)).mono ?_
  rintro e w12 ⟨rfl, hl⟩
  replace HZ := Lib.hid (HZ.out.low hl)
  replace HL := Lib.hid (HL.out.trans hl)
  clear hl
  go_wp2_with fail
  refine (Z.len HZ.out).mono ?_
  rintro e w13 ⟨rfl, hl⟩
  replace HZ := Lib.hid (HZ.out.low hl)
  replace HL := Lib.hid (HL.out.trans hl)
  clear hl
  go_wp2_with fail
  refine (HLV.out _).mono ?_
  rintro e w14 ⟨rfl, hl⟩
  replace HL := Lib.hid (HL.out.trans hl)
  clear hl
  go_wp2_with fail
  go_ret
  exact ⟨rfl, HL.out⟩
end Go.Proofs.Ythbboiolhejmmaa
