/- Stage 22: the walk of RecentNil, given what the program tells of a list that no call made. Condition: the argument is an int. -/
import Derived.Test.YtpphkmedlpdccaaRcC
set_option maxRecDepth 100000
namespace Go.Proofs.Ytpphkmedlpdccaa
open Go.RowKit
set_option linter.unusedVariables false

structure RcNone where
  touch : ∀ {w v} (k : Int), NoOb 42 w v → i64ok k → Calls Try.prog 7 #[v, .int .i64 k] w fun e w' => e = .returned (.bool false) ∧ Low w w'
  drop : ∀ {w v} (k : Int), NoOb 42 w v → i64ok k → Calls Try.prog 9 #[v, .int .i64 k] w fun e w' => e = .returned (.bool false) ∧ Low w w'
  has : ∀ {w v} (k : Int), NoOb 42 w v → i64ok k → Calls Try.prog 15 #[v, .int .i64 k] w fun e w' => e = .returned (.bool false) ∧ Low w w'
  oldest : ∀ {w v}, NoOb 42 w v → Calls Try.prog 11 #[v] w fun e w' => ∃ x : Int, e = .returned (.tuple #[.int .i64 x, .bool false]) ∧ Low w w'
  len : ∀ {w v}, NoOb 42 w v → Calls Try.prog 14 #[v] w fun e w' => e = .returned (.int .i64 0) ∧ Low w w'
  all : ∀ {w v}, NoOb 42 w v → Calls Try.prog 13 #[v] w fun e w' => ∃ A c, e = .returned (.slice A 0 c) ∧ Low w w'

set_option maxHeartbeats 6400000 in
set_option maxRecDepth 100000 in
theorem rcn_walk (O : RcObj) (Z : RcNone) (k : Int) (w : World) (hk : i64ok k) :
    Calls Try.prog 4 #[.int .i64 k] w fun e w' => e = .returned (.bool true) ∧ Low w w' := by
  have HLV := Lib.hid fun u => rclives_any O u
  have HK := Lib.hid hk
  clear hk
  go_enter Try.func4, Try.ntmps4
  go_wp2_with fail
  refine (Z.oldest (.inl rfl)).mono ?_
  rintro e w2 ⟨x, rfl, hl⟩
  have HZ := Lib.hid ((NoOb.new w (by unfold IsZero; kernel_rfl)).low hl)
  have HL := Lib.hid (show Low w w2 from (Low.alloc w _).trans hl)
  clear hl
  obtain ⟨g0, hgg⟩ : ∃ g0, g0 = w.heap.size := ⟨_, rfl⟩
  rw [← hgg] at HZ ⊢
  clear hgg
  go_wp2_with fail
  refine (Z.oldest HZ.out).mono ?_
  rintro e w3 ⟨x3, rfl, hl⟩
  replace HZ := Lib.hid (HZ.out.low hl)
  replace HL := Lib.hid (HL.out.trans hl)
  clear hl
  go_wp2_with fail
  refine (Z.touch k (.inl rfl) HK.out).mono ?_
  rintro e w4 ⟨rfl, hl⟩
  replace HZ := Lib.hid (HZ.out.low hl)
  replace HL := Lib.hid (HL.out.trans hl)
  clear hl
  go_wp2_with fail
  refine (Z.touch k HZ.out HK.out).mono ?_
  rintro e w5 ⟨rfl, hl⟩
  replace HZ := Lib.hid (HZ.out.low hl)
  replace HL := Lib.hid (HL.out.trans hl)
  clear hl
  go_wp2_with fail
  refine (Z.drop k (.inl rfl) HK.out).mono ?_
  rintro e w6 ⟨rfl, hl⟩
  replace HZ := Lib.hid (HZ.out.low hl)
  replace HL := Lib.hid (HL.out.trans hl)
  clear hl
  go_wp2_with fail
  refine (Z.drop k HZ.out HK.out).mono ?_
  rintro e w7 ⟨rfl, hl⟩
  replace HZ := Lib.hid (HZ.out.low hl)
  replace HL := Lib.hid (HL.out.trans hl)
  clear hl
  go_wp2_with fail
  refine (Z.has k (.inl rfl) HK.out).mono ?_
  rintro e w8 ⟨rfl, hl⟩
  replace HZ := Lib.hid (HZ.out.low hl)
  replace HL := Lib.hid (HL.out.trans hl)
  clear hl
  go_wp2_with fail
  refine (Z.has k HZ.out HK.out).mono ?_
  rintro e w9 ⟨rfl, hl⟩
  replace HZ := Lib.hid (HZ.out.low hl)
  replace HL := Lib.hid (HL.out.trans hl)
  clear hl
  go_wp2_with fail
  refine (Z.len (.inl rfl)).mono ?_
  rintro e w10 ⟨rfl, hl⟩
  replace HZ := Lib.hid (HZ.out.low hl)
  replace HL := Lib.hid (HL.out.trans hl)
  clear hl
  go_wp2_with fail
  refine (Z.len HZ.out).mono ?_
  rintro e w11 ⟨rfl, hl⟩
  replace HZ := Lib.hid (HZ.out.low hl)
  replace HL := Lib.hid (HL.out.trans hl)
  clear hl
  go_wp2_with fail
  refine (Z.all (.inl rfl)).mono ?_
  rintro e w12 ⟨A12, c12, rfl, hl⟩
  replace HZ := Lib.hid (HZ.out.low hl)
  replace HL := Lib.hid (HL.out.trans hl)
  clear hl
  go_wp2_with fail
  refine (Z.all HZ.out).mono ?_
  rintro e w13 ⟨A13, c13, rfl, hl⟩
  replace HZ := Lib.hid (HZ.out.low hl)
  replace HL := Lib.hid (HL.out.trans hl)
  clear hl
  go_wp2_with fail
  refine (HLV.out _).mono ?_
  rintro e w14 ⟨rfl, hl⟩
  replace HL := Lib.hid (HL.out.trans hl)
  clear hl
  go_wp2_with fail
  go_ret
  exact ⟨rfl, HL.out⟩
end Go.Proofs.Ytpphkmedlpdccaa
