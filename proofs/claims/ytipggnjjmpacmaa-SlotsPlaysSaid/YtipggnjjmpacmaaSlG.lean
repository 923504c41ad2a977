/- Stage 21: the walk of SlotsNil, given what the program tells of a table that no call made. Conditions: each argument lies as the form says. -/
import Derived.Test.YtipggnjjmpacmaaSlF
import Derived.Test.YtipggnjjmpacmaaNoOb
set_option maxRecDepth 100000
namespace Go.Proofs.Ytipggnjjmpacmaa
open Go.RowKit
set_option linter.unusedVariables false

structure SlNone where
  put : ∀ {w v} (k x : Int), NoOb 47 w v → i64ok k → i64ok x → Calls Try.prog 9 #[v, .int .i64 k, .int .i64 x] w fun e w' => e = .returned (.bool false) ∧ Low w w'
  del : ∀ {w v} (k : Int), NoOb 47 w v → i64ok k → Calls Try.prog 11 #[v, .int .i64 k] w fun e w' => e = .returned (.bool false) ∧ Low w w'
  get : ∀ {w v} (k : Int), NoOb 47 w v → i64ok k → Calls Try.prog 13 #[v, .int .i64 k] w fun e w' => e = .returned (.tuple #[.int .i64 0, .bool false]) ∧ Low w w'
  len : ∀ {w v}, NoOb 47 w v → Calls Try.prog 15 #[v] w fun e w' => e = .returned (.int .i64 0) ∧ Low w w'
  cap : ∀ {w v}, NoOb 47 w v → Calls Try.prog 16 #[v] w fun e w' => e = .returned (.int .i64 0) ∧ Low w w'
  home : ∀ {w v} (k : Int), NoOb 47 w v → i64ok k → Calls Try.prog 18 #[v, .int .i64 k] w fun e w' => e = .returned (.int .i64 0) ∧ Low w w'

set_option maxHeartbeats 6400000 in
set_option maxRecDepth 100000 in
theorem sln_walk (O : SlObj) (Z : SlNone) (k n : Int) (w : World) (hk : i64ok k) (hn : i64ok n) :
    Calls Try.prog 5 #[.int .i64 k, .int .i64 n] w fun e w' => e = .returned (.bool true) ∧ Low w w' := by
  have HLV := Lib.hid fun u => sllives_any O u
  have HK := Lib.hid hk
  have HN := Lib.hid hn
  clear hk hn
  go_enter Try.func5, Try.ntmps5
  go_wp2_with fail
  refine (Z.get k (.inl rfl) HK.out).mono ?_
  rintro e w2 ⟨rfl, hl⟩
  have HZ := Lib.hid ((NoOb.new w (by unfold IsZero; kernel_rfl)).low hl)
  have HL := Lib.hid (show Low w w2 from (Low.alloc w _).trans hl)
  clear hl
  obtain ⟨g0, hgg⟩ : ∃ g0, g0 = w.heap.size := ⟨_, rfl⟩
  rw [← hgg] at HZ ⊢
  clear hgg
  go_wp2_with fail
  refine (Z.get k HZ.out HK.out).mono ?_
  rintro e w3 ⟨rfl, hl⟩
  replace HZ := Lib.hid (HZ.out.low hl)
  replace HL := Lib.hid (HL.out.trans hl)
  clear hl
  go_wp2_with fail
  refine (O.new 3 w3 (by omega) (by omega)).mono ?_
  rintro e w4 ⟨g, F0, rfl, hR, hF, hl⟩
  replace HZ := Lib.hid (HZ.out.low hl)
  replace HL := Lib.hid (HL.out.trans hl)
  have HR := Lib.hid hR
  clear hl hR hF
  go_wp2_with fail
  refine (O.cellNot n HR.out HN.out (fun j x e e2 => by
    have h1 := List.mem_of_getElem? e2
    have h2 := (List.mem_replicate.1 h1).2
    cases h2)).mono ?_
  rintro e w5 ⟨rfl, hl⟩
  replace HZ := Lib.hid (HZ.out.low hl)
  replace HL := Lib.hid (HL.out.trans hl)
  clear hl HR
  go_wp2_with fail
  refine (Z.put k n (.inl rfl) HK.out HN.out).mono ?_
  rintro e w6 ⟨rfl, hl⟩
  replace HZ := Lib.hid (HZ.out.low hl)
  replace HL := Lib.hid (HL.out.trans hl)
  clear hl
  go_wp2_with fail
  refine (Z.put k n HZ.out HK.out HN.out).mono ?_
  rintro e w7 ⟨rfl, hl⟩
  replace HZ := Lib.hid (HZ.out.low hl)
  replace HL := Lib.hid (HL.out.trans hl)
  clear hl
  go_wp2_with fail
  refine (Z.del k (.inl rfl) HK.out).mono ?_
  rintro e w8 ⟨rfl, hl⟩
  replace HZ := Lib.hid (HZ.out.low hl)
  replace HL := Lib.hid (HL.out.trans hl)
  clear hl
  go_wp2_with fail
  refine (Z.del k HZ.out HK.out).mono ?_
  rintro e w9 ⟨rfl, hl⟩
  replace HZ := Lib.hid (HZ.out.low hl)
  replace HL := Lib.hid (HL.out.trans hl)
  clear hl
  go_wp2_with fail
  refine (Z.len (.inl rfl)).mono ?_
  rintro e w10 ⟨rfl, hl⟩
  replace HZ := Lib.hid (HZ.out.low hl)
  replace HL := Lib.hid (HL.out.trans hl)
  clear hl
  go_wp2_with fail
  refine (Z.cap (.inl rfl)).mono ?_
  rintro e w11 ⟨rfl, hl⟩
  replace HZ := Lib.hid (HZ.out.low hl)
  replace HL := Lib.hid (HL.out.trans hl)
  clear hl
  go_wp2_with fail
  refine (Z.home k (.inl rfl) HK.out).mono ?_
  rintro e w12 ⟨rfl, hl⟩
  replace HZ := Lib.hid (HZ.out.low hl)
  replace HL := Lib.hid (HL.out.trans hl)
  clear hl
  go_wp2_with fail
  refine (Z.len HZ.out).mono ?_
  rintro e w13 ⟨rfl, hl⟩
  replace HZ := Lib.hid (HZ.out.low hl)
  replace HL := Lib.hid (HL.out.trans hl)
  clear hl
  go_wp2_with fail
  refine (Z.cap HZ.out).mono ?_
  rintro e w14 ⟨rfl, hl⟩
  replace HZ := Lib.hid (HZ.out.low hl)
  replace HL := Lib.hid (HL.out.trans hl)
  clear hl
  go_wp2_with fail
  refine (Z.home k HZ.out HK.out).mono ?_
  rintro e w15 ⟨rfl, hl⟩
  replace HZ := Lib.hid (HZ.out.low hl)
  replace HL := Lib.hid (HL.out.trans hl)
  clear hl
  go_wp2_with fail
  refine (HLV.out _).mono ?_
  rintro e w16 ⟨rfl, hl⟩
  replace HL := Lib.hid (HL.out.trans hl)
  clear hl
  go_wp2_with fail
  go_ret
  exact ⟨rfl, HL.out⟩
end Go.Proofs.Ytipggnjjmpacmaa
