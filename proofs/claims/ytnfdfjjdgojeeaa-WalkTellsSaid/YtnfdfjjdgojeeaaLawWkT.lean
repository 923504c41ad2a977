/- harrierlaw05.WalkTells: the walk. Condition: at most 2^47 bytes. -/
import Derived.Test.YtnfdfjjdgojeeaaWkF
import Derived.BigQuiet
namespace Go.Proofs.Ytnfdfjjdgojeeaa
open Go.RowKit
set_option linter.unusedVariables false

set_option maxHeartbeats 1600000 in
set_option maxRecDepth 100000 in
theorem wkt_walk (A : Option Addr) (n c : Nat) (xs : List Int) (next at_ : Int) (w : World) (hn : n ≤ 140737488355328) (hb : Bs w w.heap.size A n xs) (hx : i64ok next) (ha : i64ok at_) :
    Calls Try.prog 3 #[.slice A n c, .int .i64 next, .int .i64 at_] w fun e w' => e = .returned (.bool true) ∧ Below w.heap.size w w' := by
  have HN := Lib.hid hn
  have HX := Lib.hid hx
  have HA := Lib.hid ha
  have HQ := Lib.hid (walkL_len xs next at_)
  clear hx ha
  go_enter Try.func3, Try.ntmps3
  go_wp2_with fail
  refine (walk_any A n c xs next at_ w HN.out hb HX.out HA.out).mono ?_
  rintro e w1 ⟨A1, c1, rfl, hp1, hl1⟩
  replace hb := hb.below' hl1 hl1.size
  go_wp2_with fail
  refine (rwalk_any A n c xs next at_ w1 HN.out hb HX.out HA.out).mono ?_
  rintro e w2 ⟨A2, c2, rfl, hp2, hl2⟩
  replace hp1 := hp1.below' hl2 hl2.size
  replace hl1 : Low w w2 := Low.trans hl1 hl2
  clear hb hl2 HX HA
  generalize walkL xs next at_ = r at *
  obtain ⟨ps, er⟩ := r
  dsimp only at hp1 hp2 HQ ⊢
  obtain ⟨q, hq⟩ : ∃ q, q = ps.length := ⟨_, rfl⟩
  rw [← hq] at hp1 hp2 HQ ⊢
  have hq9 : q ≤ 9 := HQ.out
  clear hq HQ
  go_wp2_with fail
  go_loopw [11] (fun i wr => ∃ m : Nat, m ≤ q ∧ i = .int .i64 m ∧ Low w2 wr) (fun i _ => q - (intOf i).toNat)
  case atStart => exact ⟨0, Nat.zero_le _, rfl, Low.refl _⟩
  case round =>
    obtain ⟨m, hm, rfl, hB⟩ := hrel
    by_cases hmq : m < q
    · obtain ⟨b1, o1, rfl, hb1, hc1⟩ := hp1.mem (by omega)
      obtain ⟨b2, o2, rfl, hb2, hc2⟩ := hp2.mem (by omega)
      obtain ⟨q1, q2, q3⟩ := hc1 m hmq
      obtain ⟨r1, r2, r3⟩ := hc2 m hmq
      have x1 := (Below.cell hB (p := ⟨b1, o1 + m * 3, none⟩) hb1).trans q1
      have x2 := (Below.cell hB (p := ⟨b1, o1 + m * 3 + 1, none⟩) hb1).trans q2
      have x3 := (Below.cell hB (p := ⟨b1, o1 + m * 3 + 2, none⟩) hb1).trans q3
      have y1 := (Below.cell hB (p := ⟨b2, o2 + m * 3, none⟩) hb2).trans r1
      have y2 := (Below.cell hB (p := ⟨b2, o2 + m * 3 + 1, none⟩) hb2).trans r2
      have y3 := (Below.cell hB (p := ⟨b2, o2 + m * 3 + 2, none⟩) hb2).trans r3
      clear q1 q2 q3 r1 r2 r3 hc1 hc2 hp1 hp2
      generalize ps.getD m zeroP = p at *
      have hm1 : (m : Int) < q := by omega
      go_wp2_with fail
      go_quiet (fail)
      go_wp2_with fail
      exact ⟨⟨m + 1, by omega, by go_num, ⟨hB.os, hB.tape, hB.output, hB.size, hB.block⟩⟩, by simp [intOf]; omega⟩
    · obtain rfl : m = q := by omega
      go_wp2_with fail
      refine (wklives_any wr).mono ?_
      rintro e w3 ⟨rfl, hl3⟩
      go_wp2_with fail
      go_ret
      exact ⟨rfl, Low.trans hl1 (Low.trans hB hl3)⟩
end Go.Proofs.Ytnfdfjjdgojeeaa
