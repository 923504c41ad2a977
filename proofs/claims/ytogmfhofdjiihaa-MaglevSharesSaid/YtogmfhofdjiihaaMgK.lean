/- Stage 17: what the program's own four functions are to tell, as propositions; what the laws ask of every program; two tables compared. No condition. -/
import Derived.Test.YtogmfhofdjiihaaMgJ
set_option maxRecDepth 100000
namespace Go.Proofs.Ytogmfhofdjiihaa
open Go.RowKit
set_option linter.unusedVariables false

/-- a table, or why there is none -/
def GivesU17 (w : World) (l : List Int) (er : Int) (e : Ending) (w' : World) : Prop := ∃ A c, e = .returned (.tuple #[.slice A l.length c, .int .i64 er]) ∧ Ns w' w'.heap.size A l.length l ∧ Low w w'
theorem GivesT17.u {w w' : World} {l : List Int} {er : Int} {e : Ending} (h : GivesT17 w l er e w') : GivesU17 w l er e w' := by
  obtain ⟨A, c, h1, _, h2, _, h3⟩ := h
  exact ⟨A, c, h1, h2, h3⟩
def MgRights : Prop := ∀ (A : Option Addr) (n c : Nat) (l : List Mbr) (w : World), n ≤ 40 → n ≤ c → Es mbrE w w.heap.size A n l → Calls Try.prog 11 #[.slice A n c] w fun e w' => e = .returned (.int .i64 (rightM l)) ∧ Low w w'
def MgTotals : Prop := ∀ (A : Option Addr) (n c : Nat) (l : List Mbr) (w : World), n ≤ 40 → n ≤ c → Es mbrE w w.heap.size A n l → Calls Try.prog 13 #[.slice A n c] w fun e w' => e = .returned (.int .i64 (totalM l)) ∧ Low w w'
def MgCounts : Prop := ∀ (A : Option Addr) (n c : Nat) (t : List Int) (node : Int) (w : World), n ≤ 1000 → i64ok node → Ns w w.heap.size A n t → Calls Try.prog 15 #[.slice A n c, .int .i64 node] w fun e w' => e = .returned (.int .i64 (t.count node : Nat)) ∧ Low w w'
def MgBuilds : Prop := ∀ (a b m : Int) (A : Option Addr) (n c : Nat) (l : List Mbr) (w : World), i64ok m → n ≤ 40 → n ≤ c → Es mbrE w w.heap.size A n l → Calls Try.prog 8 #[keyV a b, .int .i64 m, .slice A n c] w (GivesU17 w (buildM a b m l) (errM m l))

theorem right_one : rightM [⟨7, 1⟩] = 0 := by decide +kernel
theorem err_one : errM 3 [⟨7, 1⟩] = 0 := by decide +kernel
theorem err_none : errM 3 [] = 0 := by decide +kernel
theorem right_zero : rightM [zeroMbr] = 2 := by decide +kernel
theorem total_one : totalM [⟨7, 1⟩] ≠ 0 := by decide +kernel
theorem total_none : totalM [] = 0 := by decide +kernel
theorem prime3 : primeB 3 = true := by decide +kernel
theorem build_len {a b m : Int} {l : List Mbr} (h : errM m l = 0) : (buildM a b m l).length = m.toNat := by rw [buildM_yes h, tableM_len]
theorem one_len : (buildM 0 0 3 [⟨7, 1⟩]).length = 3 := build_len err_one
theorem none_len : (buildM 0 0 3 []).length = 3 := build_len err_none
theorem one_count : (buildM 0 0 3 [⟨7, 1⟩]).count 7 = 3 := by
  rw [buildM_yes err_one]
  have h := tableM_sum (a := 0) (b := 0) prime3 (by omega) (rightM_right right_one) total_one
  simpa using h
theorem none_count : (buildM 0 0 3 []).count 0 = 3 := by
  rw [buildM_yes err_none]
  unfold tableM
  rw [if_pos total_none]
  rfl
set_option maxHeartbeats 3200000 in
theorem mglives_any (HR : MgRights) (HC : MgCounts) (HB : MgBuilds) (w : World) : Calls Try.prog 7 #[] w fun e w' => e = .returned (.bool true) ∧ Low w w' := by
  have HRR := Lib.hid HR
  have HCC := Lib.hid HC
  have HBB := Lib.hid HB
  clear HR HC HB
  go_enter Try.func7, Try.ntmps7
  go_wp2_with fail
  have h1 : Es mbrE (w.alloc (.cells #[.int .i64 7, .int .i64 1] 40)) (w.heap.size + 1) (some ⟨w.heap.size, 0, none⟩) 1 [⟨7, 1⟩] := Es.one_ (E := mbrE) w 40 ⟨7, 1⟩ (by show i64ok 7 ∧ i64ok 1; unfold i64ok; omega) (Nat.lt_succ_self _)
  have hL := Lib.hid (Low.alloc w (.cells #[.int .i64 7, .int .i64 1] 40))
  have hsz : (w.alloc (.cells #[.int .i64 7, .int .i64 1] 40)).heap.size = w.heap.size + 1 := by simp
  rw [← hsz] at h1
  clear hsz
  generalize w.alloc (.cells #[.int .i64 7, .int .i64 1] 40) = w1 at *
  refine (HBB.out 0 0 3 _ 1 1 [⟨7, 1⟩] w1 (by unfold i64ok; omega) (by omega) (by omega) h1).mono ?_
  rintro e w2 ⟨A1, c1, rfl, hN1, hl⟩
  rw [one_len] at hN1 ⊢
  rw [err_one]
  replace hL := Lib.hid (hL.out.trans hl)
  have HN1 := Lib.hid hN1
  clear h1 hl hN1
  go_wp2_with fail
  refine (HBB.out 0 0 3 none 0 0 [] w2 (by unfold i64ok; omega) (by omega) (by omega) (Es.nil _ _ _)).mono ?_
  rintro e w3 ⟨A2, c2, rfl, hN2, hl⟩
  rw [none_len] at hN2 ⊢
  rw [err_none]
  replace hL := Lib.hid (hL.out.trans hl)
  replace HN1 := Lib.hid (HN1.out.below' hl hl.size)
  have HN2 := Lib.hid hN2
  clear hl hN2
  go_wp2_with fail
  refine (HCC.out A1 3 c1 _ 7 w3 (by omega) (by unfold i64ok; omega) HN1.out).mono ?_
  rintro e w4 ⟨rfl, hl⟩
  rw [one_count]
  replace hL := Lib.hid (hL.out.trans hl)
  replace HN2 := Lib.hid (HN2.out.below' hl hl.size)
  clear hl HN1
  go_wp2_with fail
  refine (HCC.out A2 3 c2 _ 0 w4 (by omega) (by unfold i64ok; omega) HN2.out).mono ?_
  rintro e w5 ⟨rfl, hl⟩
  rw [none_count]
  replace hL := Lib.hid (hL.out.trans hl)
  clear hl HN2
  go_wp2_with fail
  have h2 : Es mbrE (w5.alloc (.cells #[.int .i64 0, .int .i64 0] 40)) (w5.heap.size + 1) (some ⟨w5.heap.size, 0, none⟩) 1 [zeroMbr] := Es.one_ (E := mbrE) w5 40 zeroMbr mbrE.zok (Nat.lt_succ_self _)
  replace hL := Lib.hid (hL.out.trans (Low.alloc w5 (.cells #[.int .i64 0, .int .i64 0] 40)))
  have hsz : (w5.alloc (.cells #[.int .i64 0, .int .i64 0] 40)).heap.size = w5.heap.size + 1 := by simp
  rw [← hsz] at h2
  clear hsz
  generalize w5.alloc (.cells #[.int .i64 0, .int .i64 0] 40) = w6 at *
  refine (HRR.out _ 1 1 [zeroMbr] w6 (by omega) (by omega) h2).mono ?_
  rintro e w7 ⟨rfl, hl⟩
  rw [right_zero]
  replace hL := Lib.hid (hL.out.trans hl)
  clear hl
  go_wp2_with fail
  go_ret
  exact ⟨rfl, hL.out⟩
set_option maxHeartbeats 1600000 in
theorem sameM_any (A B : Option Addr) (n c d : Nat) (t : List Int) (w : World) (hn : n ≤ 1000) (ha : Ns w w.heap.size A n t) (hb : Ns w w.heap.size B n t) :
    Calls Try.prog 10 #[.slice A n c, .slice B n d] w fun e w' => e = .returned (.bool true) ∧ Low w w' := by
  have HA := Lib.hid ha
  have HB := Lib.hid hb
  clear ha hb
  go_enter Try.func10, Try.ntmps10
  go_wp2_with fail
  go_loopw [5] (fun v wr => ∃ i : Nat, i ≤ n ∧ v = .int .i64 i ∧ Hid (Ns wr w.heap.size A n t) ∧ Hid (Ns wr w.heap.size B n t) ∧ Hid (Low w wr)) (fun v _ => n - (intOf v).toNat)
  case atStart => exact ⟨0, by omega, rfl, HA, HB, Lib.hid (Low.refl _)⟩
  case round =>
    clear HA HB
    obtain ⟨i, hi, rfl, HA, HB, hL⟩ := hrel
    by_cases hlt : i < n
    · obtain ⟨b1, o1, rfl, _, h1⟩ := HA.out.at_ hlt
      obtain ⟨b2, o2, rfl, _, h2⟩ := HB.out.at_ hlt
      have d1 := h1 i hlt
      have d2 := h2 i hlt
      clear h1 h2
      generalize t.getD i 0 = x at d1 d2
      have hxx : (x != x) = false := by simp
      go_wp2_with fail
      go_quiet (fail)
      go_wp2_with fail
      go_roundw
      case rel => exact ⟨i + 1, by omega, by go_num, Lib.hid (HA.out.drewN _), Lib.hid (HB.out.drewN _), Lib.hid (below_drewN hL.out _)⟩
      case measure => simp [intOf]; omega
    · obtain rfl : i = n := by omega
      go_wp2_with fail
      go_ret
      exact ⟨rfl, hL.out⟩
end Go.Proofs.Ytogmfhofdjiihaa
