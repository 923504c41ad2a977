/- The document's Ints of layer 20: are two lists of numbers the same. No condition. -/
import Derived.Test.YthbboiolhejmmaaNumG
import Derived.Test.YthbboiolhejmmaaJOct
import Derived.BigQuiet
set_option maxRecDepth 100000
namespace Go.Proofs.Ythbboiolhejmmaa
open Go.RowKit
set_option linter.unusedVariables false

set_option maxHeartbeats 1600000 in
set_option maxRecDepth 100000 in
theorem rints_any (A B : Option Addr) (n c k d : Nat) (xs ys : List Int) (w : World) (hn : n ≤ 140737488355328) (ha : Ns w w.heap.size A n xs) (hb : Ns w w.heap.size B k ys) :
    Calls Try.prog 13 #[.slice A n c, .slice B k d] w fun e w' => e = .returned (.bool (decide (xs = ys))) ∧ Low w w' := by
  have HLA := Lib.hid ha.len
  have HLB := Lib.hid hb.len
  have HA := Lib.hid ha
  have HB := Lib.hid hb
  clear ha hb
  by_cases he : n = k
  · subst he
    have hnn : ((n : Int) != (n : Int)) = false := by simp
    go_enter Try.func13, Try.ntmps13
    go_wp2_with fail
    clear hnn
    go_loopw [5] (fun v5 wr => ∃ i : Nat, i ≤ n ∧ v5 = .int .i64 i ∧ Hid (∀ j, j < i → xs.getD j 0 = ys.getD j 0) ∧ Hid (Low w wr)) (fun v _ => n - (intOf v).toNat)
    case atStart => exact ⟨0, by omega, rfl, Lib.hid fun j h => by omega, Lib.hid (Low.refl _)⟩
    case round =>
      obtain ⟨i, hi, rfl, HE, hL⟩ := hrel
      by_cases hlt : i < n
      · have hlt2 : (i : Int) < n := by omega
        obtain ⟨b1, o1, rfl, hb1, hc1⟩ := HA.out.at_ hlt
        obtain ⟨b2, o2, rfl, hb2, hc2⟩ := HB.out.at_ hlt
        have c1 := (hL.out.cell (p := ⟨b1, o1 + i, none⟩) hb1).trans (hc1 i hlt)
        have c2 := (hL.out.cell (p := ⟨b2, o2 + i, none⟩) hb2).trans (hc2 i hlt)
        have HDW := Lib.hid (show ∀ q, Low w (wr.drewN q) from fun q => below_drewN hL.out q)
        clear hc1 hc2 hL
        by_cases e : xs.getD i 0 = ys.getD i 0
        · have HE2 := Lib.hid (show ∀ j, j < i + 1 → xs.getD j 0 = ys.getD j 0 from fun j hj => by
            by_cases e2 : j = i
            · rw [e2]; exact e
            · exact HE.out j (by omega))
          rw [e] at c1
          generalize ys.getD i 0 = x at c1 c2
          have hxx : (x != x) = false := by simp
          clear e HE
          go_wp2_with fail
          go_quiet (fail)
          go_wp2_with fail
          go_roundw
          case rel => exact ⟨i + 1, by omega, by go_num, HE2, Lib.hid (HDW.out _)⟩
          case measure => simp [intOf]; omega
        · have HR := Lib.hid (show decide (xs = ys) = false from decide_eq_false fun h => e (by rw [h]))
          have hxy : (xs.getD i 0 != ys.getD i 0) = true := by simpa using e
          generalize xs.getD i 0 = x at c1 hxy
          generalize ys.getD i 0 = y at c2 hxy
          clear e HE
          go_wp2_with fail
          go_quiet (fail)
          go_wp2_with fail
          go_ret
          exact ⟨by rw [HR.out]; rfl, HDW.out _⟩
      · obtain rfl : i = n := by omega
        have hlt2 : ¬ (i : Int) < i := by omega
        have HR := Lib.hid (show decide (xs = ys) = true from decide_eq_true (by
          refine List.ext_getElem (by rw [HLA.out, HLB.out]) fun j h1 h2 => ?_
          have h3 := HE.out j (by rw [← HLA.out]; exact h1)
          simpa [List.getD, h1, h2] using h3))
        go_wp2_with fail
        go_ret
        exact ⟨by rw [HR.out]; rfl, hL.out⟩
  · have HR := Lib.hid (show decide (xs = ys) = false from decide_eq_false fun h => he (by rw [← HLA.out, ← HLB.out, h]))
    have hnk : ((n : Int) != (k : Int)) = true := by simp; omega
    go_enter Try.func13, Try.ntmps13
    go_wp2_with fail
    go_ret
    exact ⟨by rw [HR.out]; rfl, Low.refl _⟩
end Go.Proofs.Ythbboiolhejmmaa
