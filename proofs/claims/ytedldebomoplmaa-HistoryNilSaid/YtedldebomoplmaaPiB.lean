/- Stage 18: the document's from, Two and Nodes. Condition: at most 1000 slots. -/
import Derived.Test.YtedldebomoplmaaPiA
import Derived.Test.YtedldebomoplmaaNums
import Derived.Test.YtedldebomoplmaaVals
import Derived.Deep.LoopGhost
import Derived.BigQuiet
set_option maxRecDepth 100000
namespace Go.Proofs.Ytedldebomoplmaa
open Go.RowKit
set_option linter.unusedVariables false

theorem ret_ii {a b c d : Int} {k l : IntKind} (h : a = b) (g : c = d) : Ending.returned (.tuple #[.int k a, .int l c]) = .returned (.tuple #[.int k b, .int l d]) := by rw [h, g]
set_option maxHeartbeats 3200000 in
theorem rfrom_any (A : Option Addr) (n c : Nat) (t : List Int) (a : Nat) (o : Int) (w : World) (hn : n ≤ 1000) (ha : a < n) (hb : Ns w w.heap.size A n t) :
    Calls Try.prog 32 #[.slice A n c, .int .i64 a, .int .i64 o] w fun e w' => e = .returned (.int .i64 (fromP t a o)) ∧ w = w' := by
  have HL := Lib.hid hb.len
  have HAT := Lib.hid (fun i h h1 h2 => @fromP_at t a i o (by rw [HL.out]; exact h) h1 h2)
  have HNO := Lib.hid (fun h => @fromP_none t a o (by rw [HL.out]; exact h))
  have HLO := Lib.hid (fun i (h : a + i < n) => @roundP_low t a i (by rw [HL.out]; exact h))
  have HHI := Lib.hid (fun i (h : n ≤ a + i) (h2 : i < n) => @roundP_high t a i (by rw [HL.out]; omega) (by rw [HL.out]; exact h) (by rw [HL.out]; exact h2))
  generalize roundP t a = r at *
  go_enter Try.func32, Try.ntmps32
  go_wp2_with fail
  go_loop [7] (fun v => ∃ i : Nat, i ≤ n ∧ v = .int .i64 i ∧ Hid (∀ j, j < i → ¬ (0 < r.getD j 0 ∧ r.getD j 0 ≠ o))) (fun v => n - (intOf v).toNat)
  case atStart => exact ⟨0, by omega, rfl, Lib.hid fun j h => by omega⟩
  case round =>
    obtain ⟨i, hi, rfl, HB⟩ := hrel
    by_cases hlt : i < n
    · obtain ⟨b, s, rfl, _, hc⟩ := hb.at_ hlt
      have hlt2 : (i : Int) < n := by omega
      have HX := Lib.hid (HAT.out i hlt HB.out)
      have HN2 := Lib.hid (show ¬ (0 < r.getD i 0 ∧ r.getD i 0 ≠ o) → ∀ j, j < i + 1 → ¬ (0 < r.getD j 0 ∧ r.getD j 0 ≠ o) from fun h j hj => by
        by_cases hji : j = i
        · rw [hji]; exact h
        · exact HB.out j (by omega))
      by_cases hw : a + i < n
      · have c0 := hc (a + i) hw
        rw [← HLO.out i hw] at c0
        have g1 : ¬ (n : Int) ≤ (a : Int) + i := by omega
        have g2 : 0 ≤ (a : Int) + i := by omega
        have g3 : (a : Int) + i < n := by omega
        have g4 : ((a : Int) + i).toNat = a + i := by omega
        clear hc HLO HHI HAT HNO HB
        obtain ⟨x, hx⟩ : ∃ x, x = r.getD i 0 := ⟨_, rfl⟩
        rw [← hx] at c0 HX HN2
        by_cases hp : 0 < x
        · by_cases ho : x = o
          · have HN3 := Lib.hid (HN2.out (by omega))
            have ho2 : (x != o) = false := by simpa using ho
            clear hx HX HN2
            subst ho
            go_wp2_with fail
            go_round
            case rel => exact ⟨i + 1, by omega, by go_num, HN3⟩
            case measure => simp [intOf]; omega
          · have HE := Lib.hid (HX.out ⟨hp, ho⟩)
            have ho2 : (x != o) = true := by simpa using ho
            clear hx HX HN2
            go_wp2_with fail
            go_ret
            exact ⟨by rw [HE.out]; rfl, rfl⟩
        · have HN3 := Lib.hid (HN2.out (by omega))
          clear hx HX HN2
          go_wp2_with fail
          go_round
          case rel => exact ⟨i + 1, by omega, by go_num, HN3⟩
          case measure => simp [intOf]; omega
      · have c0 := hc (a + i - n) (by omega)
        have h9 := HHI.out i (by omega) hlt
        rw [HL.out] at h9
        rw [← h9] at c0
        have g1 : (n : Int) ≤ (a : Int) + i := by omega
        have g2 : 0 ≤ (a : Int) + i - n := by omega
        have g3 : (a : Int) + i - n < n := by omega
        have g4 : ((a : Int) + i - n).toNat = a + i - n := by omega
        clear hc HLO HHI HAT HNO HB h9
        obtain ⟨x, hx⟩ : ∃ x, x = r.getD i 0 := ⟨_, rfl⟩
        rw [← hx] at c0 HX HN2
        by_cases hp : 0 < x
        · by_cases ho : x = o
          · have HN3 := Lib.hid (HN2.out (by omega))
            have ho2 : (x != o) = false := by simpa using ho
            clear hx HX HN2
            subst ho
            go_wp2_with fail
            go_round
            case rel => exact ⟨i + 1, by omega, by go_num, HN3⟩
            case measure => simp [intOf]; omega
          · have HE := Lib.hid (HX.out ⟨hp, ho⟩)
            have ho2 : (x != o) = true := by simpa using ho
            clear hx HX HN2
            go_wp2_with fail
            go_ret
            exact ⟨by rw [HE.out]; rfl, rfl⟩
        · have HN3 := Lib.hid (HN2.out (by omega))
          clear hx HX HN2
          go_wp2_with fail
          go_round
          case rel => exact ⟨i + 1, by omega, by go_num, HN3⟩
          case measure => simp [intOf]; omega
    · obtain rfl : i = n := by omega
      have HE := Lib.hid (HNO.out HB.out)
      have hlt2 : ¬ (i : Int) < i := by omega
      go_wp2_with fail
      go_ret
      exact ⟨by rw [HE.out]; rfl, rfl⟩

theorem tmod_natP (H n : Nat) : (H : Int).tmod (n : Int) = ((H % n : Nat) : Int) := by rw [Int.ofNat_tmod]
theorem high_natP (H : Nat) : (H : Int) / 4294967296 = ((H / 4294967296 : Nat) : Int) := by omega
set_option maxHeartbeats 1600000 in
theorem rtwoP_any (A : Option Addr) (n c : Nat) (t : List Int) (H : Nat) (w : World) (hn : n ≤ 1000) (hH : H < 18446744073709551616) (hb : Ns w w.heap.size A n t) :
    Calls Try.prog 25 #[.slice A n c, .int .u64 H] w fun e w' => e = .returned (.tuple #[.int .i64 (firstP t H), .int .i64 (secondP t H)]) ∧ w = w' := by
  have HL := Lib.hid hb.len
  have HB := Lib.hid hb
  clear hb
  by_cases h0 : n = 0
  · have HF := Lib.hid (show firstP t H = 0 by unfold firstP; rw [if_pos (by rw [HL.out]; exact h0)])
    have HS := Lib.hid (show secondP t H = 0 by unfold secondP; rw [if_pos (by rw [HL.out]; exact h0)])
    generalize firstP t H = f at *
    generalize secondP t H = s at *
    subst h0
    go_enter Try.func25, Try.ntmps25
    go_wp2_with fail
    go_ret2
    exact ⟨ret_ii HF.out.symm HS.out.symm, rfl⟩
  · have HF := Lib.hid (show firstP t H = fromP t (H % n) 0 by unfold firstP; rw [if_neg (by rw [HL.out]; exact h0), HL.out])
    have HS := Lib.hid (show secondP t H = if firstP t H = 0 then 0 else fromP t (H / 4294967296 % n) (firstP t H) by unfold secondP; rw [if_neg (by rw [HL.out]; exact h0), HL.out])
    have hz : ¬ (n : Int) = 0 := by omega
    have hwn : IntKind.u64.wrap (n : Int) = n := by rw [IntKind.wrap_u64]; omega
    have e2 := high_natP H
    generalize H / 4294967296 = H2 at *
    have hm1 : H % n < n := Nat.mod_lt _ (by omega)
    have hm2 : H2 % n < n := Nat.mod_lt _ (by omega)
    have e1 := tmod_natP H n
    have e1' : (H : Int) % (n : Int) = ((H % n : Nat) : Int) := (Int.natCast_emod H n).symm
    have e3 := tmod_natP H2 n
    have e3' : (H2 : Int) % (n : Int) = ((H2 % n : Nat) : Int) := (Int.natCast_emod H2 n).symm
    generalize H % n = a1 at *
    generalize H2 % n = a2 at *
    generalize firstP t H = f at *
    generalize secondP t H = s at *
    have k1 : wrap64 (a1 : Int) = a1 := by unfold wrap64; omega
    have HE := Lib.hid (And.intro e2 (And.intro e3 (And.intro e3' (show wrap64 (a2 : Int) = a2 by unfold wrap64; omega))))
    clear e2 e3 e3'
    go_enter Try.func25, Try.ntmps25
    go_wp2_with fail
    refine (rfrom_any A n c t a1 0 w hn hm1 HB.out).mono ?_
    rintro e w2 ⟨rfl, rfl⟩
    rw [← HF.out]
    by_cases hf : f = 0
    · rw [if_pos hf] at HS
      subst hf
      go_wp2_with fail
      go_ret2
      exact ⟨ret_ii rfl HS.out.symm, rfl⟩
    · rw [if_neg hf] at HS
      have hf2 : (f == 0) = false := by simpa using hf
      obtain ⟨e2, e3, e3', k2⟩ := HE.out
      clear e1 e1' k1 HE
      go_wp2_with fail
      refine (rfrom_any A n c t a2 f w hn hm2 HB.out).mono ?_
      rintro e w2 ⟨rfl, rfl⟩
      rw [← HS.out]
      go_wp2_with fail
      go_ret2
      exact ⟨rfl, rfl⟩
end Go.Proofs.Ytedldebomoplmaa
