/- Stage 19: the document's Turned. Conditions: at most 1000 slots, hashes. -/
import Derived.Test.YtjmpcmgnbamniaaShB
set_option maxRecDepth 100000
namespace Go.Proofs.Ytjmpcmgnbamniaa
open Go.RowKit
set_option linter.unusedVariables false

/-- hashes in a slice -/
def Hs (w : World) (B : Nat) (A : Option Addr) (n : Nat) (hs : List Nat) : Prop := Es u64E w B A n (hs.map fun (h : Nat) => (h : Int)) ∧ ∀ h ∈ hs, h < 18446744073709551616
theorem Hs.len {w : World} {B n : Nat} {A : Option Addr} {hs : List Nat} (h : Hs w B A n hs) : hs.length = n := by have := h.1.len; rwa [List.length_map] at this
theorem Hs.below' {w w' : World} {B B' n : Nat} {A : Option Addr} {hs : List Nat} (h : Hs w B A n hs) (hb : Below B w w') (hB : B ≤ B') : Hs w' B' A n hs := ⟨h.1.below' hb hB, h.2⟩
theorem Hs.at_ {w : World} {B n i : Nat} {A : Option Addr} {hs : List Nat} (h : Hs w B A n hs) (hi : i < n) : ∃ b o, A = some ⟨b, o, none⟩ ∧ w.cell? ⟨b, o + i, none⟩ = some (.int .u64 ((hs.getD i 0 : Nat) : Int)) ∧ hs.getD i 0 < 18446744073709551616 := by
  obtain ⟨b, o, rfl, _, _⟩ := h.1.mem (by omega)
  have hl := h.len
  have e : hs.getD i 0 = hs[i] := by simp [List.getD, show i < hs.length by omega]
  refine ⟨b, o, rfl, ?_, by rw [e]; exact h.2 _ (List.getElem_mem _)⟩
  rw [u64_cell h.1 hi]
  simp [List.getD, show i < hs.length by omega]
theorem count_turnS (was is_ : List Int) (hs : List Nat) (i : Nat) (h : i < hs.length) : (hs.take (i + 1)).countP (turnsS was is_) = (hs.take i).countP (turnsS was is_) + (if turnsS was is_ (hs.getD i 0) = true then 1 else 0) := by
  rw [List.take_succ_eq_append_getElem h, List.countP_append]
  have e : hs.getD i 0 = hs[i] := by simp [List.getD, h]
  rw [e, List.countP_singleton]
set_option maxHeartbeats 3200000 in
theorem rturned_any (A B C : Option Addr) (n c k d m q : Nat) (was is_ : List Int) (hs : List Nat) (w : World) (hn : n ≤ 1000) (hk : k ≤ 1000) (hm : m ≤ 1000) (ha : Ns w w.heap.size A n was) (hb : Ns w w.heap.size B k is_) (hc : Hs w w.heap.size C m hs) :
    Calls Try.prog 12 #[.slice A n c, .slice B k d, .slice C m q] w fun e w' => e = .returned (.int .i64 (turnedS was is_ hs : Nat)) ∧ w = w' := by
  have HA := Lib.hid ha
  have HB := Lib.hid hb
  have HC := Lib.hid hc
  have HLC := Lib.hid hc.len
  clear ha hb hc
  have HCT := Lib.hid (count_turnS was is_ hs)
  have HTD := Lib.hid (show turnedS was is_ hs = hs.countP (turnsS was is_) from rfl)
  generalize turnedS was is_ hs = td at *
  go_enter Try.func12, Try.ntmps12
  go_wp2_with fail
  go_loop [7, 8] (fun v7 v8 => ∃ (i z : Nat), i ≤ m ∧ v8 = .int .i64 i ∧ v7 = .int .i64 z ∧ z ≤ i ∧ Hid (z = (hs.take i).countP (turnsS was is_))) (fun _ v => m - (intOf v).toNat)
  case atStart => exact ⟨0, 0, by omega, rfl, rfl, by omega, Lib.hid (by simp)⟩
  case round =>
    obtain ⟨i, z, hi, rfl, rfl, hz, HZ⟩ := hrel
    by_cases hlt : i < m
    · obtain ⟨b, o, rfl, c0, hh⟩ := HC.out.at_ hlt
      have hlt2 : (i : Int) < m := by omega
      have HC2 := Lib.hid (HCT.out i (by rw [HLC.out]; exact hlt))
      rw [← HZ.out] at HC2
      clear HZ
      generalize hs.getD i 0 = h at *
      have HT := Lib.hid (show turnsS was is_ h = (firstP was h != firstP is_ h || secondP was h != secondP is_ h) from rfl)
      have HW := Lib.hid (rtwoP_any A n c was h w hn hh HA.out)
      have HI := Lib.hid (rtwoP_any B k d is_ h w hk hh HB.out)
      rw [HT.out] at HC2
      generalize firstP was h = f1 at *
      generalize secondP was h = s1 at *
      generalize firstP is_ h = f2 at *
      generalize secondP is_ h = s2 at *
      clear HT hh
      go_wp2_with fail
      refine HW.out.mono ?_
      rintro e w2 ⟨rfl, rfl⟩
      go_wp2_with fail
      refine HI.out.mono ?_
      rintro e w2 ⟨rfl, rfl⟩
      clear c0
      by_cases hf : f1 = f2
      · by_cases hs2 : s1 = s2
        · have HR := Lib.hid (show z = (hs.take (i + 1)).countP (turnsS was is_) by rw [HC2.out, hf, hs2]; simp)
          subst hf hs2
          have x1 : (f1 != f1) = false := by simp
          have x2 : (s1 != s1) = false := by simp
          go_wp2_with fail
          go_round
          case rel => exact ⟨i + 1, z, by omega, by go_num, rfl, by omega, HR⟩
          case measure => simp [intOf]; omega
        · have x2 : (s1 != s2) = true := by simpa using hs2
          have HR := Lib.hid (show z + 1 = (hs.take (i + 1)).countP (turnsS was is_) by rw [HC2.out, x2]; simp)
          subst hf
          have x1 : (f1 != f1) = false := by simp
          go_wp2_with fail
          go_round
          case rel => exact ⟨i + 1, z + 1, by omega, by go_num, by go_num, by omega, HR⟩
          case measure => simp [intOf]; omega
      · have x1 : (f1 != f2) = true := by simpa using hf
        have HR := Lib.hid (show z + 1 = (hs.take (i + 1)).countP (turnsS was is_) by rw [HC2.out, x1]; simp)
        go_wp2_with fail
        go_round
        case rel => exact ⟨i + 1, z + 1, by omega, by go_num, by go_num, by omega, HR⟩
        case measure => simp [intOf]; omega
    · obtain rfl : i = m := by omega
      rw [List.take_of_length_le (by rw [HLC.out]; exact Nat.le_refl _), ← HTD.out] at HZ
      have hlt2 : ¬ (i : Int) < i := by omega
      go_wp2_with fail
      go_ret
      exact ⟨by rw [← HZ.out]; rfl, rfl⟩
end Go.Proofs.Ytjmpcmgnbamniaa
