/- What the document's own hex and digit tell. Conditions: hex: the number is from 0 to 65535; digit: any byte. -/
import Derived.Test.YtcdeabiellefcaaDoorAdM
import Derived.Laws.DeepStrings4
namespace Go.Proofs.YtcdeabiellefcaaDoor
open Go.RowKit
set_option linter.unusedVariables false

def digs16 : ByteArray := ⟨#[48, 49, 50, 51, 52, 53, 54, 55, 56, 57, 97, 98, 99, 100, 101, 102]⟩
def digsUp : ByteArray := ⟨#[48, 49, 50, 51, 52, 53, 54, 55, 56, 57, 65, 66, 67, 68, 69, 70]⟩
def hexU (n : Nat) : UInt8 := if n < 10 then UInt8.ofNat (48 + n) else UInt8.ofNat (55 + n)
theorem dig_tab16 (i : Nat) (h : i < 16) (h' : i < digs16.size) : digs16[i] = hexD i := by
  have k : ∀ n : Fin 16, digs16[n.val]'(Nat.lt_of_lt_of_le n.isLt (by decide)) = hexD n.val := by decide
  exact k ⟨i, h⟩
theorem dig_tabUp (i : Nat) (h : i < 16) (h' : i < digsUp.size) : digsUp[i] = hexU i := by
  have k : ∀ n : Fin 16, digsUp[n.val]'(Nat.lt_of_lt_of_le n.isLt (by decide)) = hexU n.val := by decide
  exact k ⟨i, h⟩
theorem dig_cut (i : Nat) (h : i < 16) : digs16.extract i (i + 1) = strL [hexD i] := by
  have k : ∀ n : Fin 16, (digs16.extract n.val (n.val + 1)).data = (strL [hexD n.val]).data := by decide
  exact ByteArray.ext (k ⟨i, h⟩)
theorem digV_hexD (i : Nat) (h : i < 16) : digV (hexD i).toNat = some i ∧ digV (hexU i).toNat = some i := by
  have k : ∀ n : Fin 16, digV (hexD n.val).toNat = some n.val ∧ digV (hexU n.val).toNat = some n.val := by decide
  exact k ⟨i, h⟩
theorem digV_is (c : Nat) (d : Nat) (h : digV c = some d) : d < 16 ∧ (c = (hexD d).toNat ∨ c = (hexU d).toNat) := by
  have k : ∀ n : Fin 128, ∀ e : Fin 16, digV n.val = some e.val → n.val = (hexD e.val).toNat ∨ n.val = (hexU e.val).toNat := by decide +kernel
  have hl := digV_lt h
  exact ⟨hl.1, k ⟨c, hl.2⟩ ⟨d, hl.1⟩ h⟩

set_option maxHeartbeats 800000 in
set_option maxRecDepth 100000 in
theorem rhex_small (n : Nat) (w : World) (hn : n < 16) :
    Calls Tryd.prog 24 #[.int .i64 n] w fun e w' => e = .returned (.string (strL (hexL n))) ∧ w = w' := by
  have HX := Lib.hid (dig_cut n hn)
  unfold digs16 at HX
  have HS := Lib.hid (hexL_small n hn)
  have hsl : ∀ u : World, (Instr.slice 9 (.string ⟨#[48, 49, 50, 51, 52, 53, 54, 55, 56, 57, 97, 98, 99, 100, 101, 102]⟩) (some (.int .i64 (n : Int))) (some (.int .i64 ((n : Int) + 1))) none).run Tryd.prog u = .ok (.string (strL [hexD n])) u := fun u => by
    rw [run_slice_string_if (P := Tryd.prog) u 9 _ .i64 .i64 n (n + 1) Tryd.underlying9, if_pos ⟨by omega, by show (n : Int) + 1 ≤ ((16 : Nat) : Int); omega⟩, if_pos ⟨by omega, by omega⟩, show ((n : Int) + 1).toNat = n + 1 by omega, Int.toNat_natCast, HX.out]
  clear HX
  go_enter Tryd.func24, Tryd.ntmps24
  go_wp2_with fail
  go_ret
  refine ⟨?_, rfl⟩
  rw [HS.out]
  rfl

set_option maxHeartbeats 800000 in
theorem rhex_any (f : Nat) : ∀ (n : Nat) (w : World), n < 16 ^ f → n < 65536 →
    Calls Tryd.prog 24 #[.int .i64 n] w fun e w' => e = .returned (.string (strL (hexL n))) ∧ w = w' := by
  induction f with
  | zero => intro n w h _; exact rhex_small n w (by simp at h; omega)
  | succ f ih =>
    intro n w h h2
    by_cases hs : n < 16
    · exact rhex_small n w hs
    · have HM := Lib.hid (hexL_more n (by omega) h2)
      have HF := Lib.hid h
      have HR := Lib.hid (hexL_small (n % 16) (by omega))
      have HSZ := Lib.hid (hexL_length (n / 16))
      have hs' : ¬ (n : Int) < 16 := by omega
      clear h
      go_enter Tryd.func24, Tryd.ntmps24
      go_wp2_with fail
      refine (ih (n / 16) w (by have := HF.out; rw [Nat.pow_succ] at this; omega) (by omega)).mono ?_
      rintro e w1 ⟨rfl, rfl⟩
      go_wp2_with fail
      refine (rhex_small (n % 16) w (by omega)).mono ?_
      rintro e w1 ⟨rfl, rfl⟩
      rw [HR.out]
      have hz : ¬ 9223372036854775807 < (strL (hexL (n / 16))).size + (strL [hexD (n % 16)]).size := by rw [strL_size, strL_size]; have := HSZ.out; simp; omega
      have HA := Lib.hid (strL_append (hexL (n / 16)) [hexD (n % 16)])
      go_wp2_with fail
      go_ret
      refine ⟨?_, rfl⟩
      rw [HM.out, ← HA.out]
      rfl

/-- the digit that a byte is; below 0: it is none -/
def digR (c : Nat) : Int := match digV c with | some d => (d : Int) | none => -1
theorem digR_some {c d : Nat} (h : digV c = some d) : digR c = d := by rw [digR, h]
theorem digR_none {c : Nat} (h : digV c = none) : digR c = -1 := by rw [digR, h]

set_option maxHeartbeats 800000 in
set_option maxRecDepth 100000 in
theorem rdigit_any (c : Nat) (w : World) (hc : c < 256) :
    Calls Tryd.prog 37 #[.int .u8 c] w fun e w' => e = .returned (.int .i64 (digR c)) ∧ w = w' := by
  go_enter Tryd.func37, Tryd.ntmps37
  go_wp2
  go_loop [3] (fun i => ∃ k : Nat, k ≤ 16 ∧ i = .int .i64 k ∧ Hid (∀ d, digV c = some d → k ≤ d)) (fun i => 16 - (intOf i).toNat)
  case atStart => exact ⟨0, Nat.zero_le _, rfl, Lib.hid fun d _ => Nat.zero_le d⟩
  case round =>
    obtain ⟨k, hk, rfl, HE⟩ := hrel
    by_cases hlt : k < 16
    · have hd := dig_tab16 k hlt (Nat.lt_of_lt_of_le hlt (by decide))
      have hu := dig_tabUp k hlt (Nat.lt_of_lt_of_le hlt (by decide))
      unfold digs16 at hd
      unfold digsUp at hu
      by_cases h1 : c = (hexD k).toNat
      · have HX := Lib.hid (digR_some (show digV c = some k by rw [h1]; exact (digV_hexD k hlt).1))
        have h1b : ((c : Int) == ((hexD k).toNat : Int)) = true := by rw [beq_iff_eq]; omega
        clear h1
        go_wp2
        go_ret
        exact ⟨by rw [HX.out]; rfl, rfl⟩
      · have h1b : ((c : Int) == ((hexD k).toNat : Int)) = false := by simp; omega
        by_cases h2 : c = (hexU k).toNat
        · have HX := Lib.hid (digR_some (show digV c = some k by rw [h2]; exact (digV_hexD k hlt).2))
          have h2b : ((c : Int) == ((hexU k).toNat : Int)) = true := by rw [beq_iff_eq]; omega
          clear h1 h2
          go_wp2
          go_ret
          exact ⟨by rw [HX.out]; rfl, rfl⟩
        · have h2b : ((c : Int) == ((hexU k).toNat : Int)) = false := by simp; omega
          have HX := Lib.hid (show ∀ d, digV c = some d → k + 1 ≤ d from fun d hq => by
            have h3 := HE.out d hq
            rcases Nat.lt_or_ge k d with h4 | h4
            · omega
            · obtain rfl : d = k := by omega
              rcases (digV_is c d hq).2 with h5 | h5
              · exact absurd h5 h1
              · exact absurd h5 h2)
          clear h1 h2
          go_wp2
          go_round
          case rel => exact ⟨k + 1, by omega, by go_num, HX⟩
          case measure => simp [intOf]; omega
    · obtain rfl : k = 16 := by omega
      have HX := Lib.hid (digR_none <| show digV c = none by
        cases hd : digV c with
        | none => rfl
        | some d => have h1 := HE.out d hd; have h2 := (digV_lt hd).1; omega)
      go_wp2
      go_ret
      exact ⟨by rw [HX.out]; rfl, rfl⟩
end Go.Proofs.YtcdeabiellefcaaDoor
