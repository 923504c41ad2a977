/- The answers of octets and of the document to U16, U32 and Cut, each as one function of the input. Conditions: the slice is at most 2^47 bytes long, places and numbers are ints. -/
import Derived.Test.YtliceelneoelcaaOctL
import Derived.Test.YtliceelneoelcaaApp
namespace Go.Proofs.Ytliceelneoelcaa
open Go.RowKit
set_option linter.unusedVariables false

def is_ (n : Nat) (p k : Int) : Bool := decide (0 ≤ p ∧ 0 ≤ k ∧ p + k ≤ n)
def val2 (xs : List Int) (n : Nat) (p : Int) : Int := if 0 ≤ p ∧ p + 2 ≤ n then num2 xs p.toNat else 0
def val4 (xs : List Int) (n : Nat) (p : Int) : Int := if 0 ≤ p ∧ p + 4 ≤ n then num4 xs p.toNat else 0
def cutL (xs : List Int) (n : Nat) (p k : Int) : List Int := if 0 ≤ p ∧ 0 ≤ k ∧ p + k ≤ n then (xs.drop p.toNat).take k.toNat else []

theorem ret2 {a b : Int} {x y : Bool} {k : IntKind} (h : a = b) (g : x = y) : Ending.returned (.tuple #[.int k a, .bool x]) = .returned (.tuple #[.int k b, .bool y]) := by rw [h, g]

section
variable (A : Option Addr) (n c : Nat) (p k : Int) (xs : List Int) (w : World) (hn : n ≤ 140737488355328) (hp : i64ok p) (hb : Bs w w.heap.size A n xs)
include hn hp hb

theorem u16_u : Calls Try.prog 7 #[.slice A n c, .int .i64 p] w fun e w' => e = .returned (.tuple #[.int .i64 (val2 xs n p), .bool (is_ n p 2)]) ∧ Below w.heap.size w w' := by
  unfold i64ok at hp
  by_cases h : 0 ≤ p ∧ p + 2 ≤ n
  · refine (u16_yes A n c p p.toNat xs w hn hb (by omega) (by omega)).mono ?_
    rintro e w' ⟨rfl, j, rfl⟩
    exact ⟨ret2 (by rw [val2, if_pos h]) (by simp [is_]; omega), below_drewN (Below.refl _ _) j⟩
  · refine (u16_no A n c p w hn hp.2 (by omega)).mono ?_
    rintro e w' ⟨rfl, rfl⟩
    exact ⟨ret2 (by rw [val2, if_neg h]) (by simp [is_]; omega), Below.refl _ _⟩
theorem r16_u : Calls Try.prog 8 #[.slice A n c, .int .i64 p] w fun e w' => e = .returned (.tuple #[.int .i64 (val2 xs n p), .bool (is_ n p 2)]) ∧ Below w.heap.size w w' := by
  unfold i64ok at hp
  by_cases h : 0 ≤ p ∧ p + 2 ≤ n
  · refine (r16_yes A n c p p.toNat xs w hn hb (by omega) (by omega)).mono ?_
    rintro e w' ⟨rfl, j, rfl⟩
    exact ⟨ret2 (by rw [val2, if_pos h]) (by simp [is_]; omega), below_drewN (Below.refl _ _) j⟩
  · refine (r16_no A n c p w hn (by omega)).mono ?_
    rintro e w' ⟨rfl, rfl⟩
    exact ⟨ret2 (by rw [val2, if_neg h]) (by simp [is_]; omega), Below.refl _ _⟩
theorem u32_u : Calls Try.prog 9 #[.slice A n c, .int .i64 p] w fun e w' => e = .returned (.tuple #[.int .u32 (val4 xs n p), .bool (is_ n p 4)]) ∧ Below w.heap.size w w' := by
  unfold i64ok at hp
  by_cases h : 0 ≤ p ∧ p + 4 ≤ n
  · refine (u32_yes A n c p p.toNat xs w hn hb (by omega) (by omega)).mono ?_
    rintro e w' ⟨rfl, j, rfl⟩
    exact ⟨ret2 (by rw [val4, if_pos h]) (by simp [is_]; omega), below_drewN (Below.refl _ _) j⟩
  · refine (u32_no A n c p w hn hp.2 (by omega)).mono ?_
    rintro e w' ⟨rfl, rfl⟩
    exact ⟨ret2 (by rw [val4, if_neg h]) (by simp [is_]; omega), Below.refl _ _⟩
theorem r32_u : Calls Try.prog 10 #[.slice A n c, .int .i64 p] w fun e w' => e = .returned (.tuple #[.int .u32 (val4 xs n p), .bool (is_ n p 4)]) ∧ Below w.heap.size w w' := by
  unfold i64ok at hp
  by_cases h : 0 ≤ p ∧ p + 4 ≤ n
  · refine (r32_yes A n c p p.toNat xs w hn hb (by omega) (by omega)).mono ?_
    rintro e w' ⟨rfl, j, rfl⟩
    exact ⟨ret2 (by rw [val4, if_pos h]) (by simp [is_]; omega), below_drewN (Below.refl _ _) j⟩
  · refine (r32_no A n c p w hn (by omega)).mono ?_
    rintro e w' ⟨rfl, rfl⟩
    exact ⟨ret2 (by rw [val4, if_neg h]) (by simp [is_]; omega), Below.refl _ _⟩
end

/-- a list of bytes is handed back, and a bool -/
def GivesB (w : World) (ys : List Int) (ok : Bool) (e : Ending) (w' : World) : Prop :=
  ∃ A' k' c', e = .returned (.tuple #[.slice A' k' c', .bool ok]) ∧ Bs w' w'.heap.size A' k' ys ∧ Below w.heap.size w w'

theorem cut_u (A : Option Addr) (n c : Nat) (p k : Int) (xs : List Int) (w : World) (hn : n ≤ 140737488355328) (hc : n ≤ c) (hc2 : c ≤ 9223372036854775807) (hp : i64ok p) (hk : i64ok k) (hb : Bs w w.heap.size A n xs) :
    Calls Try.prog 11 #[.slice A n c, .int .i64 p, .int .i64 k] w (GivesB w (cutL xs n p k) (is_ n p k)) := by
  unfold i64ok at hp hk
  by_cases h : 0 ≤ p ∧ 0 ≤ k ∧ p + k ≤ n
  · refine (cut_yes A n c p k p.toNat k.toNat xs w hn hc hc2 hb (by omega) (by omega) (by omega)).mono ?_
    rintro e w' ⟨v, rfl, g, rfl, hg, hk2, hl, ha, hB⟩
    refine ⟨some ⟨g, 0, none⟩, k.toNat, k.toNat, ?_, ?_, hB⟩
    · rw [show is_ n p k = true by simp [is_]; omega]
    · rw [cutL, if_pos h]
      exact hk2.bs ha hk2.lt hl
  · refine (cut_no A n c p k w hn hp.2 (by omega)).mono ?_
    rintro e w' ⟨rfl, rfl⟩
    refine ⟨none, 0, 0, ?_, ?_, Below.refl _ _⟩
    · rw [show is_ n p k = false by simp [is_]; omega]
    · rw [cutL, if_neg h]
      exact Bs.nil _ _ _

set_option maxHeartbeats 400000 in
theorem rcut_no (A : Option Addr) (n c : Nat) (p k : Int) (w : World) (hn : n ≤ 140737488355328) (hp : i64ok p) (h : p < 0 ∨ k < 0 ∨ (n : Int) - p < k) :
    Calls Try.prog 12 #[.slice A n c, .int .i64 p, .int .i64 k] w fun e w' => e = .returned (.tuple #[.slice none 0 0, .bool false]) ∧ w = w' := by
  unfold i64ok at hp
  by_cases h1 : p < 0
  · go_enter Try.func12, Try.ntmps12
    go_wp2
    go_ret2
    exact ⟨rfl, rfl⟩
  · by_cases h2 : k < 0
    · clear h
      go_enter Try.func12, Try.ntmps12
      go_wp2
      go_ret2
      exact ⟨rfl, rfl⟩
    · by_cases h3 : (n : Int) < p
      · clear h
        go_enter Try.func12, Try.ntmps12
        go_wp2
        go_ret2
        exact ⟨rfl, rfl⟩
      · have h4 : (n : Int) - p < k := by omega
        clear h
        go_enter Try.func12, Try.ntmps12
        go_wp2
        go_ret2
        exact ⟨rfl, rfl⟩

set_option maxHeartbeats 400000 in
theorem rcut_yes (A : Option Addr) (n c : Nat) (q r : Int) (p k : Nat) (xs : List Int) (w : World) (hn : n ≤ 140737488355328) (hc : n ≤ c) (hc2 : c ≤ 9223372036854775807) (hb : Bs w w.heap.size A n xs) (hq : q = p) (hr : r = k) (h : p + k ≤ n) :
    Calls Try.prog 12 #[.slice A n c, .int .i64 q, .int .i64 r] w (GivesB w ((xs.drop p).take k) true) := by
  subst hq hr
  obtain ⟨i0, hi, hz0, hz1, hz2⟩ := info_parts info5
  have HI := Lib.hid hi
  have HZ0 := Lib.hid hz0
  have HZ1 := Lib.hid hz1
  have HZ2 := Lib.hid hz2
  clear hi hz0 hz1 hz2
  have g1 : ¬ (p : Int) < 0 := by omega
  have g2 : ¬ (k : Int) < 0 := by omega
  have g3 : ¬ (n : Int) < p := by omega
  have g4 : ¬ (n : Int) - p < k := by omega
  have hB0 : Below w.heap.size w (w.alloc (.cells #[] 5)) := (Below.refl _ _).alloc (Nat.le_refl _) _
  have hO := OwnB.fresh (base := w.heap.size) w 5 (Nat.le_refl _)
  by_cases hk0 : k = 0
  · subst hk0
    go_enter Try.func12, Try.ntmps12
    go_wp2_with (at_builtin; refine wpList_append_bs rfl (.tmp 28) (.tmp 34) _ rfl w.heap.size 5 i0 Try.underlying22 HI.out HZ0.out HZ1.out HZ2.out _ 0 0 [] rfl hO _ 0 _ w.heap.size [] rfl (Bs.nil _ _ _) (by omega) hB0.size ?_; intro A1 c1 w1 hO1 hg1 hb1)
    all_goals
      go_ret2
      exact ⟨A1, 0, c1, rfl, by simpa using hO1.bs (Nat.le_refl _), hB0.grown hg1 hB0.size (fun k hk => (hO.lt k hk).1)⟩
  · obtain ⟨b, o, rfl, hbw, hcell⟩ := hb.mem (by omega)
    have hcp : ¬ c = p := by omega
    have hs : Bs (w.alloc (.cells #[] 5)) w.heap.size (some ⟨b, o + p, none⟩) k ((xs.drop p).take k) := by
      refine ⟨by simp [hb.len]; omega, (hb.all.drop p).take k, fun _ => ⟨b, o + p, rfl, hbw, fun i hi => ?_⟩⟩
      rw [World.cell?_alloc_lt _ _ _ hbw, Nat.add_assoc, hcell (p + i) (by omega)]
      congr 2
      simp [List.getD, hi]
    clear hcell
    go_enter Try.func12, Try.ntmps12
    go_wp2_with (at_builtin; refine wpList_append_bs rfl (.tmp 28) (.tmp 34) _ rfl w.heap.size 5 i0 Try.underlying22 HI.out HZ0.out HZ1.out HZ2.out _ 0 0 [] rfl hO (some ⟨b, o + p, none⟩) _ _ w.heap.size ((xs.drop p).take k) (by simp; trivial) hs (by omega) hB0.size ?_; intro A1 c1 w1 hO1 hg1 hb1)
    go_ret2
    exact ⟨A1, k, c1, rfl, by simpa using hO1.bs (Nat.le_refl _), hB0.grown hg1 hB0.size (fun k hk => (hO.lt k hk).1)⟩

theorem rcut_u (A : Option Addr) (n c : Nat) (p k : Int) (xs : List Int) (w : World) (hn : n ≤ 140737488355328) (hc : n ≤ c) (hc2 : c ≤ 9223372036854775807) (hp : i64ok p) (hk : i64ok k) (hb : Bs w w.heap.size A n xs) :
    Calls Try.prog 12 #[.slice A n c, .int .i64 p, .int .i64 k] w (GivesB w (cutL xs n p k) (is_ n p k)) := by
  by_cases h : 0 ≤ p ∧ 0 ≤ k ∧ p + k ≤ n
  · refine (rcut_yes A n c p k p.toNat k.toNat xs w hn hc hc2 hb (by omega) (by omega) (by omega)).mono ?_
    rintro e w' ⟨A', k', c', rfl, hb', hB⟩
    refine ⟨A', k', c', ?_, ?_, hB⟩
    · rw [show is_ n p k = true by simp [is_]; omega]
    · rw [cutL, if_pos h]
      exact hb'
  · refine (rcut_no A n c p k w hn hp (by omega)).mono ?_
    rintro e w' ⟨rfl, rfl⟩
    refine ⟨none, 0, 0, ?_, ?_, Below.refl _ _⟩
    · rw [show is_ n p k = false by simp [is_]; omega]
    · rw [cutL, if_neg h]
      exact Bs.nil _ _ _
end Go.Proofs.Ytliceelneoelcaa
