/- The document's own answers for layer 1 that lay bytes: Two, Four, Set16. Conditions: numbers are ints, the slice is at most 2^47 bytes long. -/
import Derived.Test.YteojbdchekgooaaOctU
namespace Go.Proofs.Yteojbdchekgooaa
open Go.RowKit
set_option linter.unusedVariables false

theorem i64_and65535 (n : Int) : bits .and .i64 n 65535 = n % 65536 := by
  have h : (BitVec.ofInt 64 n &&& BitVec.ofInt 64 65535).toNat = (n % 65536).toNat := by
    rw [BitVec.toNat_and, BitVec.toNat_ofInt, show (BitVec.ofInt 64 65535).toNat = 2 ^ 16 - 1 by decide, Nat.and_two_pow_sub_one_eq_mod]
    omega
  show IntKind.i64.wrap ((BitVec.ofInt 64 n &&& BitVec.ofInt 64 65535).toNat : Int) = _
  rw [h, IntKind.wrap_i64]
  omega

set_option maxHeartbeats 400000 in
theorem rtwo_any (x : Int) (w : World) (hx : i64ok x) :
    Calls Try.prog 32 #[.int .i64 x] w fun e w' => ∃ v, e = .returned v ∧ NewB 5 w 2 (two x) v w' := by
  unfold i64ok at hx
  have hand := i64_and65535 x
  obtain ⟨y, hy⟩ : ∃ y, y = x % 65536 := ⟨_, rfl⟩
  have hy0 : 0 ≤ y ∧ y < 65536 := by omega
  rw [← hy] at hand
  have HY := Lib.hid (show two x = [y / 256, y % 256] by unfold two; congr 1; omega; congr 1; omega)
  clear hy
  go_enter Try.func32, Try.ntmps32
  go_wp2
  go_ret
  refine ⟨_, rfl, w.heap.size, rfl, Nat.le_refl _, ?_, rfl, two_all x, (Below.refl _ _).alloc (Nat.le_refl _) _⟩
  rw [HY.out]
  exact Blk.new w 5 [y / 256, y % 256]

theorem four_two (x : Int) (hx : 0 ≤ x ∧ x < 4294967296) : two (x / 65536) ++ two (x % 65536) = four x := by
  unfold two four
  simp only [List.cons_append, List.nil_append]
  congr 1
  · omega
  · congr 1
    congr 1
    · omega
    · congr 1
      omega

set_option maxHeartbeats 400000 in
theorem rfour_any (x : Int) (w : World) (hx : 0 ≤ x ∧ x < 4294967296) :
    Calls Try.prog 30 #[.int .u32 x] w fun e w' => ∃ A c, e = .returned (.slice A 4 c) ∧ Bs w' w'.heap.size A 4 (four x) ∧ Below w.heap.size w w' := by
  obtain ⟨i0, hi, hz0, hz1, hz2⟩ := info_parts info5
  have HI := Lib.hid hi
  have HZ0 := Lib.hid hz0
  have HZ1 := Lib.hid hz1
  have HZ2 := Lib.hid hz2
  clear hi hz0 hz1 hz2
  go_enter Try.func30, Try.ntmps30
  go_wp2_with fail
  refine (rtwo_any (x / 65536) w (by unfold i64ok; omega)).mono ?_
  rintro e w1 ⟨v, rfl, g1, rfl, hg1, hk1, hl1, ha1, hB1⟩
  go_wp2_with fail
  refine (rtwo_any (x % 65536) w1 (by unfold i64ok; omega)).mono ?_
  rintro e w2 ⟨v, rfl, g2, rfl, hg2, hk2, hl2, ha2, hB2⟩
  have hB := hB1.trans (hB2.mono hB1.size)
  have hO := OwnB.ofBlk (base := w.heap.size) (hk1.below hB2 hk1.lt) ha1 hg1 hl1 (by simp only [maxLen]; omega)
  have hs := hk2.bs ha2 hk2.lt hl2
  clear hB1 hB2 hk1 hk2 hg1 hg2 hl1 hl2
  go_wp2_with (at_builtin; refine wpList_append_bs rfl (.tmp 6) (.tmp 10) _ rfl w.heap.size 5 i0 Try.underlying22 HI.out HZ0.out HZ1.out HZ2.out _ 2 2 (two (x / 65536)) rfl hO _ 2 2 w2.heap.size (two (x % 65536)) rfl hs (by omega) hB.size ?_; intro A3 c3 w3 hO3 hg3 hb3)
  go_ret
  refine ⟨A3, c3, rfl, ?_, hB.grown hg3 hB.size (fun k hk => (hO.lt k hk).1)⟩
  rw [← four_two x hx]
  exact hO3.bs (Nat.le_refl _)

set_option maxHeartbeats 400000 in
theorem rset16_no (A : Option Addr) (n c : Nat) (p x : Int) (w : World) (hn : n ≤ 140737488355328) (h : p < 0 ∨ (n : Int) - p < 2) :
    Calls Try.prog 22 #[.slice A n c, .int .i64 p, .int .i64 x] w fun e w' => e = .returned (.tuple #[.slice none 0 0, .bool false]) ∧ w = w' := by
  by_cases h1 : p < 0
  · go_enter Try.func22, Try.ntmps22
    go_wp2
    go_ret2
    exact ⟨rfl, rfl⟩
  · have h2 : (n : Int) - 1 ≤ p := by omega
    clear h
    go_enter Try.func22, Try.ntmps22
    go_wp2
    go_ret2
    exact ⟨rfl, rfl⟩

theorem set_two (xs : List Int) (p : Nat) (x y : Int) (h : p + 2 ≤ xs.length) : (xs.set p x).set (p + 1) y = xs.take p ++ [x, y] ++ xs.drop (p + 2) := by
  apply List.ext_getElem?
  intro i
  simp only [List.append_assoc, List.cons_append, List.nil_append]
  rcases Nat.lt_or_ge i p with h1 | h1
  · rw [List.getElem?_append_left (by simp; omega)]
    simp [show ¬ p + 1 = i by omega, show ¬ p = i by omega, h1]
  · rw [List.getElem?_append_right (by simp; omega), List.length_take, Nat.min_eq_left (by omega)]
    rcases Nat.lt_or_ge i (p + 1) with h2 | h2
    · obtain rfl : i = p := by omega
      simp [show i < xs.length by omega]
    · rcases Nat.lt_or_ge i (p + 2) with h3 | h3
      · obtain rfl : i = p + 1 := by omega
        simp [show p + 1 < xs.length by omega]
      · obtain ⟨j, rfl⟩ : ∃ j, i = p + 2 + j := ⟨i - (p + 2), by omega⟩
        rw [show p + 2 + j - p = j + 2 by omega]
        simp [show ¬ p + 1 = p + 2 + j by omega, show ¬ p = p + 2 + j by omega]

set_option maxHeartbeats 400000 in
theorem rset16_yes (A : Option Addr) (n c : Nat) (q : Int) (p : Nat) (x : Int) (xs : List Int) (w : World) (hn : n ≤ 140737488351232) (hc : n ≤ c) (hc2 : c ≤ 9223372036854775807) (hx : i64ok x) (hb : Bs w w.heap.size A n xs) (hq : q = p) (h : p + 2 ≤ n) :
    Calls Try.prog 22 #[.slice A n c, .int .i64 q, .int .i64 x] w (GivesB w ((xs.set p (x / 256 % 256)).set (p + 1) (x % 256)) true) := by
  subst hq
  obtain ⟨i0, hi, hz0, hz1, hz2⟩ := info_parts info5
  have HI := Lib.hid hi
  have HZ0 := Lib.hid hz0
  have HZ1 := Lib.hid hz1
  have HZ2 := Lib.hid hz2
  clear hi hz0 hz1 hz2
  have HT := Lib.hid (set_two xs p (x / 256 % 256) (x % 256) (by rw [hb.len]; omega))
  have g1 : ¬ (p : Int) < 0 := by omega
  have g2 : ¬ (n : Int) - 1 ≤ p := by omega
  obtain ⟨b, o, rfl, hbw, hcell⟩ := hb.mem (by omega)
  have HL := Lib.hid hb.len
  have hs1 : Bs w w.heap.size (some ⟨b, o, none⟩) p (xs.take p) := by
    refine ⟨by simp [hb.len]; omega, hb.all.take p, fun _ => ⟨b, o, rfl, hbw, fun i hi => ?_⟩⟩
    rw [hcell i (by omega)]
    congr 2
    simp [List.getD, hi]
  have hB0 : Below w.heap.size w (w.alloc (.cells #[] 5)) := (Below.refl _ _).alloc (Nat.le_refl _) _
  have hO := OwnB.fresh (base := w.heap.size) w 5 (Nat.le_refl _)
  have hs1' := hs1.below hB0
  go_enter Try.func22, Try.ntmps22
  go_wp2_with (at_builtin; refine wpList_append_bs rfl (.tmp 18) (.tmp 21) _ rfl w.heap.size 5 i0 Try.underlying22 HI.out HZ0.out HZ1.out HZ2.out _ 0 0 [] rfl hO _ _ _ w.heap.size (xs.take p) rfl hs1' (by omega) hB0.size ?_; intro A1 c1 w1 hO1 hg1 hb1)
  rw [Nat.zero_add, List.nil_append] at hO1
  have hB1 : Below w.heap.size w w1 := hB0.grown hg1 hB0.size (fun k hk => (hO.lt k hk).1)
  clear hs1 hs1' hO hg1 hb1 hB0
  refine (rtwo_any x w1 hx).mono ?_
  rintro e w2 ⟨v, rfl, g2, rfl, hg2, hk2, hl2, ha2, hB⟩
  have hO2 := hO1.below hB
  have hB2 := hB1.trans (hB.mono hB1.size)
  have hs2 := hk2.bs ha2 hk2.lt hl2
  clear hO1 hB hB1 hk2 hl2 ha2 hg2
  have hfin : ∀ (A5 : Option Addr) (c5 : Nat) (w5 : World), OwnB 5 w5 w.heap.size A5 n c5 (xs.take p ++ two x ++ xs.drop (p + 2)) → Below w.heap.size w w5 →
      GivesB w ((xs.set p (x / 256 % 256)).set (p + 1) (x % 256)) true (.returned (.tuple #[.slice A5 n c5, .bool true])) w5 := fun A5 c5 w5 ho hb => by
    refine ⟨A5, n, c5, rfl, ?_, hb⟩
    rw [HT.out]
    exact ho.bs (Nat.le_refl _)
  have HF := Lib.hid hfin
  clear hfin
  by_cases hcp : c = p + 2
  · subst hcp
    have hn2 : n = p + 2 := by omega
    subst hn2
    have HD := Lib.hid (show xs.drop (p + 2) = [] from List.drop_eq_nil_of_le (by rw [HL.out]; omega))
    go_wp2_with (first
      | (at_builtin; refine wpList_append_bs rfl (.tmp 23) (.tmp 25) _ rfl w.heap.size 5 i0 Try.underlying22 HI.out HZ0.out HZ1.out HZ2.out _ p c1 (xs.take p) rfl hO2 _ 2 2 w2.heap.size (two x) rfl hs2 (by omega) hB2.size ?_; intro A3 c3 w3 hO3 hg3 hb3
         have hB3 : Below w.heap.size w w3 := hB2.grown hg3 hB2.size (fun k hk => (hO2.lt k hk).1))
      | (at_builtin; (refine wpList_append_bs rfl (.tmp 27) (.tmp 31) _ rfl w.heap.size 5 i0 Try.underlying22 HI.out HZ0.out HZ1.out HZ2.out _ (p + 2) c3 (xs.take p ++ two x) rfl hO3 _ (p + 2 - (p + 2)) _ w.heap.size [] rfl (by rw [Nat.sub_self]; exact Bs.nil _ _ _) (by omega) hB3.size ?_); intro A5 c5 w5 hO5 hg5 hb5))
    go_ret2
    rw [Nat.sub_self, Nat.add_zero] at hO5
    exact HF.out A5 c5 w5 (by rw [HD.out]; exact hO5) (hB3.grown hg5 hB3.size (fun k hk => (hO3.lt k hk).1))
  · have hs5 : ∀ w3, Below w.heap.size w w3 → Bs w3 w.heap.size (some ⟨b, o + (p + 2), none⟩) (n - (p + 2)) (xs.drop (p + 2)) := fun w3 hB3 => by
      refine ⟨by simp [HL.out], hb.all.drop _, fun _ => ⟨b, o + (p + 2), rfl, hbw, fun i hi => ?_⟩⟩
      rw [hB3.cell (p := ⟨b, o + (p + 2) + i, none⟩) hbw, Nat.add_assoc, hcell (p + 2 + i) (by omega)]
      congr 2
      simp [List.getD]
    have HS5 := Lib.hid hs5
    clear hs5 hcell
    go_wp2_with (first
      | (at_builtin; refine wpList_append_bs rfl (.tmp 23) (.tmp 25) _ rfl w.heap.size 5 i0 Try.underlying22 HI.out HZ0.out HZ1.out HZ2.out _ p c1 (xs.take p) rfl hO2 _ 2 2 w2.heap.size (two x) rfl hs2 (by omega) hB2.size ?_; intro A3 c3 w3 hO3 hg3 hb3
         have hB3 : Below w.heap.size w w3 := hB2.grown hg3 hB2.size (fun k hk => (hO2.lt k hk).1))
      | (at_builtin; refine wpList_append_bs rfl (.tmp 27) (.tmp 31) _ rfl w.heap.size 5 i0 Try.underlying22 HI.out HZ0.out HZ1.out HZ2.out _ (p + 2) c3 (xs.take p ++ two x) rfl hO3 _ (n - (p + 2)) _ w.heap.size (xs.drop (p + 2)) rfl (HS5.out w3 hB3) (by omega) hB3.size ?_; intro A5 c5 w5 hO5 hg5 hb5))
    go_ret2
    rw [show p + 2 + (n - (p + 2)) = n by omega] at hO5
    exact HF.out A5 c5 w5 hO5 (hB3.grown hg5 hB3.size (fun k hk => (hO3.lt k hk).1))
end Go.Proofs.Yteojbdchekgooaa
