/- The law OctetsBack answers true for every input. Condition: what comes in is of bulk at most 1,048,576. -/
import Derived.Test.YtliceelneoelcaaOctL
import Derived.Test.YtliceelneoelcaaApp
namespace Go.Proofs.Ytliceelneoelcaa
open Go.RowKit
set_option linter.unusedVariables false

theorem getD_beyond (xs r : List Int) (n i : Nat) (hn : xs.length = n) : (xs ++ r).getD (n + i) 0 = r.getD i 0 := by
  subst hn
  simp [List.getD, List.getElem?_append_right]
theorem num2_put (xs ys : List Int) (n : Nat) (u : Int) (hn : xs.length = n) (hu : 0 ≤ u ∧ u < 4294967296) : num2 (xs ++ two (u % 65536) ++ four u ++ ys) n = u % 65536 := by
  unfold num2
  rw [List.append_assoc, List.append_assoc, show n = n + 0 from rfl, getD_beyond _ _ n 0 hn, Nat.add_zero, getD_beyond _ _ n 1 hn]
  show (u % 65536 / 256 % 256) * 256 + u % 65536 % 256 = _
  omega
theorem num4_put (xs ys : List Int) (n : Nat) (u : Int) (hn : xs.length = n) (hu : 0 ≤ u ∧ u < 4294967296) : num4 (xs ++ two (u % 65536) ++ four u ++ ys) (n + 2) = u := by
  unfold num4
  rw [List.append_assoc, List.append_assoc, getD_beyond _ _ n 2 hn, Nat.add_assoc, getD_beyond _ _ n (2 + 1) hn, Nat.add_assoc, getD_beyond _ _ n (2 + 2) hn, Nat.add_assoc, getD_beyond _ _ n (2 + 3) hn]
  show (u / 16777216) * 16777216 + (u / 65536 % 256) * 65536 + (u / 256 % 256) * 256 + u % 256 = _
  omega

set_option maxHeartbeats 800000 in
theorem back_walk (A D : Option Addr) (n c m d : Nat) (u : Int) (xs ys : List Int) (w : World) (hn : n ≤ 1048576) (hm : m ≤ 1048576) (hu : 0 ≤ u ∧ u < 4294967296) (hx : Bs w w.heap.size A n xs) (hy : Bs w w.heap.size D m ys) :
    Calls Try.prog 5 #[.slice A n c, .slice D m d, .int .u32 u] w fun e w' => e = .returned (.bool true) ∧ Below w.heap.size w w' := by
  obtain ⟨i0, hi, hz0, hz1, hz2⟩ := info_parts info5
  have HI := Lib.hid hi
  have HZ0 := Lib.hid hz0
  have HZ1 := Lib.hid hz1
  have HZ2 := Lib.hid hz2
  clear hi hz0 hz1 hz2
  go_enter Try.func5, Try.ntmps5
  have hB0 : Below w.heap.size w (w.alloc (.cells #[] 5)) := (Below.refl _ _).alloc (Nat.le_refl _) _
  have hx0 := hx.below hB0
  have hO := OwnB.fresh (base := w.heap.size) w 5 (Nat.le_refl _)
  go_wp2_with (at_builtin; refine wpList_append_bs rfl (.tmp 16) (.tmp 17) _ rfl w.heap.size 5 i0 Try.underlying22 HI.out HZ0.out HZ1.out HZ2.out _ 0 0 [] rfl hO A n c w.heap.size xs rfl hx0 (by omega) hB0.size ?_; intro A1 c1 w1 hO1 hg1 hb1)
  rw [Nat.zero_add, List.nil_append] at hO1
  have hB1 : Below w.heap.size w w1 := hB0.grown hg1 hB0.size (fun k hk => (hO.lt k hk).1)
  clear hx0 hO hg1 hb1 hB0
  refine (put16_any A1 n c1 (u % 65536) xs w1 (by omega) (by unfold i64ok; omega) (hO1.bs (Nat.le_refl _))).mono ?_
  rintro e w2 ⟨v, rfl, g2, rfl, hg2, hk2, hl2, ha2, hB2⟩
  have hB2' := hB1.trans (hB2.mono hB1.size)
  have hgg2 : w.heap.size ≤ g2 := Nat.le_trans hB1.size hg2
  clear hO1 hB1 hB2 hg2
  have HL2 := Lib.hid hl2
  clear hl2
  go_wp2_with fail
  refine (put32_any (some ⟨g2, 0, none⟩) (n + 2) (n + 2) u (xs ++ two (u % 65536)) w2 (by omega) hu (hk2.bs ha2 hk2.lt HL2.out)).mono ?_
  rintro e w3 ⟨v, rfl, g3, rfl, hg3, hk3, hl3, ha3, hB3⟩
  have hB3' := hB2'.trans (hB3.mono hB2'.size)
  have hgg3 : w.heap.size ≤ g3 := Nat.le_trans hB2'.size hg3
  have HL3 := Lib.hid hl3
  clear hl3 hB2' hB3 hg3 hk2 ha2 HL2 hgg2
  have hO3 := OwnB.ofBlk hk3 ha3 hgg3 HL3.out (by simp only [maxLen]; omega)
  have hy3 := hy.below hB3'
  go_wp2_with (at_builtin; refine wpList_append_bs rfl (.tmp 23) (.tmp 24) _ rfl w.heap.size 5 i0 Try.underlying22 HI.out HZ0.out HZ1.out HZ2.out _ (n + 2 + 4) (n + 2 + 4) _ rfl hO3 D m d w.heap.size ys rfl hy3 (by omega) hB3'.size ?_; intro A4 c4 w4 hO4 hg4 hb4)
  have hB4 : Below w.heap.size w w4 := hB3'.grown hg4 hB3'.size (fun k hk => (hO3.lt k hk).1)
  have HN2 := Lib.hid (num2_put xs ys n u hx.len hu)
  have HN4 := Lib.hid (num4_put xs ys n u hx.len hu)
  have hb4' := hO4.bs (Nat.le_refl _)
  clear hO4 hg4 hb4 hO3 hy3 hk3 ha3 hB3' HL3 hgg3
  generalize xs ++ two (u % 65536) ++ four u ++ ys = L at *
  refine (u16_yes A4 (n + 2 + 4 + m) c4 (n : Int) n L w4 (by omega) hb4' rfl (by omega)).mono ?_
  rintro e w5 ⟨rfl, k5, rfl⟩
  rw [HN2.out]
  have hB5 := below_drewN hB4 k5
  have hb5 := hb4'.drewN k5
  clear hb4' hB4
  rw [show w4.heap.size = (w4.drewN k5).heap.size from rfl] at hb5
  generalize w4.drewN k5 = w5 at *
  go_wp2_with fail
  refine (u32_yes A4 (n + 2 + 4 + m) c4 ((n : Int) + 2) (n + 2) L w5 (by omega) hb5 (by omega) (by omega)).mono ?_
  rintro e w6 ⟨rfl, k6, rfl⟩
  rw [HN4.out]
  have hB6 := below_drewN hB5 k6
  clear hb5 hB5
  generalize w5.drewN k6 = w6 at *
  go_wp2_with fail
  refine (lives_any w6).mono ?_
  rintro e w7 ⟨rfl, hB7⟩
  have hB8 := hB6.trans (hB7.mono hB6.size)
  clear hB6 hB7
  go_wp2
  go_ret
  exact ⟨rfl, hB8⟩
end Go.Proofs.Ytliceelneoelcaa
