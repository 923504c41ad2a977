/- The law OctetsLays answers true for every input. Condition: what comes in is of bulk at most 1,048,576. -/
import Derived.Test.YtliceelneoelcaaRefA
import Derived.Test.YtliceelneoelcaaApp2
namespace Go.Proofs.Ytliceelneoelcaa
open Go.RowKit
set_option linter.unusedVariables false

def setL (xs : List Int) (n : Nat) (p x : Int) : List Int := if 0 ≤ p ∧ p + 2 ≤ n then (xs.set p.toNat (x / 256 % 256)).set (p.toNat + 1) (x % 256) else []

theorem set16_u (A : Option Addr) (n c : Nat) (p x : Int) (xs : List Int) (w : World) (hn : n ≤ 140737488351232) (hp : i64ok p) (hx : i64ok x) (hb : Bs w w.heap.size A n xs) :
    Calls Try.prog 16 #[.slice A n c, .int .i64 p, .int .i64 x] w (GivesB w (setL xs n p x) (is_ n p 2)) := by
  by_cases h : 0 ≤ p ∧ p + 2 ≤ n
  · refine (set16_yes A n c p p.toNat x xs w (by omega) hx hb (by omega) (by omega)).mono ?_
    rintro e w' ⟨v, rfl, g, rfl, hg, hk2, hl, ha, hB⟩
    refine ⟨some ⟨g, 0, none⟩, n, n, ?_, ?_, hB⟩
    · rw [show is_ n p 2 = true by simp [is_]; omega]
    · rw [setL, if_pos h]
      exact hk2.bs ha hk2.lt hl
  · unfold i64ok at hp
    refine (set16_no A n c p x w (by omega) hp.2 (by omega)).mono ?_
    rintro e w' ⟨rfl, rfl⟩
    refine ⟨none, 0, 0, ?_, ?_, Below.refl _ _⟩
    · rw [show is_ n p 2 = false by simp [is_]; omega]
    · rw [setL, if_neg h]
      exact Bs.nil _ _ _
theorem rset16_u (A : Option Addr) (n c : Nat) (p x : Int) (xs : List Int) (w : World) (hn : n ≤ 140737488351232) (hc : n ≤ c) (hc2 : c ≤ 9223372036854775807) (hp : i64ok p) (hx : i64ok x) (hb : Bs w w.heap.size A n xs) :
    Calls Try.prog 17 #[.slice A n c, .int .i64 p, .int .i64 x] w (GivesB w (setL xs n p x) (is_ n p 2)) := by
  by_cases h : 0 ≤ p ∧ p + 2 ≤ n
  · refine (rset16_yes A n c p p.toNat x xs w hn hc hc2 hx hb (by omega) (by omega)).mono ?_
    rintro e w' ⟨A', k', c', rfl, hb', hB⟩
    refine ⟨A', k', c', ?_, ?_, hB⟩
    · rw [show is_ n p 2 = true by simp [is_]; omega]
    · rw [setL, if_pos h]
      exact hb'
  · refine (rset16_no A n c p x w (by omega) (by omega)).mono ?_
    rintro e w' ⟨rfl, rfl⟩
    refine ⟨none, 0, 0, ?_, ?_, Below.refl _ _⟩
    · rw [show is_ n p 2 = false by simp [is_]; omega]
    · rw [setL, if_neg h]
      exact Bs.nil _ _ _

theorem str_append (xs ys : List Int) : strOfNums (xs ++ ys) = strOfNums xs ++ strOfNums ys := by
  apply ByteArray.ext
  simp [strOfNums, ByteArray.data_append]

theorem str_three (xs ys : List Int) : strOfNums (xs ++ (ys ++ xs)) = strOfNums xs ++ strOfNums ys ++ strOfNums xs := by
  apply ByteArray.ext
  simp [strOfNums, ByteArray.data_append]

set_option maxHeartbeats 2000000 in
set_option maxRecDepth 100000 in
theorem lays_walk (A D : Option Addr) (n c m d : Nat) (p x : Int) (xs ys : List Int) (w : World) (hn : n ≤ 1048576) (hm : m ≤ 1048576) (hc : n ≤ c) (hc2 : c ≤ 9223372036854775807) (hp : i64ok p) (hx : i64ok x)
    (hb : Bs w w.heap.size A n xs) (hd : Bs w w.heap.size D m ys) :
    Calls Try.prog 4 #[.slice A n c, .slice D m d, .agg #[.int .i64 p, .int .i64 x]] w fun e w' => e = .returned (.bool true) ∧ Below w.heap.size w w' := by
  go_enter Try.func4, Try.ntmps4
  go_wp2_with fail
  have hL0 : Low w (w.alloc (.cells #[.int .i64 p, .int .i64 x] 33)) := Low.alloc w _
  have c0 : (w.alloc (.cells #[.int .i64 p, .int .i64 x] 33)).cell? ⟨w.heap.size, 0, none⟩ = some (.int .i64 p) := by rw [cell_of_row _ _ _ _ _ _ (heap_alloc_new w _)]; rfl
  have c1 : (w.alloc (.cells #[.int .i64 p, .int .i64 x] 33)).cell? ⟨w.heap.size, 1, none⟩ = some (.int .i64 x) := by rw [cell_of_row _ _ _ _ _ _ (heap_alloc_new w _)]; rfl
  have hgs : w.heap.size < (w.alloc (.cells #[.int .i64 p, .int .i64 x] 33)).heap.size := by simp
  have hb0 := hb.below' hL0 hL0.size
  have hd0 := hd.below' hL0 hL0.size
  generalize w.alloc (.cells #[.int .i64 p, .int .i64 x] 33) = w0 at *
  generalize hG : w.heap.size = G at *
  have HG := Lib.hid hG
  clear hG hb hd
  refine (set16_u A n c p x xs w0 (by omega) hp hx hb0).mono ?_
  rintro e w1 ⟨A1, n1, k1, rfl, hb1, hL1⟩
  have hL1 : Low w0 w1 := hL1
  rw [← hL1.cell (p := ⟨G, 0, none⟩) hgs] at c0
  rw [← hL1.cell (p := ⟨G, 1, none⟩) hgs] at c1
  go_wp2_with fail
  refine (rset16_u A n c p x xs w1 (by omega) hc hc2 hp hx (hb0.below' hL1 hL1.size)).mono ?_
  rintro e w2 ⟨A2, n2, k2, rfl, hb2, hL2⟩
  have hL2 : Low w1 w2 := hL2
  have hgs1 : G < w1.heap.size := Nat.lt_of_lt_of_le hgs hL1.size
  rw [← hL2.cell (p := ⟨G, 0, none⟩) hgs1] at c0
  rw [← hL2.cell (p := ⟨G, 1, none⟩) hgs1] at c1
  have hv1 := conv_bs (c := k1) (hb1.below' hL2 hL2.size)
  have hv2 := conv_bs (c := k2) hb2
  have hL := hL1.trans hL2
  have hB := hb0.below' hL hL.size
  have hD := hd0.below' hL hL.size
  have hgs2 : G < w2.heap.size := Nat.lt_of_lt_of_le hgs1 hL2.size
  have hL := hL0.trans hL
  clear hL1 hL2 hb1 hb2 hb0 hd0 hL0 hgs hgs1
  go_wp2_with fail
  refine wp_region_order [(1, false), (3, false), (4, false), (7, false), (8, false), (9, false), (10, false), (0, true), (2, true), (5, true), (6, false), (11, true), (12, false), (13, false), (14, false), (15, false), (17, false), (19, false), (22, false), (23, false), (24, false), (16, true), (18, true), (20, true), (21, false), (25, true), (26, false), (27, false), (28, false), (29, false), (30, false), (31, false), (32, false), (33, false), (37, false), (38, false), (39, false), (40, false), (41, false), (42, false), (43, false), (44, false), (34, true), (35, true), (36, false), (45, false), (46, false), (47, false), (48, true), (49, false), (50, false)] (by kernel_rfl) (by kernel_rfl) (fun _ _ d _ _ h => by cases d <;> exact h) rfl (by kernel_rfl) ?_
  have hDR : Low w2 w2.drew := Below.drew (Below.refl _ _)
  replace hL := hL.trans hDR
  replace hB : Bs w2.drew w2.drew.heap.size A n xs := hB.drew
  replace hD : Bs w2.drew w2.drew.heap.size D m ys := hD.drew
  replace c1 : w2.drew.cell? ⟨G, 1, none⟩ = some (.int .i64 x) := c1
  replace hgs2 : G < w2.drew.heap.size := hgs2
  clear hDR hv1 hv2 c0
  have z1 : (strOfNums xs).size = n := by rw [strOfNums_size, hB.len]
  have z2 : (strOfNums ys).size = m := by rw [strOfNums_size, hD.len]
  have s1 : ¬ 9223372036854775807 < (strOfNums xs).size + (strOfNums (two x)).size := by rw [z1, strOfNums_size]; simp [two]; omega
  have s2 : ¬ 9223372036854775807 < (strOfNums xs).size + (strOfNums (four (x % 4294967296))).size := by rw [z1, strOfNums_size]; simp [four]; omega
  have s3 : ¬ 9223372036854775807 < (strOfNums xs).size + (strOfNums ys).size := by rw [z1, z2]; omega
  have s4 : ¬ 9223372036854775807 < (strOfNums xs).size + (strOfNums ys).size + (strOfNums xs).size := by rw [z1, z2]; omega
  have s5 : ¬ 9223372036854775807 < (strOfNums xs ++ strOfNums ys).size + (strOfNums xs).size := by rw [ByteArray.size_append, z1, z2]; omega
  clear z1 z2
  generalize w2.drew = w3 at *
  iterate 7 (refine walkM_read (v := _) rfl (by rfl) (by intro y hy; have e1 := (hy.cell (p := ⟨G, 1, none⟩) hgs2).trans c1; have e2 := conv_bs (c := c) (hB.below hy); have e3 := conv_bs (c := d) (hD.below hy); go_simp; try rfl) ?_; simp only [Act.put, List.setIfInBounds_toArray, List.set_cons_zero, List.set_cons_succ])
  clear c1 hgs2
  obtain ⟨i0, hi, hz0, hz1, hz2⟩ := info_parts info5
  have HI := Lib.hid hi
  have HZ0 := Lib.hid hz0
  have HZ1 := Lib.hid hz1
  have HZ2 := Lib.hid hz2
  clear hi hz0 hz1 hz2
  refine walkM_act rfl (by rfl) (fun K hK => ?_)
  go_simp
  refine hK _ _ (Low.alloc w3 _) ?_
  clear hK K
  have hl := Low.alloc w3 (.cells #[] 5)
  replace hL := hL.trans hl
  replace hB := hB.below' hl hl.size
  replace hD := hD.below' hl hl.size
  clear hl
  generalize w3.alloc (.cells #[] 5) = w4 at *
  generalize w3.heap.size = g3 at *
  refine walkM_act rfl (by rfl) (fun K hK => ?_)
  refine wp_append_full (.tmp 43) (.tmp 44) _ rfl 5 i0 Try.underlying22 HI.out HZ0.out HZ1.out HZ2.out g3 0 0 0 [] rfl (Bs.nil _ _ _) rfl A n c xs rfl hB (by omega) ?_
  intro A5 c5 w5 hb5 _ _ hl
  refine hK _ _ hl ?_
  clear hK K
  replace hL := hL.trans hl
  replace hB := hB.below' hl hl.size
  replace hD := hD.below' hl hl.size
  clear hl
  rw [Nat.zero_add, List.nil_append] at hb5
  simp only [Act.put, List.setIfInBounds_toArray, List.set_cons_zero, List.set_cons_succ, Nat.zero_add]
  refine walkM_act rfl (by rfl) (fun K hK => ?_)
  go_simp
  refine (put16_any A5 n c5 x xs w5 (by omega) hx hb5).mono ?_
  rintro e w6 ⟨v, rfl, g6, rfl, hg6, hk6, hl6, ha6, hl⟩
  go_simp
  refine hK _ _ hl ?_
  clear hK K hb5
  replace hL := hL.trans hl
  replace hB := hB.below' hl hl.size
  replace hD := hD.below' hl hl.size
  have hb6 := hk6.bs ha6 hk6.lt hl6
  clear hl hk6 ha6 hl6 hg6
  iterate 1 (refine walkM_read (v := _) rfl (by rfl) (by intro y hy; have e0 := conv_bs (c := n + 2) (hb6.below hy); have e1 := str_append xs (two x); go_simp; try rfl) ?_; simp only [Act.put, List.setIfInBounds_toArray, List.set_cons_zero, List.set_cons_succ])
  clear hb6
  refine walkM_act rfl (by rfl) (fun K hK => ?_)
  go_simp
  refine (rtwo_any x w6 hx).mono ?_
  rintro e w7 ⟨v, rfl, g7, rfl, hg7, hk7, hl7, ha7, hl⟩
  go_simp
  refine hK _ _ hl ?_
  clear hK K
  replace hL := hL.trans hl
  replace hB := hB.below' hl hl.size
  replace hD := hD.below' hl hl.size
  have hb7 := hk7.bs ha7 hk7.lt hl7
  clear hl hk7 ha7 hl7 hg7
  iterate 9 (refine walkM_read (v := _) rfl (by rfl) (by intro y hy; have e0 := conv_bs (c := 2) (hb7.below hy); have e1 := conv_bs (c := c) (hB.below hy); go_simp; try rfl) ?_; simp only [Act.put, List.setIfInBounds_toArray, List.set_cons_zero, List.set_cons_succ])
  clear hb7
  refine walkM_act rfl (by rfl) (fun K hK => ?_)
  go_simp
  refine hK _ _ (Low.alloc w7 _) ?_
  clear hK K
  have hl := Low.alloc w7 (.cells #[] 5)
  replace hL := hL.trans hl
  replace hB := hB.below' hl hl.size
  replace hD := hD.below' hl hl.size
  clear hl
  generalize w7.alloc (.cells #[] 5) = w8 at *
  generalize w7.heap.size = g8 at *
  refine walkM_act rfl (by rfl) (fun K hK => ?_)
  refine wp_append_full (.tmp 59) (.tmp 60) _ rfl 5 i0 Try.underlying22 HI.out HZ0.out HZ1.out HZ2.out g8 0 0 0 [] rfl (Bs.nil _ _ _) rfl A n c xs rfl hB (by omega) ?_
  intro A9 c9 w9 hb9 _ _ hl
  refine hK _ _ hl ?_
  clear hK K
  replace hL := hL.trans hl
  replace hB := hB.below' hl hl.size
  replace hD := hD.below' hl hl.size
  clear hl
  rw [Nat.zero_add, List.nil_append] at hb9
  simp only [Act.put, List.setIfInBounds_toArray, List.set_cons_zero, List.set_cons_succ, Nat.zero_add]
  refine walkM_act rfl (by rfl) (fun K hK => ?_)
  go_simp
  refine (put32_any A9 n c9 (x % 4294967296) xs w9 (by omega) (by omega) hb9).mono ?_
  rintro e w10 ⟨v, rfl, g10, rfl, hg10, hk10, hl10, ha10, hl⟩
  go_simp
  refine hK _ _ hl ?_
  clear hK K hb9
  replace hL := hL.trans hl
  replace hB := hB.below' hl hl.size
  replace hD := hD.below' hl hl.size
  have hb10 := hk10.bs ha10 hk10.lt hl10
  clear hl hk10 ha10 hl10 hg10
  iterate 1 (refine walkM_read (v := _) rfl (by rfl) (by intro y hy; have e0 := conv_bs (c := n + 4) (hb10.below hy); have e1 := str_append xs (four (x % 4294967296)); go_simp; try rfl) ?_; simp only [Act.put, List.setIfInBounds_toArray, List.set_cons_zero, List.set_cons_succ])
  clear hb10
  refine walkM_act rfl (by rfl) (fun K hK => ?_)
  go_simp
  refine (rfour_any (x % 4294967296) w10 (by omega)).mono ?_
  rintro e w11 ⟨A11, c11, rfl, hb11, hl⟩
  go_simp
  refine hK _ _ hl ?_
  clear hK K
  replace hL := hL.trans hl
  replace hB := hB.below' hl hl.size
  replace hD := hD.below' hl hl.size
  clear hl
  iterate 16 (refine walkM_read (v := _) rfl (by rfl) (by intro y hy; have e0 := conv_bs (c := c11) (hb11.below hy); have e1 := conv_bs (c := c) (hB.below hy); have e2 := conv_bs (c := d) (hD.below hy); go_simp; try rfl) ?_; simp only [Act.put, List.setIfInBounds_toArray, List.set_cons_zero, List.set_cons_succ])
  clear hb11
  refine walkM_act rfl (by rfl) (fun K hK => ?_)
  go_simp
  refine hK _ _ (Low.alloc w11 _) ?_
  clear hK K
  have hl := Low.alloc w11 (.cells #[.slice A n c, .slice D m d, .slice A n c] 22)
  have hrow := heap_alloc_new w11 (.cells #[.slice A n c, .slice D m d, .slice A n c] 22 (0, 0))
  replace hL := hL.trans hl
  replace hB := hB.below' hl hl.size
  replace hD := hD.below' hl hl.size
  clear hl
  generalize w11.alloc (.cells #[.slice A n c, .slice D m d, .slice A n c] 22) = w12 at *
  generalize w11.heap.size = g12 at *
  refine walkM_act rfl (by rfl) (fun K hK => ?_)
  go_simp
  refine (join3 A D A n c m d n c g12 22 xs ys xs w12 (by omega) hrow hB hD hB).mono ?_
  rintro e w13 ⟨v, rfl, g13, rfl, hg13, hk13, hl13, ha13, hl⟩
  go_simp
  refine hK _ _ hl ?_
  clear hK K hrow
  replace hL := hL.trans hl
  replace hB := hB.below' hl hl.size
  replace hD := hD.below' hl hl.size
  have hb13 := hk13.bs ha13 hk13.lt hl13
  clear hl hk13 ha13 hl13 hg13
  iterate 4 (refine walkM_read (v := _) rfl (by rfl) (by intro y hy; have e0 := conv_bs (c := n + m + n) (hb13.below hy); have e1 := str_three xs ys; go_simp; try rfl) ?_; simp only [Act.put, List.setIfInBounds_toArray, List.set_cons_zero, List.set_cons_succ])
  clear hb13
  refine walkM_act rfl (by rfl) (fun K hK => ?_)
  go_simp
  refine (lives_any w13).mono ?_
  rintro e w14 ⟨rfl, hl⟩
  go_simp
  refine hK _ _ hl ?_
  clear hK K
  replace hL := hL.trans hl
  replace hB := hB.below' hl hl.size
  replace hD := hD.below' hl hl.size
  clear hl
  iterate 2 (refine walkM_read (v := _) rfl (by rfl) (by intro y hy; go_simp; try rfl) ?_; simp only [Act.put, List.setIfInBounds_toArray, List.set_cons_zero, List.set_cons_succ])
  unfold walkM
  go_wp2
  go_ret
  exact ⟨rfl, hL⟩
end Go.Proofs.Ytliceelneoelcaa
