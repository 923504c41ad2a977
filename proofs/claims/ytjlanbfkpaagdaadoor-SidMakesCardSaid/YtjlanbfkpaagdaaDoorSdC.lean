/- What the document's own digits, Digits, Word and Text tell of segments. No condition beyond the arguments' types. -/
import Derived.Test.YtjlanbfkpaagdaaDoorSdB
namespace Go.Proofs.YtjlanbfkpaagdaaDoor
open Go.RowKit
set_option linter.unusedVariables false

theorem strD_one (u : Nat) (h : u < 10) : strOfNums [((48 + u : Nat) : Int)] = strD (Lib.decDigits u) := by
  rw [Lib.decDigits_one h]
  have k : ∀ n : Fin 10, (strOfNums [((48 + n.val : Nat) : Int)]).data = (strD [UInt8.ofNat (48 + n.val)]).data := by decide
  exact ByteArray.ext (k ⟨u, h⟩)
theorem strD_more (u : Nat) (h : ¬ u < 10) : strD (Lib.decDigits (u / 10)) ++ strD (Lib.decDigits (u % 10)) = strD (Lib.decDigits u) := by
  rw [strD_append, Lib.decDigits_one (show u % 10 < 10 by omega)]
  conv => rhs; rw [Lib.decDigits, dif_neg h]

set_option maxRecDepth 100000 in
set_option maxHeartbeats 1600000 in
theorem rdig_small (u : Nat) (w : World) (hu : u < 10) :
    Calls Tryd.prog 28 #[.int .u64 u] w fun e w' => e = .returned (.string (strD (Lib.decDigits u))) ∧ Below w.heap.size w w' := by
  have d0 : decide ((u : Int) < 10) = true := by simp; omega
  have w1 : IntKind.u64.wrap (48 + (u : Int)) = ((48 + u : Nat) : Int) := by rw [IntKind.wrap_u64]; omega
  have w2 : IntKind.u8.wrap ((48 + u : Nat) : Int) = ((48 + u : Nat) : Int) := by rw [IntKind.wrap_u8]; omega
  have HX := Lib.hid (strD_one u hu)
  have hcv : (convert 38 9 (.slice (some ⟨w.heap.size, 0, none⟩) 1 1)).run Tryd.prog (w.alloc (.cells #[.int .u8 (48 + (u : Int))] 5)) = .ok (.string (strD (Lib.decDigits u))) (w.alloc (.cells #[.int .u8 (48 + (u : Int))] 5)) := by
    rw [← HX.out]
    exact conv_blk (Blk.new w 5 [((48 + u : Nat) : Int)]) rfl
  go_enter Tryd.func28, Tryd.ntmps28
  go_wp2_with fail
  go_ret
  exact ⟨rfl, Low.alloc w _⟩

set_option maxRecDepth 100000 in
set_option maxHeartbeats 1600000 in
theorem rdig_any (f : Nat) : ∀ (u : Nat) (w : World), u ≤ f → u < 18446744073709551616 →
    Calls Tryd.prog 28 #[.int .u64 u] w fun e w' => e = .returned (.string (strD (Lib.decDigits u))) ∧ Below w.heap.size w w' := by
  induction f with
  | zero => intro u w h _; exact rdig_small u w (by omega)
  | succ f ih =>
    intro u w hf hu
    by_cases hs : u < 10
    · exact rdig_small u w hs
    · have hs' : ¬ (u : Int) < 10 := by omega
      have HM := Lib.hid (strD_more u hs)
      have HF := Lib.hid hf
      clear hf hs
      go_enter Tryd.func28, Tryd.ntmps28
      go_wp2_with fail
      refine (ih (u / 10) w (by have := HF.out; omega) (by omega)).mono ?_
      rintro e w1 ⟨rfl, hl1⟩
      go_wp2_with fail
      refine (rdig_small (u % 10) w1 (by omega)).mono ?_
      rintro e w2 ⟨rfl, hl2⟩
      have hz : ¬ 9223372036854775807 < (strD (Lib.decDigits (u / 10))).size + (strD (Lib.decDigits (u % 10))).size := by
        rw [strD_size, strD_size]
        have := decD_size (u / 10) (by omega)
        have := decD_size (u % 10) (by omega)
        omega
      go_wp2_with fail
      go_ret
      exact ⟨by rw [← HM.out]; rfl, Low.trans hl1 hl2⟩
theorem rdig_u (u : Nat) (w : World) (h : u < 18446744073709551616) :
    Calls Tryd.prog 28 #[.int .u64 u] w fun e w' => e = .returned (.string (strD (Lib.decDigits u))) ∧ Below w.heap.size w w' := rdig_any u u w (Nat.le_refl _) h

theorem strD_neg (u : Nat) (h : 1 ≤ u) : strD [45] ++ strD (Lib.decDigits u) = strD (Lib.itoa (-(u : Int))) := by rw [strD_append, Lib.itoa_neg u h]; rfl
set_option maxRecDepth 100000 in
set_option maxHeartbeats 1600000 in
theorem rDigits_any (n : Int) (w : World) (h : i64ok n) :
    Calls Tryd.prog 26 #[.int .i64 n] w fun e w' => e = .returned (.string (strD (Lib.itoa n))) ∧ Below w.heap.size w w' := by
  unfold i64ok at h
  by_cases h0 : n < 0
  · obtain ⟨u, rfl⟩ : ∃ u : Nat, n = -(u : Int) := ⟨n.natAbs, by omega⟩
    have q1 : IntKind.i64.wrap (-(u : Int) + 1) = -(u : Int) + 1 := by rw [IntKind.wrap_i64]; omega
    have q2 : IntKind.i64.wrap (-(-(u : Int) + 1)) = (u : Int) - 1 := by rw [IntKind.wrap_i64]; omega
    have q3 : IntKind.u64.wrap ((u : Int) - 1) = (u : Int) - 1 := by rw [IntKind.wrap_u64]; omega
    have q4 : IntKind.u64.wrap ((u : Int) - 1 + 1) = u := by rw [IntKind.wrap_u64]; omega
    have HN := Lib.hid (strD_neg u (by omega))
    have hz : ¬ 9223372036854775807 < 1 + (strD (Lib.decDigits u)).size := by rw [strD_size]; have := decD_size u (by omega); omega
    have HU := Lib.hid (show u < 18446744073709551616 by omega)
    have h0' : decide (-(u : Int) < 0) = true := by simp; omega
    go_enter Tryd.func26, Tryd.ntmps26
    go_wp2_with fail
    refine (rdig_u u w HU.out).mono ?_
    rintro e w1 ⟨rfl, hl1⟩
    go_wp2_with fail
    go_ret
    exact ⟨by rw [← HN.out]; rfl, hl1⟩
  · obtain ⟨u, rfl⟩ : ∃ u : Nat, n = (u : Int) := ⟨n.toNat, by omega⟩
    have q1 : IntKind.u64.wrap (u : Int) = u := by rw [IntKind.wrap_u64]; omega
    have HN := Lib.hid (Lib.itoa_nonneg u)
    have HU := Lib.hid (show u < 18446744073709551616 by omega)
    go_enter Tryd.func26, Tryd.ntmps26
    go_wp2_with fail
    refine (rdig_u u w HU.out).mono ?_
    rintro e w1 ⟨rfl, hl1⟩
    go_wp2_with fail
    go_ret
    exact ⟨by rw [HN.out]; rfl, hl1⟩

set_option maxRecDepth 100000 in
set_option maxHeartbeats 1600000 in
theorem rWord_any (d : Int) (w : World) (h : i64ok d) :
    Calls Tryd.prog 27 #[.int .i64 d] w fun e w' => e = .returned (.string (strD (wordD d))) ∧ Below w.heap.size w w' := by
  by_cases hd : d < 0 ∨ 7 ≤ d
  · have HE := Lib.hid (wordD_else d hd)
    have HK := Lib.hid (rDigits_any d w h)
    have e0 : (d == 0) = false := by simp; omega
    have e1 : (d == 1) = false := by simp; omega
    have e2 : (d == 2) = false := by simp; omega
    have e3 : (d == 3) = false := by simp; omega
    have e4 : (d == 4) = false := by simp; omega
    have e5 : (d == 5) = false := by simp; omega
    have e6 : (d == 6) = false := by simp; omega
    clear hd h
    go_enter Tryd.func27, Tryd.ntmps27
    go_wp2_with fail
    refine HK.out.mono ?_
    rintro e w' ⟨rfl, hB⟩
    go_wp2_with fail
    go_ret
    exact ⟨by rw [HE.out]; rfl, hB⟩
  · have hd' : d = 0 ∨ d = 1 ∨ d = 2 ∨ d = 3 ∨ d = 4 ∨ d = 5 ∨ d = 6 := by omega
    clear h hd
    rcases hd' with rfl | rfl | rfl | rfl | rfl | rfl | rfl
    all_goals
      go_enter Tryd.func27, Tryd.ntmps27
      go_wp2_with fail
      go_ret
      exact ⟨rfl, Below.refl _ _⟩

set_option maxRecDepth 100000 in
set_option maxHeartbeats 3200000 in
theorem rsidtext_any (n d : Int) (u : Nat) (w : World) (hn : i64ok n) (hd : i64ok d) (hu : u < 4294967296) :
    Calls Tryd.prog 11 #[sidV n d u] w fun e w' => e = .returned (.string (strD (textD n d u))) ∧ Below w.heap.size w w' := by
  unfold sidV
  have HN := Lib.hid hn
  have HD := Lib.hid hd
  have HU := Lib.hid hu
  have hwu : IntKind.u64.wrap (u : Int) = u := by rw [IntKind.wrap_u64]; omega
  clear hn hd hu
  go_enter Tryd.func11, Tryd.ntmps11
  go_wp2_with ((with_reducible refine wpList_box_v rfl 24 (.tmp 0) rfl [.int .i64 n, .int .i64 d, .int .u32 u] rfl ?_); intro w1 HB hL hz1; refine Hid.out ?_)
  refine Lib.hid ?_
  have c0 := HB.cell 0
  have c1 := HB.cell 1
  have c2 := HB.cell 2
  have hlt := HB.lt
  replace c0 : w1.cell? ⟨w.heap.size, 0, none⟩ = some (.int .i64 n) := c0
  replace c1 : w1.cell? ⟨w.heap.size, 1, none⟩ = some (.int .i64 d) := c1
  replace c2 : w1.cell? ⟨w.heap.size, 2, none⟩ = some (.int .u32 u) := c2
  generalize hG : w.heap.size = G at *
  clear HB hz1
  go_wp2_with fail
  refine wp_region_plan (.rd 0 (.rd 1 (.rd 4 (.rd 5 (.rd 9 (.rd 10 (.rd 11 (.act 2 (.rd 3 (.act 6 (.rd 7 (.rd 8 (.act 12 (.rd 13 (.rd 14 (.done))))))))))))))))
    (by kernel_rfl) (by kernel_rfl) (fun _ _ d _ _ h => by cases d <;> exact h) (by kernel_rfl) ?_
  have hDR : Low w1 w1.drew := Below.drew (Below.refl _ _)
  replace hL := hL.trans hDR
  replace c0 : w1.drew.cell? _ = _ := c0
  replace c1 : w1.drew.cell? _ = _ := c1
  replace c2 : w1.drew.cell? _ = _ := c2
  replace hlt : G < w1.drew.heap.size := hlt
  clear hDR
  generalize w1.drew = w2 at *
  iterate 7 (refine walkP_read (v := _) rfl (by rfl) (by
      intro y hy
      have e0 := (hy.cell (p := ⟨G, 0, none⟩) hlt).trans c0
      have e1 := (hy.cell (p := ⟨G, 1, none⟩) hlt).trans c1
      have e2 := (hy.cell (p := ⟨G, 2, none⟩) hlt).trans c2
      go_simp; try rfl) ?_; simp only [Act.put, List.setIfInBounds_toArray, List.set_cons_zero, List.set_cons_succ])
  clear c0 c1 c2 hlt
  refine walkP_act rfl (by rfl) (fun K hK => ?_)
  go_simp
  refine (rDigits_any n w2 HN.out).mono ?_
  rintro e w3 ⟨rfl, hl⟩
  have z1 : (strD (Lib.itoa n)).size ≤ 21 := by have := HN.out; unfold i64ok at this; rw [strD_size]; exact Lib.itoa_length_le n this.1 this.2
  obtain ⟨s1, hs1⟩ : ∃ s, s = strD (Lib.itoa n) := ⟨_, rfl⟩
  rw [show (strD (Lib.itoa n)) = s1 from hs1.symm]
  rw [← hs1] at z1
  replace hs1 := Lib.hid hs1
  go_simp
  refine hK _ _ hl ?_
  clear hK K
  replace hL := hL.trans hl
  clear hl
  iterate 1 (refine walkP_read (v := _) rfl (by rfl) (by intro y hy; exact exec_cat s1 (strD [46]) 21 1 22 z1 (by decide) rfl (by omega) rfl rfl y) ?_; simp only [Act.put, List.setIfInBounds_toArray, List.set_cons_zero, List.set_cons_succ])
  have z3 := sum_size s1 (strD [46]) 21 1 22 z1 (by decide) rfl
  obtain ⟨s3, hs3⟩ : ∃ s, s = s1 ++ strD [46] := ⟨_, rfl⟩
  rw [← hs3] at z3 ⊢
  replace hs3 := Lib.hid hs3
  refine walkP_act rfl (by rfl) (fun K hK => ?_)
  go_simp
  refine (rWord_any d w3 HD.out).mono ?_
  rintro e w4 ⟨rfl, hl⟩
  have z2 : (strD (wordD d)).size ≤ 21 := by rw [strD_size]; exact wordD_size d HD.out
  obtain ⟨s2, hs2⟩ : ∃ s, s = strD (wordD d) := ⟨_, rfl⟩
  rw [← hs2] at z2 ⊢
  replace hs2 := Lib.hid hs2
  go_simp
  refine hK _ _ hl ?_
  clear hK K
  replace hL := hL.trans hl
  clear hl
  refine walkP_read (v := _) rfl (by rfl) (by intro y hy; exact exec_cat s3 s2 22 21 43 z3 z2 rfl (by omega) rfl rfl y) ?_
  simp only [Act.put, List.setIfInBounds_toArray, List.set_cons_zero, List.set_cons_succ]
  have z4 := sum_size s3 s2 22 21 43 z3 z2 rfl
  refine walkP_read (v := _) rfl (by rfl) (by intro y hy; exact exec_cat (s3 ++ s2) (strD [46]) 43 1 44 z4 (by decide) rfl (by omega) rfl rfl y) ?_
  simp only [Act.put, List.setIfInBounds_toArray, List.set_cons_zero, List.set_cons_succ]
  have z5 := sum_size (s3 ++ s2) (strD [46]) 43 1 44 z4 (by decide) rfl
  obtain ⟨s5, hs5⟩ : ∃ s, s = s3 ++ s2 ++ strD [46] := ⟨_, rfl⟩
  rw [← hs5] at z5 ⊢
  replace hs5 := Lib.hid hs5
  refine walkP_act rfl (by rfl) (fun K hK => ?_)
  go_simp
  refine (rdig_u u w4 (by have := HU.out; omega)).mono ?_
  rintro e w5 ⟨rfl, hl⟩
  have z6 : (strD (Lib.decDigits u)).size ≤ 20 := by rw [strD_size]; exact decD_size u (by have := HU.out; omega)
  obtain ⟨s6, hs6⟩ : ∃ s, s = strD (Lib.decDigits u) := ⟨_, rfl⟩
  rw [show (strD (Lib.decDigits u)) = s6 from hs6.symm]
  rw [← hs6] at z6
  replace hs6 := Lib.hid hs6
  go_simp
  refine hK _ _ hl ?_
  clear hK K
  replace hL := hL.trans hl
  clear hl
  refine walkP_read (v := _) rfl (by rfl) (by intro y hy; exact exec_cat s5 s6 44 20 64 z5 z6 rfl (by omega) rfl rfl y) ?_
  simp only [Act.put, List.setIfInBounds_toArray, List.set_cons_zero, List.set_cons_succ]
  refine walkP_read (v := _) rfl (by rfl) (by intro y hy; go_simp; try rfl) ?_
  simp only [Act.put, List.setIfInBounds_toArray, List.set_cons_zero, List.set_cons_succ]
  unfold walkP
  have HX := Lib.hid (show s5 ++ s6 = strD (textD n d u) by rw [hs5.out, hs6.out, hs3.out, hs2.out, hs1.out]; exact textD_eq n d u)
  clear hs1 hs2 hs3 hs5 hs6 z1 z2 z3 z4 z5 z6
  generalize s5 ++ s6 = s7 at *
  go_wp2_with fail
  go_ret
  subst hG
  exact ⟨by rw [HX.out]; rfl, hL⟩
end Go.Proofs.YtjlanbfkpaagdaaDoor
