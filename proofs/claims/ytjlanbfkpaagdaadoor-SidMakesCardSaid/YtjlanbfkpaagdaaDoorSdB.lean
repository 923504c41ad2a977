/- What sid.word and sid.Text tell. Condition: the library's table of powers of ten holds what its text lays. -/
import Derived.Test.YtjlanbfkpaagdaaDoorSdA
import Derived.Lib.ItoaLen
namespace Go.Proofs.YtjlanbfkpaagdaaDoor
open Go.RowKit
set_option linter.unusedVariables false

/-- bytes as a string -/
def strD (l : List UInt8) : ByteArray := ⟨l.toArray⟩
theorem strD_append (l m : List UInt8) : strD l ++ strD m = strD (l ++ m) := by
  apply ByteArray.ext
  rw [ByteArray.data_append]
  simp [strD]
/-- what a node is to do, as text -/
def wordD (d : Int) : List UInt8 :=
  if d = 0 then [101, 110, 100] else if d = 1 then [119, 105, 116, 110, 101, 115, 115] else if d = 2 then [100, 101, 99, 105, 100, 101] else if d = 3 then [108, 97, 115, 116]
  else if d = 4 then [114, 101, 99, 111, 118, 101, 114] else if d = 5 then [115, 116, 101, 101, 114] else if d = 6 then [108, 101, 97, 114, 110] else Lib.itoa d
theorem wordD_else (d : Int) (h : d < 0 ∨ 7 ≤ d) : wordD d = Lib.itoa d := by
  unfold wordD
  rw [if_neg (by omega), if_neg (by omega), if_neg (by omega), if_neg (by omega), if_neg (by omega), if_neg (by omega), if_neg (by omega)]
/-- a segment's text -/
def textD (n d a : Int) : List UInt8 := Lib.itoa n ++ [46] ++ wordD d ++ [46] ++ Lib.decDigits a.toNat

/-- a segment by value -/
def sidV (n d a : Int) : Value := .agg #[.int .i64 n, .int .i64 d, .int .u32 a]

set_option maxRecDepth 100000 in
set_option maxHeartbeats 1600000 in
theorem word_any (d : Int) (w : World) (h : i64ok d) (hp : Pow10 w) :
    Calls Tryd.prog 24 #[.int .i64 d] w fun e w' => e = .returned (.string (strD (wordD d))) ∧ Below w.heap.size w w' := by
  by_cases hd : d < 0 ∨ 7 ≤ d
  · have HE := Lib.hid (wordD_else d hd)
    have HP := Lib.hid hp
    clear hp
    have HK := Lib.hid (show ∀ u : World, Low w u → Calls Tryd.prog 23 #[.int .i64 d] u fun e w' => e = .returned (.string ⟨(Lib.itoa d).toArray⟩) ∧ Below u.heap.size u w' from fun u hu => itoa_any d u h (HP.out.low hu))
    by_cases h0 : d < 0
    · clear hd
      go_enter Tryd.func24, Tryd.ntmps24
      go_wp2_with fail
      refine (HK.out _ (Low.alloc w _)).mono ?_
      rintro e w' ⟨rfl, hB⟩
      go_wp2_with fail
      go_ret
      exact ⟨by rw [HE.out]; rfl, Low.trans (Low.alloc w _) hB⟩
    · have h7 : 7 ≤ d := by omega
      clear hd
      go_enter Tryd.func24, Tryd.ntmps24
      go_wp2_with fail
      refine (HK.out _ (Low.alloc w _)).mono ?_
      rintro e w' ⟨rfl, hB⟩
      go_wp2_with fail
      go_ret
      exact ⟨by rw [HE.out]; rfl, Low.trans (Low.alloc w _) hB⟩
  · have hd' : d = 0 ∨ d = 1 ∨ d = 2 ∨ d = 3 ∨ d = 4 ∨ d = 5 ∨ d = 6 := by omega
    clear hp h hd
    rcases hd' with rfl | rfl | rfl | rfl | rfl | rfl | rfl
    all_goals
      go_enter Tryd.func24, Tryd.ntmps24
      go_wp2_with fail
      go_ret
      exact ⟨rfl, Low.alloc w _⟩

theorem strD_size (l : List UInt8) : (strD l).size = l.length := by simp [strD, ByteArray.size]
theorem wordD_size (d : Int) (h : i64ok d) : (wordD d).length ≤ 21 := by
  unfold i64ok at h
  have := Lib.itoa_length_le d h.1 h.2
  unfold wordD
  split
  · decide
  split
  · decide
  split
  · decide
  split
  · decide
  split
  · decide
  split
  · decide
  split
  · decide
  exact this
theorem decD_size (u : Nat) (h : u < 18446744073709551616) : (Lib.decDigits u).length ≤ 20 := by rw [Lib.decDigits_length]; exact Lib.nDigits_le20 u h
theorem textD_eq (n d : Int) (u : Nat) : strD (Lib.itoa n) ++ strD [46] ++ strD (wordD d) ++ strD [46] ++ strD (Lib.decDigits u) = strD (textD n d u) := by
  unfold textD
  rw [← strD_append, ← strD_append, ← strD_append, ← strD_append]
  rfl
theorem sum_size (s t : ByteArray) (a b c : Nat) (h : s.size ≤ a) (k : t.size ≤ b) (hc : a + b = c) : (s ++ t).size ≤ c := by rw [ByteArray.size_append]; omega
/-- strings of few bytes are joined -/
theorem exec_cat {f : Operand → Value} {dd : Option Tmp} {x y : Operand} {ty : TypeId} {pos : String} {gd : Option (Nat × Bool)} (s t : ByteArray) (a b c : Nat) (hs : s.size ≤ a) (ht : t.size ≤ b) (hc : a + b = c) (h : c ≤ 1000) (hx : f x = .string s) (hy : f y = .string t) (w : World) :
    (execOp f ⟨dd, .binOp .add 9 x y 9, ty, pos, #[], gd⟩).run Tryd.prog w = .ok (.value (.string (s ++ t))) w := by
  have hd : ¬ 9223372036854775807 < s.size + t.size := by omega
  go_simp

set_option maxRecDepth 100000 in
set_option maxHeartbeats 3200000 in
theorem sidtext_any (n d : Int) (u : Nat) (w : World) (hn : i64ok n) (hd : i64ok d) (hu : u < 4294967296) (hp : Pow10 w) :
    Calls Tryd.prog 10 #[sidV n d u] w fun e w' => e = .returned (.string (strD (textD n d u))) ∧ Below w.heap.size w w' := by
  unfold sidV
  have HP := Lib.hid hp
  have HN := Lib.hid hn
  have HD := Lib.hid hd
  have HU := Lib.hid hu
  have hwu : IntKind.u64.wrap (u : Int) = u := by rw [IntKind.wrap_u64]; omega
  clear hp hn hd hu
  go_enter Tryd.func10, Tryd.ntmps10
  go_wp2_with ((with_reducible refine wpList_box_v rfl 24 (.tmp 0) rfl [.int .i64 n, .int .i64 d, .int .u32 u] rfl ?_); intro w1 HB hL hz1; refine Hid.out ?_)
  refine Lib.hid ?_
  have c0 := HB.cell 0
  have c1 := HB.cell 1
  have c2 := HB.cell 2
  have hlt := HB.lt
  replace c0 : w1.cell? ⟨w.heap.size, 0, none⟩ = some (.int .i64 n) := c0
  replace c1 : w1.cell? ⟨w.heap.size, 1, none⟩ = some (.int .i64 d) := c1
  replace c2 : w1.cell? ⟨w.heap.size, 2, none⟩ = some (.int .u32 u) := c2
  generalize hG : w.heap.size = G at *
  clear HB hz1
  go_wp2_with fail
  refine wp_region_plan (.rd 0 (.rd 1 (.rd 4 (.rd 5 (.rd 9 (.rd 10 (.rd 11 (.act 2 (.rd 3 (.act 6 (.rd 7 (.rd 8 (.act 12 (.rd 13 (.rd 14 (.done))))))))))))))))
    (by kernel_rfl) (by kernel_rfl) (fun _ _ d _ _ h => by cases d <;> exact h) (by kernel_rfl) ?_
  replace HP := Lib.hid (HP.out.low hL)
  have hDR : Low w1 w1.drew := Below.drew (Below.refl _ _)
  replace HP := Lib.hid (HP.out.low hDR)
  replace hL := hL.trans hDR
  replace c0 : w1.drew.cell? _ = _ := c0
  replace c1 : w1.drew.cell? _ = _ := c1
  replace c2 : w1.drew.cell? _ = _ := c2
  replace hlt : G < w1.drew.heap.size := hlt
  clear hDR
  generalize w1.drew = w2 at *
  iterate 7 (refine walkP_read (v := _) rfl (by rfl) (by
      intro y hy
      have e0 := (hy.cell (p := ⟨G, 0, none⟩) hlt).trans c0
      have e1 := (hy.cell (p := ⟨G, 1, none⟩) hlt).trans c1
      have e2 := (hy.cell (p := ⟨G, 2, none⟩) hlt).trans c2
      go_simp; try rfl) ?_; simp only [Act.put, List.setIfInBounds_toArray, List.set_cons_zero, List.set_cons_succ])
  clear c0 c1 c2 hlt
  refine walkP_act rfl (by rfl) (fun K hK => ?_)
  go_simp
  refine (itoa_any n w2 HN.out HP.out).mono ?_
  rintro e w3 ⟨rfl, hl⟩
  have z1 : (strD (Lib.itoa n)).size ≤ 21 := by have := HN.out; unfold i64ok at this; rw [strD_size]; exact Lib.itoa_length_le n this.1 this.2
  obtain ⟨s1, hs1⟩ : ∃ s, s = strD (Lib.itoa n) := ⟨_, rfl⟩
  rw [show (⟨(Lib.itoa n).toArray⟩ : ByteArray) = s1 from hs1.symm]
  rw [← hs1] at z1
  replace hs1 := Lib.hid hs1
  go_simp
  refine hK _ _ hl ?_
  clear hK K
  replace hL := hL.trans hl
  replace HP := Lib.hid (HP.out.low hl)
  clear hl
  iterate 1 (refine walkP_read (v := _) rfl (by rfl) (by intro y hy; exact exec_cat s1 (strD [46]) 21 1 22 z1 (by decide) rfl (by omega) rfl rfl y) ?_; simp only [Act.put, List.setIfInBounds_toArray, List.set_cons_zero, List.set_cons_succ])
  have z3 := sum_size s1 (strD [46]) 21 1 22 z1 (by decide) rfl
  obtain ⟨s3, hs3⟩ : ∃ s, s = s1 ++ strD [46] := ⟨_, rfl⟩
  rw [← hs3] at z3 ⊢
  replace hs3 := Lib.hid hs3
  refine walkP_act rfl (by rfl) (fun K hK => ?_)
  go_simp
  refine (word_any d w3 HD.out HP.out).mono ?_
  rintro e w4 ⟨rfl, hl⟩
  have z2 : (strD (wordD d)).size ≤ 21 := by rw [strD_size]; exact wordD_size d HD.out
  obtain ⟨s2, hs2⟩ : ∃ s, s = strD (wordD d) := ⟨_, rfl⟩
  rw [← hs2] at z2 ⊢
  replace hs2 := Lib.hid hs2
  go_simp
  refine hK _ _ hl ?_
  clear hK K
  replace hL := hL.trans hl
  replace HP := Lib.hid (HP.out.low hl)
  clear hl
  refine walkP_read (v := _) rfl (by rfl) (by intro y hy; exact exec_cat s3 s2 22 21 43 z3 z2 rfl (by omega) rfl rfl y) ?_
  simp only [Act.put, List.setIfInBounds_toArray, List.set_cons_zero, List.set_cons_succ]
  have z4 := sum_size s3 s2 22 21 43 z3 z2 rfl
  refine walkP_read (v := _) rfl (by rfl) (by intro y hy; exact exec_cat (s3 ++ s2) (strD [46]) 43 1 44 z4 (by decide) rfl (by omega) rfl rfl y) ?_
  simp only [Act.put, List.setIfInBounds_toArray, List.set_cons_zero, List.set_cons_succ]
  have z5 := sum_size (s3 ++ s2) (strD [46]) 43 1 44 z4 (by decide) rfl
  obtain ⟨s5, hs5⟩ : ∃ s, s = s3 ++ s2 ++ strD [46] := ⟨_, rfl⟩
  rw [← hs5] at z5 ⊢
  replace hs5 := Lib.hid hs5
  refine walkP_act rfl (by rfl) (fun K hK => ?_)
  go_simp
  refine (fuint_any u w4 (by have := HU.out; omega) HP.out).mono ?_
  rintro e w5 ⟨rfl, hl⟩
  have z6 : (strD (Lib.decDigits u)).size ≤ 20 := by rw [strD_size]; exact decD_size u (by have := HU.out; omega)
  obtain ⟨s6, hs6⟩ : ∃ s, s = strD (Lib.decDigits u) := ⟨_, rfl⟩
  rw [show (⟨(Lib.decDigits u).toArray⟩ : ByteArray) = s6 from hs6.symm]
  rw [← hs6] at z6
  replace hs6 := Lib.hid hs6
  go_simp
  refine hK _ _ hl ?_
  clear hK K
  replace hL := hL.trans hl
  clear hl
  refine walkP_read (v := _) rfl (by rfl) (by intro y hy; exact exec_cat s5 s6 44 20 64 z5 z6 rfl (by omega) rfl rfl y) ?_
  simp only [Act.put, List.setIfInBounds_toArray, List.set_cons_zero, List.set_cons_succ]
  refine walkP_read (v := _) rfl (by rfl) (by intro y hy; go_simp; try rfl) ?_
  simp only [Act.put, List.setIfInBounds_toArray, List.set_cons_zero, List.set_cons_succ]
  unfold walkP
  have HX := Lib.hid (show s5 ++ s6 = strD (textD n d u) by rw [hs5.out, hs6.out, hs3.out, hs2.out, hs1.out]; exact textD_eq n d u)
  clear hs1 hs2 hs3 hs5 hs6 z1 z2 z3 z4 z5 z6
  generalize s5 ++ s6 = s7 at *
  go_wp2_with fail
  go_ret
  subst hG
  exact ⟨by rw [HX.out]; rfl, hL⟩
end Go.Proofs.YtjlanbfkpaagdaaDoor
