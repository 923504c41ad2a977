/- Stage 22: the program's own list: a number cut out, whether it is there, Drop, Touch, Oldest. No condition but that the list lies so. -/
import Derived.Test.YtpphkmedlpdccaaRcG
set_option maxRecDepth 100000
namespace Go.Proofs.Ytpphkmedlpdccaa
open Go.RowKit
set_option linter.unusedVariables false
attribute [local go_sem] Oper.semAt_some

/-- a list that lies so, and what numbers there are -/
def HasR (w : World) (g a b n : Nat) (s : List Int) : Prop := ∃ va vb, RcAt w g a b n va vb ∧ RingR n va vb s
section
variable {w w' : World} {g a b n : Nat} {va vb s : List Int}
theorem mayR_yes {x : Int} (h : mayR n x = true) : ∃ k : Nat, x = k ∧ k < n := by
  unfold mayR at h
  simp at h
  exact ⟨x.toNat, by omega, by omega⟩
theorem mayR_no (h : RightR n s) {x : Int} (hx : mayR n x = false) : s.contains x = false := by
  unfold mayR at hx
  simp only [Bool.and_eq_false_iff, decide_eq_false_iff_not] at hx
  have : x ∉ s := fun h1 => by have := h.all x h1; omega
  simpa using this
set_option maxHeartbeats 1600000 in
set_option maxRecDepth 100000 in
theorem rccut_any (h : RcAt w g a b n va vb) (hr : RingR n va vb s) {x : Nat} (hx : x < n) : Calls Try.prog 18 #[.pointer (some ⟨g, 0, none⟩), .int .i64 x] w fun e w' => e = .returned (.tuple #[]) ∧ HasR w' g a b n (dropR s x) ∧ Out (ownR g a b) w w' := by
  obtain ⟨i, j, hi, hj, e1, e2, hij, hr2⟩ := hr.cut hx
  have HT := Lib.hid h
  have hx2 : (x : Int) < (n : Int) + 1 := by omega
  have hn := h.n2
  have HKA := Lib.hid (show ∀ y, RcAt y g a b n (va.set j i) (vb.set i j) → y.cell? ⟨a, x, none⟩ = some (.int .i64 i) ∧ y.cell? ⟨b, x, none⟩ = some (.int .i64 j) from fun y hy => by
    rw [hy.atA (show x ≤ n by omega), hy.atB (show x ≤ n by omega), getD_keepR e1 (by rw [h.lenA]; omega) (fun e => by omega), getD_keepR e2 (by rw [h.lenB]; omega) (fun e => by omega)]
    exact ⟨rfl, rfl⟩)
  have HC0 := Lib.hid (show ∀ y, RcAt y g a b n va vb → y.cell? ⟨a, x, none⟩ = some (.int .i64 i) ∧ y.cell? ⟨b, x, none⟩ = some (.int .i64 j) from fun y hy => by
    rw [hy.atA (show x ≤ n by omega), hy.atB (show x ≤ n by omega), e1, e2]
    exact ⟨rfl, rfl⟩)
  have HR2 := Lib.hid hr2
  clear h hr e1 e2 hij hr2
  go_enter Try.func18, Try.ntmps18
  go_wp2_with fail
  refine wp_region_planN (fun y => BlkV y 42 g (headR a b n) ∧ y.cell? ⟨a, x, none⟩ = some (.int .i64 i) ∧ y.cell? ⟨b, x, none⟩ = some (.int .i64 j)) (.rd 0 (.rd 1 (.rd 2 (.rd 3 (.rd 4 (.rd 5 (.rd 6 (.rd 7 (.rd 8 (.rd 9 (.rd 10 (.rd 11 (.rd 12 (.rd 13 (.rd 14 (.act 15 (.done)))))))))))))))))
    (by kernel_rfl) (by kernel_rfl) (by kernel_rfl) ⟨HT.out.head, HC0.out w HT.out⟩ ?_
  have hld : Low w w.drew := Below.drew (Below.refl _ w)
  have TD := Lib.hid (HT.out.low hld)
  have HOD := Lib.hid (Out.low (F := ownR g a b) hld)
  clear hld HT
  generalize w.drew = w1 at *
  iterate 15 (refine walkS_read (v := _) rfl (by rfl) (by
                    intro y ⟨hy, q2, q3⟩
                    have q0 : y.cell? ⟨g, 0, none⟩ = some (.slice (some ⟨a, 0, none⟩) (n + 1) (n + 1)) := hy.cell 0
                    have q1 : y.cell? ⟨g, 1, none⟩ = some (.slice (some ⟨b, 0, none⟩) (n + 1) (n + 1)) := hy.cell 1
                    clear hy
                    first
                    | (go_simp; try rfl)) ?_; simp only [Act.put, List.setIfInBounds_toArray, List.set_cons_zero, List.set_cons_succ])
  refine walkS_act rfl (by rfl) (fun K hK => ?_)
  go_simp
  refine (rctie_any TD.out hi hj).mono ?_
  rintro e w2 ⟨rfl, h2, ho2⟩
  go_simp
  have T2 := Lib.hid h2
  have HO2 := Lib.hid (HOD.out.trans ho2 (Grow.refl _ _))
  refine hK _ _ ⟨h2.head, HKA.out _ h2⟩ ?_
  clear hK K h2 ho2 TD HOD
  unfold walkS orThrow
  dsimp only
  have hxn : x ≤ n := by omega
  go_wp2_with fail
  refine (rctie_any T2.out hxn hxn).mono ?_
  rintro e w3 ⟨rfl, h3, ho3⟩
  have T3 := Lib.hid h3
  have HO3 := Lib.hid (HO2.out.trans ho3 (Grow.refl _ _))
  clear h3 ho3
  go_wp2_with fail
  go_end0
  exact ⟨rfl, ⟨_, _, T3.out, HR2.out⟩, HO3.out⟩
theorem rchas_any (h : RcAt w g a b n va vb) (hr : RingR n va vb s) (x : Int) : Calls Try.prog 15 #[.pointer (some ⟨g, 0, none⟩), .int .i64 x] w fun e w' => e = .returned (.bool (s.contains x)) ∧ w' = w := by
  have HM := Lib.hid (rcmay_any h x)
  have c0 := h.c0
  cases hm : mayR n x with
  | false =>
    have HN := Lib.hid (mayR_no hr.right hm)
    rw [hm] at HM
    clear h hr hm c0
    go_enter Try.func15, Try.ntmps15
    go_wp2_with fail
    refine HM.out.mono ?_
    rintro e w2 ⟨rfl, rfl⟩
    go_wp2_with fail
    go_ret
    exact ⟨by rw [HN.out]; rfl, rfl⟩
  | true =>
    rw [hm] at HM
    obtain ⟨k, rfl, hk⟩ := mayR_yes hm
    have hs := hr.self hk
    have c1 := h.atA (i := k) (by omega)
    have hk2 : (k : Int) < (n : Int) + 1 := by omega
    have hn := h.n2
    generalize va.getD k 0 = y at *
    have HS := Lib.hid (show (y != (k : Int)) = s.contains (k : Int) by
      rw [Bool.eq_iff_iff, bne_iff_ne, List.contains_iff_mem]
      exact hs)
    clear h hr hm hs
    go_enter Try.func15, Try.ntmps15
    go_wp2_with fail
    refine HM.out.mono ?_
    rintro e w2 ⟨rfl, rfl⟩
    go_wp2_with fail
    go_ret
    exact ⟨by rw [← HS.out]; rfl, rfl⟩
theorem rcdrop_any (h : RcAt w g a b n va vb) (hr : RingR n va vb s) (x : Int) : Calls Try.prog 9 #[.pointer (some ⟨g, 0, none⟩), .int .i64 x] w fun e w' => e = .returned (.bool (s.contains x)) ∧ HasR w' g a b n (dropR s x) ∧ Out (ownR g a b) w w' := by
  have HH := Lib.hid (rchas_any h hr x)
  have T := Lib.hid h
  have R := Lib.hid hr
  cases hc : s.contains x with
  | false =>
    have HD := Lib.hid (dropR_all hc)
    rw [hc] at HH
    clear h hr hc
    go_enter Try.func9, Try.ntmps9
    go_wp2_with fail
    refine HH.out.mono ?_
    rintro e w2 ⟨rfl, rfl⟩
    go_wp2_with fail
    go_ret
    exact ⟨rfl, by rw [HD.out]; exact ⟨_, _, T.out, R.out⟩, Out.refl _ _⟩
  | true =>
    have hin := List.contains_iff_mem.1 hc
    have hx := hr.right.all x hin
    obtain ⟨k, rfl⟩ := Int.eq_ofNat_of_zero_le hx.1
    have hk : k < n := by omega
    rw [hc] at HH
    have HC := Lib.hid (rccut_any h hr hk)
    clear h hr hc hin hx
    go_enter Try.func9, Try.ntmps9
    go_wp2_with fail
    refine HH.out.mono ?_
    rintro e w2 ⟨rfl, rfl⟩
    go_wp2_with fail
    refine HC.out.mono ?_
    rintro e w3 ⟨rfl, h3, ho3⟩
    have H3 := Lib.hid h3
    have HO3 := Lib.hid ho3
    clear h3 ho3
    go_wp2_with fail
    go_ret
    exact ⟨rfl, H3.out, HO3.out⟩
set_option maxHeartbeats 1600000 in
set_option maxRecDepth 100000 in
theorem rctouch_any (h : RcAt w g a b n va vb) (hr : RingR n va vb s) (x : Int) : Calls Try.prog 7 #[.pointer (some ⟨g, 0, none⟩), .int .i64 x] w fun e w' => e = .returned (.bool (mayR n x)) ∧ HasR w' g a b n (toR n s x) ∧ Out (ownR g a b) w w' := by
  have HM := Lib.hid (rcmay_any h x)
  cases hm : mayR n x with
  | false =>
    have T := Lib.hid h
    have R := Lib.hid hr
    have HD := Lib.hid (show toR n s x = s by unfold toR; rw [hm]; rfl)
    rw [hm] at HM
    clear h hr hm
    go_enter Try.func7, Try.ntmps7
    go_wp2_with fail
    refine HM.out.mono ?_
    rintro e w2 ⟨rfl, rfl⟩
    go_wp2_with fail
    go_ret
    exact ⟨rfl, by rw [HD.out]; exact ⟨_, _, T.out, R.out⟩, Out.refl _ _⟩
  | true =>
    have HD := Lib.hid (show toR n s x = x :: dropR s x by unfold toR; rw [hm]; rfl)
    rw [hm] at HM
    obtain ⟨k, rfl, hk⟩ := mayR_yes hm
    have HC := Lib.hid (rccut_any h hr hk)
    have hn := h.n2
    have hnn2 : (n : Int) < (n : Int) + 1 := by omega
    have HNI := Lib.hid (dropR_not s k)
    clear h hr hm
    go_enter Try.func7, Try.ntmps7
    go_wp2_with fail
    refine HM.out.mono ?_
    rintro e w2 ⟨rfl, rfl⟩
    go_wp2_with fail
    refine HC.out.mono ?_
    rintro e w3 ⟨rfl, ⟨va, vb, h3, hr3⟩, ho3⟩
    obtain ⟨j, hj, ej, hr4⟩ := hr3.ins hk HNI.out
    have HR4 := Lib.hid hr4
    have c9 := h3.atB (Nat.le_refl n)
    rw [ej] at c9
    have T3 := Lib.hid h3
    have HO3 := Lib.hid ho3
    clear h3 hr3 ho3 hr4 ej HC HM HNI
    go_wp2_with fail
    refine wp_region_planN (fun y => y.cell? ⟨g, 1, none⟩ = some (.slice (some ⟨b, 0, none⟩) (n + 1) (n + 1)) ∧ y.cell? ⟨b, n, none⟩ = some (.int .i64 j)) (.rd 0 (.rd 1 (.rd 2 (.rd 3 (.rd 4 (.rd 5 (.rd 6 (.rd 7 (.act 8 (.rd 9 (.rd 10 (.rd 11 (.done)))))))))))))
      (by kernel_rfl) (by kernel_rfl) (by kernel_rfl) ⟨T3.out.c1, c9⟩ ?_
    have hld : Low w3 w3.drew := Below.drew (Below.refl _ w3)
    replace T3 := Lib.hid (T3.out.low hld)
    replace HO3 := Lib.hid (HO3.out.then_low hld)
    replace c9 : w3.drew.cell? ⟨b, n, none⟩ = some (.int .i64 j) := c9
    clear hld
    generalize w3.drew = w4 at *
    iterate 8 (refine walkS_read (v := _) rfl (by rfl) (by
                    intro y ⟨q0, q1⟩
                    first
                    | (go_simp; try rfl)) ?_; simp only [Act.put, List.setIfInBounds_toArray, List.set_cons_zero, List.set_cons_succ])
    refine walkS_act rfl (by rfl) (fun K hK => ?_)
    go_simp
    refine (rcknot_any T3.out).mono ?_
    rintro e w5 ⟨rfl, rfl⟩
    go_simp
    refine hK _ _ ⟨T3.out.c1, c9⟩ ?_
    clear hK K c9
    iterate 3 (refine walkS_read (v := _) rfl (by rfl) (by
                    intro y ⟨q0, q1⟩
                    first
                    | (go_simp; try rfl)) ?_; simp only [Act.put, List.setIfInBounds_toArray, List.set_cons_zero, List.set_cons_succ])
    unfold walkS orThrow
    dsimp only
    have hkn : k ≤ n := by omega
    have hnn : n ≤ n := Nat.le_refl n
    go_wp2_with fail
    refine wp_region_planN (fun y => True) (.rd 0 (.rd 1 (.rd 2 (.rd 3 (.rd 4 (.rd 5 (.rd 7 (.act 6 (.act 8 (.done))))))))))
      (by kernel_rfl) (by kernel_rfl) (by kernel_rfl) trivial ?_
    have hld : Low w5 w5.drew := Below.drew (Below.refl _ w5)
    replace T3 := Lib.hid (T3.out.low hld)
    replace HO3 := Lib.hid (HO3.out.then_low hld)
    clear hld
    generalize w5.drew = w6 at *
    iterate 7 (refine walkS_read (v := _) rfl (by rfl) (by
                    intro y _
                    first
                    | (go_simp; try rfl)) ?_; simp only [Act.put, List.setIfInBounds_toArray, List.set_cons_zero, List.set_cons_succ])
    refine walkS_act rfl (by rfl) (fun K hK => ?_)
    go_simp
    refine (rcknot_any T3.out).mono ?_
    rintro e w7 ⟨rfl, rfl⟩
    go_simp
    refine hK _ _ trivial ?_
    clear hK K
    refine walkS_act rfl (by rfl) (fun K hK => ?_)
    go_simp
    refine (rctie_any T3.out hnn hkn).mono ?_
    rintro e w8 ⟨rfl, h8, ho8⟩
    go_simp
    have T8 := Lib.hid h8
    have HO8 := Lib.hid (HO3.out.trans ho8 (Grow.refl _ _))
    refine hK _ _ trivial ?_
    clear hK K h8 ho8 T3 HO3
    unfold walkS orThrow
    dsimp only
    go_wp2_with fail
    refine (rctie_any T8.out hkn hj).mono ?_
    rintro e w9 ⟨rfl, h9, ho9⟩
    have T9 := Lib.hid h9
    have HO9 := Lib.hid (HO8.out.trans ho9 (Grow.refl _ _))
    clear h9 ho9
    go_wp2_with fail
    go_ret
    exact ⟨rfl, ⟨_, _, T9.out, by rw [HD.out]; exact HR4.out⟩, HO9.out⟩
end
end Go.Proofs.Ytpphkmedlpdccaa
