/- Stage 22: the program's own list: Oldest, All, Len, New; RcObj is met. No condition but that the list lies so. -/
import Derived.Test.YtpphkmedlpdccaaRcH
import Derived.Laws.MakeOwn
set_option maxRecDepth 100000
namespace Go.Proofs.Ytpphkmedlpdccaa
open Go.RowKit
set_option linter.unusedVariables false
attribute [local go_sem] Oper.semAt_some

section
variable {w w' : World} {g a b n : Nat} {va vb s : List Int}
set_option maxHeartbeats 1600000 in
set_option maxRecDepth 100000 in
theorem rcoldest_any (h : RcAt w g a b n va vb) (hr : RingR n va vb s) : Calls Try.prog 11 #[.pointer (some ⟨g, 0, none⟩)] w fun e w' => e = .returned (.tuple #[.int .i64 (s.getD (s.length - 1) 0), .bool (decide (0 < s.length))]) ∧ Low w w' := by
  have T := Lib.hid h
  have cn := h.atA (Nat.le_refl n)
  have hl := hr.last
  have hn := h.n2
  have hnn2 : (n : Int) < (n : Int) + 1 := by omega
  have hb : ∃ t : Bool, ((va.getD n 0) == (n : Int)) = !t ∧ decide (0 < s.length) = t ∧ (t = true → va.getD n 0 = s.getD (s.length - 1) 0) ∧ (t = false → s.getD (s.length - 1) 0 = 0) := by
    by_cases h0 : 0 < s.length
    · rw [if_pos h0] at hl
      have h1 : s.getD (s.length - 1) 0 ∈ s := by
        have : s.getD (s.length - 1) 0 = s[s.length - 1] := by rw [List.getD_eq_getElem?_getD, List.getElem?_eq_getElem (by omega)]; rfl
        rw [this]
        exact List.getElem_mem _
      have h2 := hr.right.all _ h1
      refine ⟨true, ?_, by simpa using h0, fun _ => hl, fun e => Bool.noConfusion e⟩
      rw [hl]
      simp only [Bool.not_true, beq_eq_false_iff_ne]
      omega
    · rw [if_neg h0] at hl
      have h1 : s = [] := List.length_eq_zero_iff.1 (by omega)
      refine ⟨false, ?_, by simpa using h0, fun e => Bool.noConfusion e, fun _ => by rw [h1]; rfl⟩
      rw [hl]
      simp
  obtain ⟨t, t1, t2, t3, t4⟩ := hb
  rw [t2]
  generalize va.getD n 0 = y at *
  generalize s.getD (s.length - 1) 0 = z at *
  have T1 := Lib.hid t1
  have T3 := Lib.hid t3
  have T4 := Lib.hid t4
  clear h hr hl t2 t1 t3 t4
  go_enter Try.func11, Try.ntmps11
  go_wp2_with fail
  refine wp_region_planN (fun x => x.cell? ⟨g, 0, none⟩ = some (.slice (some ⟨a, 0, none⟩) (n + 1) (n + 1)) ∧ x.cell? ⟨a, n, none⟩ = some (.int .i64 y)) (.rd 0 (.act 1 (.rd 2 (.rd 3 (.rd 4 (.rd 5 (.rd 6 (.rd 7 (.rd 8 (.rd 9 (.rd 10 (.rd 11 (.rd 15 (.rd 16 (.rd 17 (.act 12 (.rd 13 (.rd 14 (.act 18 (.rd 19 (.rd 20 (.done))))))))))))))))))))))
    (by kernel_rfl) (by kernel_rfl) (by kernel_rfl) ⟨T.out.c0, cn⟩ ?_
  have hld : Low w w.drew := Below.drew (Below.refl _ w)
  replace T := Lib.hid (T.out.low hld)
  replace cn : w.drew.cell? ⟨a, n, none⟩ = some (.int .i64 y) := cn
  have HL := Lib.hid hld
  clear hld
  generalize w.drew = w2 at *
  iterate 1 (refine walkS_read (v := _) rfl (by rfl) (by
                    intro y2 ⟨q0, q1⟩
                    first
                    | (go_simp; try rfl)) ?_; simp only [Act.put, List.setIfInBounds_toArray, List.set_cons_zero, List.set_cons_succ])
  refine walkS_act rfl (by rfl) (fun K hK => ?_)
  go_simp
  refine (rcmade_any T.out).mono ?_
  rintro e w3 ⟨rfl, rfl⟩
  go_simp
  refine hK _ _ ⟨T.out.c0, cn⟩ ?_
  clear hK K
  iterate 13 (refine walkS_read (v := _) rfl (by rfl) (by
                    intro y2 ⟨q0, q1⟩
                    first
                    | (go_simp; try rfl)) ?_; simp only [Act.put, List.setIfInBounds_toArray, List.set_cons_zero, List.set_cons_succ])
  refine walkS_act rfl (by rfl) (fun K hK => ?_)
  go_simp
  refine (rcknot_any T.out).mono ?_
  rintro e w4 ⟨rfl, rfl⟩
  go_simp
  refine hK _ _ ⟨T.out.c0, cn⟩ ?_
  clear hK K
  iterate 2 (refine walkS_read (v := _) rfl (by rfl) (by
                    intro y2 ⟨q0, q1⟩
                    first
                    | (go_simp; try rfl)) ?_; simp only [Act.put, List.setIfInBounds_toArray, List.set_cons_zero, List.set_cons_succ])
  refine walkS_act rfl (by rfl) (fun K hK => ?_)
  go_simp
  refine (rcknot_any T.out).mono ?_
  rintro e w5 ⟨rfl, rfl⟩
  go_simp
  refine hK _ _ ⟨T.out.c0, cn⟩ ?_
  clear hK K
  have ht := T1.out
  cases t with
  | false =>
    have ht2 : (y == (n : Int)) = true := by rw [ht]; rfl
    obtain rfl : z = 0 := T4.out rfl
    clear ht
    iterate 2 (refine walkS_read (v := _) rfl (by rfl) (by
                    intro y2 ⟨q0, q1⟩
                    first
                    | (go_simp; try rfl)) ?_; simp only [Act.put, List.setIfInBounds_toArray, List.set_cons_zero, List.set_cons_succ])
    unfold walkS orThrow
    dsimp only
    go_wp2_with fail
    go_ret2
    exact ⟨rfl, HL.out⟩
  | true =>
    have ht2 : (y == (n : Int)) = false := by rw [ht]; rfl
    obtain rfl : y = z := T3.out rfl
    clear ht
    iterate 2 (refine walkS_read (v := _) rfl (by rfl) (by
                    intro y2 ⟨q0, q1⟩
                    first
                    | (go_simp; try rfl)) ?_; simp only [Act.put, List.setIfInBounds_toArray, List.set_cons_zero, List.set_cons_succ])
    unfold walkS orThrow
    dsimp only
    go_wp2_with fail
    refine wp_region_planN (fun x => x.cell? ⟨g, 0, none⟩ = some (.slice (some ⟨a, 0, none⟩) (n + 1) (n + 1)) ∧ x.cell? ⟨a, n, none⟩ = some (.int .i64 y)) (.rd 0 (.rd 1 (.rd 2 (.rd 3 (.rd 4 (.rd 5 (.rd 6 (.rd 7 (.act 8 (.rd 9 (.rd 10 (.rd 11 (.rd 12 (.done))))))))))))))
      (by kernel_rfl) (by kernel_rfl) (by kernel_rfl) ⟨T.out.c0, cn⟩ ?_
    have hld : Low w5 w5.drew := Below.drew (Below.refl _ w5)
    replace T := Lib.hid (T.out.low hld)
    replace cn : w5.drew.cell? ⟨a, n, none⟩ = some (.int .i64 y) := cn
    replace HL := Lib.hid (HL.out.trans hld)
    clear hld
    generalize w5.drew = w6 at *
    iterate 8 (refine walkS_read (v := _) rfl (by rfl) (by
                    intro y2 ⟨q0, q1⟩
                    first
                    | (go_simp; try rfl)) ?_; simp only [Act.put, List.setIfInBounds_toArray, List.set_cons_zero, List.set_cons_succ])
    refine walkS_act rfl (by rfl) (fun K hK => ?_)
    go_simp
    refine (rcknot_any T.out).mono ?_
    rintro e w7 ⟨rfl, rfl⟩
    go_simp
    refine hK _ _ ⟨T.out.c0, cn⟩ ?_
    clear hK K
    iterate 4 (refine walkS_read (v := _) rfl (by rfl) (by
                    intro y2 ⟨q0, q1⟩
                    first
                    | (go_simp; try rfl)) ?_; simp only [Act.put, List.setIfInBounds_toArray, List.set_cons_zero, List.set_cons_succ])
    unfold walkS orThrow
    dsimp only
    go_wp2_with fail
    go_ret2
    exact ⟨rfl, HL.out⟩
def lenOfR : Value → Nat
  | .slice _ n _ => n
  | _ => 0
set_option maxHeartbeats 1600000 in
set_option maxRecDepth 100000 in
theorem rcall_any (h : RcAt w g a b n va vb) (hr : RingR n va vb s) : Calls Try.prog 13 #[.pointer (some ⟨g, 0, none⟩)] w fun e w' => ∃ A c, e = .returned (.slice A s.length c) ∧ Ns w' w'.heap.size A s.length s ∧ Low w w' := by
  have T := Lib.hid h
  have R := Lib.hid hr
  have cn := h.atB (Nat.le_refl n)
  rw [hr.first] at cn
  have hn := h.n2
  have hnn2 : (n : Int) < (n : Int) + 1 := by omega
  have HLS := Lib.hid hr.right.len
  have HGU := Lib.hid (show ∀ j, ownR g a b j → j < w.heap.size from fun j hj => hj.elim (fun e => e ▸ h.head.lt) fun hj => hj.elim (fun e => e ▸ h.rowA.lt) fun e => e ▸ h.rowB.lt)
  obtain ⟨i0, hi, hz0, hz1, hz2⟩ := info_int_partsP
  have HI := Lib.hid hi
  have HZ0 := Lib.hid hz0
  have HZ1 := Lib.hid hz1
  have HZ2 := Lib.hid hz2
  clear h hr hi hz0 hz1 hz2
  go_enter Try.func13, Try.ntmps13
  go_wp2_with fail
  refine (rcmade_any T.out).mono ?_
  rintro e w2 ⟨rfl, rfl⟩
  go_wp2_with fail
  refine wp_region_planN (fun x => x.cell? ⟨g, 1, none⟩ = some (.slice (some ⟨b, 0, none⟩) (n + 1) (n + 1)) ∧ x.cell? ⟨b, n, none⟩ = some (.int .i64 ((s ++ [(n : Int)]).getD 0 0))) (.rd 0 (.rd 1 (.rd 2 (.rd 3 (.rd 4 (.rd 5 (.rd 6 (.rd 7 (.act 8 (.rd 9 (.rd 10 (.rd 11 (.done)))))))))))))
    (by kernel_rfl) (by kernel_rfl) (by kernel_rfl) ⟨T.out.c1, cn⟩ ?_
  have hld : Low w2 w2.drew := Below.drew (Below.refl _ w2)
  replace T := Lib.hid (T.out.low hld)
  replace cn : w2.drew.cell? ⟨b, n, none⟩ = some (.int .i64 ((s ++ [(n : Int)]).getD 0 0)) := cn
  have HL := Lib.hid hld
  clear hld
  generalize w2.drew = w3 at *
  iterate 8 (refine walkS_read (v := _) rfl (by rfl) (by
                    intro y2 ⟨q0, q1⟩
                    first
                    | (go_simp; try rfl)) ?_; simp only [Act.put, List.setIfInBounds_toArray, List.set_cons_zero, List.set_cons_succ])
  refine walkS_act rfl (by rfl) (fun K hK => ?_)
  go_simp
  refine (rcknot_any T.out).mono ?_
  rintro e w4 ⟨rfl, rfl⟩
  go_simp
  refine hK _ _ ⟨T.out.c1, cn⟩ ?_
  clear hK K
  iterate 3 (refine walkS_read (v := _) rfl (by rfl) (by
                    intro y2 ⟨q0, q1⟩
                    first
                    | (go_simp; try rfl)) ?_; simp only [Act.put, List.setIfInBounds_toArray, List.set_cons_zero, List.set_cons_succ])
  unfold walkS orThrow
  dsimp only
  clear cn
  generalize hv0 : (s ++ [(n : Int)]).getD 0 0 = v0
  have HV0 := Lib.hid hv0
  clear hv0
  go_wp2_with fail
  go_loopw [3, 4] (fun v3 v4 wr => ∃ (k : Nat) (A : Option Addr) (c : Nat), k ≤ s.length ∧ v3 = .slice A k c ∧ v4 = .int .i64 ((s ++ [(n : Int)]).getD k 0) ∧ Hid (RcAt wr g a b n va vb) ∧ Hid (OwnN 3 wr w2.heap.size A k c (s.take k)) ∧ Hid (Low w2 wr)) (fun v3 _ _ => s.length - lenOfR v3)
  case atStart => exact ⟨0, none, 0, Nat.zero_le _, rfl, by simp, T, Lib.hid (OwnN.noneP _ _ _), HL⟩
  case round =>
    clear T HL HV0
    obtain ⟨k, A, c, hk, rfl, rfl, T, HO, HL⟩ := hrel
    have HK := Lib.hid (rcknot_any T.out)
    by_cases hlt : k < s.length
    · have hin : s.getD k 0 ∈ s := by
        have : s.getD k 0 = s[k] := by simp [List.getD, hlt]
        rw [this]
        exact List.getElem_mem _
      have hy := R.out.right.all _ hin
      have e1 : (s ++ [(n : Int)]).getD k 0 = s.getD k 0 := by
        rw [List.getD_eq_getElem?_getD, List.getElem?_append_left hlt, ← List.getD_eq_getElem?_getD]
      have e2 : s.take (k + 1) = s.take k ++ [s.getD k 0] := by
        rw [List.take_succ_eq_append_getElem hlt]
        simp [List.getD, hlt]
      rw [e1]
      obtain ⟨x, hx⟩ := Int.eq_ofNat_of_zero_le hy.1
      have hnx := R.out.next hlt hx (by omega)
      have cx := T.out.atB (i := x) (by omega)
      have HBX0 := hnx
      rw [hx] at e2 hy ⊢
      have hne : ((x : Int) != (n : Int)) = true := by rw [bne_iff_ne]; omega
      have hx2 : (x : Int) < (n : Int) + 1 := by omega
      have HE2 := Lib.hid e2
      have hls := HLS.out
      clear hin hy e1 e2 hx hnx
      generalize hnext : (s ++ [(n : Int)]).getD (k + 1) 0 = y at *
      have HNX := Lib.hid hnext
      have HBX := Lib.hid HBX0
      clear hnext HBX0
      have c1 := T.out.c1
      have hlA := Low.alloc wr (.cells #[.int .i64 x] 3)
      have hkA : BlkN (wr.alloc (.cells #[.int .i64 x] 3)) 3 wr.heap.size [(x : Int)] := BlkN.new wr 3 [(x : Int)]
      have hbA := hkA.bs (n := 1) (.cons (by omega) (by omega) .nil) hkA.lt rfl
      have hO3 := HO.out.below hlA
      have T3 := Lib.hid (T.out.low hlA)
      have HL3 := Lib.hid (Below.trans HL.out (hlA.mono HL.out.size))
      have hb5 : w2.heap.size ≤ (wr.alloc (.cells #[.int .i64 x] 3)).heap.size := by have := HL.out.size; simp; omega
      clear hkA hlA HO T HL c1 cx
      go_wp2_with fail
      refine HK.out.mono ?_
      rintro e w5 ⟨rfl, rfl⟩
      clear HK
      go_wp2_with (at_builtin; refine wpList_append_ns rfl _ _ _ rfl w2.heap.size 3 i0 Try.underlying26 HI.out HZ0.out HZ1.out HZ2.out _ k c (s.take k) rfl hO3 _ 1 _ _ [(x : Int)] rfl hbA (by omega) hb5 ?_; intro A4 c4 w4 hO4 hg4 hb4; refine Hid.out ?_)
      refine Lib.hid ?_
      have HL4 := Lib.hid (show Low w2 w4 from Below.grown HL3.out hg4 hb5 (fun j hj => (hO3.lt j hj).1))
      have T4 := Lib.hid (T3.out.keep (w' := w4) fun j hj => hg4.block j (Nat.lt_of_lt_of_le (HGU.out j hj) hb5) (fun e => by have := (hO3.lt _ e.symm).1; have := HGU.out j hj; omega))
      have HO4 := Lib.hid (show OwnN 3 w4 w2.heap.size A4 (k + 1) c4 (s.take (k + 1)) by rw [HE2.out]; exact hO4)
      clear hO4 hg4 hb4 hO3 HL3 hbA hb5 T3 HE2
      have c1 := T4.out.c1
      have cx := T4.out.atB (i := x) (by omega)
      rw [HBX.out] at cx
      go_wp2_with fail
      go_roundw
      case rel => exact ⟨k + 1, A4, c4, by omega, rfl, by rw [HNX.out], T4, HO4, HL4⟩
      case measure => simp [lenOfR]; omega
    · obtain rfl : k = s.length := by omega
      have e1 : (s ++ [(n : Int)]).getD s.length 0 = (n : Int) := by simp [List.getD]
      have hne : ((n : Int) != (n : Int)) = false := by simp
      have HSL := Lib.hid (List.take_length (l := s))
      rw [HSL.out] at HO
      rw [e1]
      have HBN := Lib.hid (Ns.of_own (Nat.le_refl wr.heap.size) HO.out.2 HO.out.1)
      clear HO e1
      go_wp2_with fail
      refine HK.out.mono ?_
      rintro e w5 ⟨rfl, rfl⟩
      go_wp2_with fail
      go_ret
      exact ⟨A, c, rfl, HBN.out, HL.out⟩
theorem rclen_any (h : RcAt w g a b n va vb) (hr : RingR n va vb s) : Calls Try.prog 14 #[.pointer (some ⟨g, 0, none⟩)] w fun e w' => e = .returned (.int .i64 (s.length : Nat)) ∧ Low w w' := by
  have HA := Lib.hid (rcall_any h hr)
  clear h hr
  go_enter Try.func14, Try.ntmps14
  go_wp2_with fail
  refine HA.out.mono ?_
  rintro e w2 ⟨A, c, rfl, hb, hl⟩
  have HL := Lib.hid hl
  clear hb hl
  go_wp2_with fail
  go_ret
  exact ⟨rfl, HL.out⟩
end
end Go.Proofs.Ytpphkmedlpdccaa
