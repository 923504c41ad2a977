/- Stage 19: the document's Rows, walked. Conditions: at most 200 slots each. -/
import Derived.Test.YtjmpcmgnbamniaaShD
import Derived.Test.YtjmpcmgnbamniaaJReg
set_option maxRecDepth 100000
namespace Go.Proofs.Ytjmpcmgnbamniaa
open Go.RowKit
set_option linter.unusedVariables false

theorem wpList_load_vS {P : Program} {ops : Array Oper} {rest : List Oper} {o : Oper} {a : Act} {w : World} {Q : Exit → Act → World → Prop} (hgd : o.guard = none) (ty : TypeId) (x : Operand) (ho : o.op = .load ty x) (g : Nat) (hx : a.eval x = .pointer (some ⟨g, 0, none⟩)) (t : TypeId) (vs : List Value) (hb : BlkV w t g vs) (d : TypeDesc)
    (hu : P.underlying ty = some d) (hd : (match d with | .struct _ | .array _ _ => true | _ => false) = true) (hi : (P.info? ty).map (·.size) = some vs.length)
    (hk : wpList P ops Q rest (a.put o.dst (.agg vs.toArray)) w) : wpList P ops Q (o :: rest) a w :=
  wpList_load_row hgd ty x ho g hx t vs.toArray (0, 0) d hb hu hd (by rw [hi]; simp) hk
/-- rows handed back -/
def GivesRw (w : World) (l : List Rws) (e : Ending) (w' : World) : Prop := ∃ A c, e = .returned (.slice A l.length c) ∧ Es rwsE w' w'.heap.size A l.length l ∧ Low w w'
set_option maxHeartbeats 6400000 in
set_option maxRecDepth 100000 in
theorem rrows_any (A B : Option Addr) (n c k d : Nat) (was is_ : List Int) (w : World) (hn : n ≤ 200) (hk : k ≤ 200) (ha : Ns w w.heap.size A n was) (hb : Ns w w.heap.size B k is_) :
    Calls Try.prog 8 #[.slice A n c, .slice B k d] w (GivesRw w (rowsS was is_)) := by
  have HA := Lib.hid ha
  have HB := Lib.hid hb
  clear ha hb
  obtain ⟨i0, hi, hz0, hz1, hz2⟩ := info_int_partsP
  have HI := Lib.hid hi
  have HZ0 := Lib.hid hz0
  have HZ1 := Lib.hid hz1
  have HZ2 := Lib.hid hz2
  clear hi hz0 hz1 hz2
  obtain ⟨j0, hi, hz0, hz1, hz2⟩ := info_rrow_parts
  have RI := Lib.hid hi
  have RZ0 := Lib.hid hz0
  have RZ1 := Lib.hid hz1
  have RZ2 := Lib.hid hz2
  clear hi hz0 hz1 hz2
  have HRF := Lib.hid (rowsS_few was is_)
  have hl0 := Low.alloc w (.cells #[] 3)
  have hO1 := OwnN.fresh (base := w.heap.size) w 3 (Nat.le_refl _)
  have hA1 := HA.out.below hl0
  have HA1 := Lib.hid hl0
  clear hl0
  go_enter Try.func8, Try.ntmps8
  go_wp2_with (at_builtin; refine wpList_append_ns rfl (.tmp 12) (.tmp 13) _ rfl w.heap.size 3 i0 Try.underlying22 HI.out HZ0.out HZ1.out HZ2.out _ 0 0 [] rfl hO1 A n c w.heap.size was rfl hA1 (by omega) (by simp) ?_; intro A4 c4 w4 hown hgr hob; refine Hid.out ?_)
  refine Lib.hid ?_
  have hl4 : Low w w4 := HA1.out.grown hgr (by simp) (fun j hj => (hO1.lt j hj).1)
  rw [List.nil_append, Nat.zero_add] at hown
  have hB4 := HB.out.below hl4
  have hO4 := Lib.hid hown
  have hz4 := hl4.size
  clear hgr hob hown hO1 hA1 HA1
  go_wp2_with (at_builtin; refine wpList_append_ns rfl (.tmp 14) (.tmp 15) _ rfl w.heap.size 3 i0 Try.underlying22 HI.out HZ0.out HZ1.out HZ2.out _ n c4 was rfl hO4.out B k d w.heap.size is_ rfl hB4 (by omega) hz4 ?_; intro A5 c5 w5 hown hgr hob; refine Hid.out ?_)
  refine Lib.hid ?_
  have hl5 : Low w w5 := hl4.grown hgr hz4 (fun j hj => (hO4.out.lt j hj).1)
  have hN5 := hown.bs (Nat.le_refl _)
  clear hgr hob hown hO4 hB4 hl4 hz4
  go_wp2_with fail
  refine (rnodes_any A5 (n + k) c5 (was ++ is_) w5 (by omega) hN5).mono ?_
  rintro e w6 ⟨A6, c6, rfl, _, hN6, _, hl⟩
  have HN6 := Lib.hid hN6
  have HPOS := Lib.hid (show ∀ x ∈ nodesP (was ++ is_), 0 < x from fun x hx => (((nodesP_nodes _).2 x).1 hx).2)
  have HRW := Lib.hid (show rowsS was is_ = (nodesP (was ++ is_)).map (rwsS was is_) from rfl)
  have HLN := Lib.hid (rowsS_len was is_)
  replace hl5 := Lib.hid (hl5.trans hl)
  replace HA := Lib.hid (HA.out.below hl5.out)
  replace HB := Lib.hid (HB.out.below hl5.out)
  clear hl hN5 hN6
  generalize nodesP (was ++ is_) = L at *
  obtain ⟨m, hm⟩ : ∃ m, m = L.length := ⟨_, rfl⟩
  rw [← hm] at HN6 HLN ⊢
  have hm400 : m ≤ 400 := by have h1 := HRF.out; have h2 := HA.out.len; have h3 := HB.out.len; have h4 := HLN.out; omega
  replace hm := Lib.hid hm
  clear HRF
  go_wp2_with fail
  go_loopw [6, 7] (fun v6 v7 wr => ∃ (i : Nat) (D : Option Addr) (e : Nat), i ≤ m ∧ v7 = .int .i64 i ∧ v6 = .slice D i e ∧ Hid (OwnE rwsE 30 wr w6.heap.size D i e ((L.take i).map (rwsS was is_))) ∧ Hid (Low w6 wr)) (fun _ v _ => m - (intOf v).toNat)
  case atStart => exact ⟨0, none, 0, by omega, rfl, rfl, Lib.hid (OwnE.none_ _ _ _ _), Lib.hid (Low.refl _)⟩
  case round =>
    obtain ⟨i, D, ec, hi, rfl, rfl, HO, hL⟩ := hrel
    by_cases hlt : i < m
    · have hN := HN6.out.below' hL.out hL.out.size
      obtain ⟨b6, o6, rfl, hb6, hc6⟩ := hN.at_ hlt
      have c6' := hc6 i hlt
      have hxL : L.getD i 0 ∈ L := by
        have e : L.getD i 0 = L[i]'(by rw [← hm.out]; exact hlt) := by simp [List.getD, show i < L.length by rw [← hm.out]; exact hlt]
        rw [e]
        exact List.getElem_mem _
      have hx0 := HPOS.out _ hxL
      have HTM := Lib.hid (show (L.take (i + 1)).map (rwsS was is_) = (L.take i).map (rwsS was is_) ++ [rwsS was is_ (L.getD i 0)] by
        have hil : i < L.length := by rw [← hm.out]; exact hlt
        rw [List.take_succ_eq_append_getElem hil, List.map_append]
        simp [List.getD, hil])
      generalize L.getD i 0 = x at *
      have HX := Lib.hid (show x ≠ 0 by omega)
      have hlt2 : (i : Int) < m := by omega
      clear hc6 hN hxL
      have HC6 := Lib.hid (And.intro hb6 c6')
      obtain ⟨wq, rfl⟩ : ∃ wq, wq = wr := ⟨_, rfl⟩
      go_wp2_with (with_reducible refine wpList_alloc_v rfl _ rfl _ rrow_zero ?_; intro w7 HZ hl7 hz7; refine Hid.out ?_)
      refine Lib.hid ?_
      replace HZ := Lib.hid HZ
      go_wp2_with ((refine wpList_store_v rfl 30 (.tmp 8) (.tmp 28) rfl wq.heap.size rfl (rwsC ⟨x, 0, 0, 0⟩) rfl _ _ HZ.out rfl rrow_size (rwsC_one _) ?_); intro w8 HG hb8 hz8; refine Hid.out ?_)
      refine Lib.hid ?_
      have hl8 : Low wq w8 := Below.trans hl7 hb8
      replace HG := Lib.hid HG
      have HL8 := Lib.hid hl8
      clear HZ hl7 hz7 hb8 hz8 hl8 c6'
      obtain ⟨g, hg⟩ : ∃ g, g = wq.heap.size := ⟨_, rfl⟩
      rw [← hg] at HG ⊢
      have HGW := Lib.hid (show ∀ (u u' : World) (h : Below g u u'), Below wq.heap.size u u' from fun u u' h => by rw [← hg]; exact h)
      have HGE := Lib.hid (show g = wq.heap.size from hg)
      clear hg
      have HAT := Lib.hid (show ∀ (j : Nat) (u : World), j ≤ 1000 → Low w6 u → Calls Try.prog 19 #[.slice A n c, .int .i64 j] u fun e w' => e = .returned (.int .i64 (atS was j)) ∧ w' = u from fun j u hj hu => rats_any A n c was j u (by omega) hj ((HA.out.below (hu.mono hl5.out.size)).more (Nat.le_trans hl5.out.size hu.size)))
      have HBT := Lib.hid (show ∀ (j : Nat) (u : World), j ≤ 1000 → Low w6 u → Calls Try.prog 19 #[.slice B k d, .int .i64 j] u fun e w' => e = .returned (.int .i64 (atS is_ j)) ∧ w' = u from fun j u hj hu => rats_any B k d is_ j u (by omega) hj ((HB.out.below (hu.mono hl5.out.size)).more (Nat.le_trans hl5.out.size hu.size)))
      have HLA := Lib.hid HA.out.len
      have HLB := Lib.hid HB.out.len
      go_wp2_with fail
      obtain ⟨wo, rfl⟩ : ∃ wo, wo = w8 := ⟨_, rfl⟩
      go_loopw [9] (fun v wy => ∃ j hd hs kp : Nat, (j ≤ n ∨ j ≤ k) ∧ v = .int .i64 j ∧ hd ≤ j ∧ hs ≤ j ∧ kp ≤ j ∧ Hid ((was.take j).count x = hd) ∧ Hid ((is_.take j).count x = hs) ∧ Hid ((bothS (was.take j) (is_.take j)).count x = kp) ∧ Hid (BlkV wy 30 g (rwsC ⟨x, hd, hs, kp⟩)) ∧ Hid (Low wq wy)) (fun v _ => n + k - (intOf v).toNat)
      case atStart => exact ⟨0, 0, 0, 0, by omega, rfl, by omega, by omega, by omega, Lib.hid (by simp), Lib.hid (by simp), Lib.hid (by simp [bothS]), HG, HL8⟩
      case round =>
        clear HG HL8
        obtain ⟨j, hd, hs, kp, hj, rfl, hh1, hh2, hh3, HC1, HC2, HC3, HGY, HLY⟩ := hrel
        have c0 : wr.cell? ⟨g, 0, none⟩ = some (.int .i64 x) := by rw [BlkV.cell HGY.out]; rfl
        have c1 : wr.cell? ⟨g, 1, none⟩ = some (.int .i64 hd) := by rw [BlkV.cell HGY.out]; rfl
        have c2 : wr.cell? ⟨g, 2, none⟩ = some (.int .i64 hs) := by rw [BlkV.cell HGY.out]; rfl
        have c3 : wr.cell? ⟨g, 3, none⟩ = some (.int .i64 kp) := by rw [BlkV.cell HGY.out]; rfl
        have f1 := BlkV.frozen HGY.out 1
        have f2 := BlkV.frozen HGY.out 2
        have f3 := BlkV.frozen HGY.out 3
        by_cases hin : j < n ∨ j < k
        · have HD1 := HC1
          have hj4 : j ≤ 1000 := by omega
          have HJA := Lib.hid (fun u hu => HAT.out j u hj4 hu)
          have HJB := Lib.hid (fun u hu => HBT.out j u hj4 hu)
          have N1 := Lib.hid (count_atS (t := was) HX.out j)
          have N2 := Lib.hid (count_atS (t := is_) HX.out j)
          have N3 := Lib.hid (count_bothS (was := was) (is_ := is_) HX.out j)
          rw [HC1.out] at N1
          rw [HC2.out] at N2
          rw [HC3.out] at N3
          clear HC1 HC2 HC3 HD1
          have hcd : ((j : Int) < n) ∨ (¬ (j : Int) < n ∧ (j : Int) < k) := by omega
          rcases hcd with g1 | ⟨g1, g2⟩
          all_goals
            by_cases e1 : atS was j = x
            · by_cases e2 : atS is_ j = x
              · replace N1 := Lib.hid (show (was.take (j + 1)).count x = hd + 1 by rw [N1.out, if_pos e1])
                replace N2 := Lib.hid (show (is_.take (j + 1)).count x = hs + 1 by rw [N2.out, if_pos e2])
                replace N3 := Lib.hid (show (bothS (was.take (j + 1)) (is_.take (j + 1))).count x = kp + 1 by rw [N3.out, if_pos ⟨e1, e2⟩])
                rw [e1] at HJA
                rw [e2] at HJB
                replace e1 := Lib.hid e1
                replace e2 := Lib.hid e2
                go_wp2_with fail
                refine wp_region_planS (fun y => Low wq y) (.rd 0 (.rd 1 (.rd 3 (.rd 4 (.rd 5 (.rd 6 (.rd 8 (.rd 9 (.rd 11 (.rd 12 (.rd 13 (.rd 14 (.act 2 (.rd 7 (.act 10 (.rd 15 (.rd 16 (.rd 17 (.done)))))))))))))))))))
                  (by kernel_rfl) (by kernel_rfl) (fun _ _ d _ _ h => by cases d <;> exact h) (by kernel_rfl) HLY.out.drew ?_
                replace HLY := Lib.hid HLY.out.drew
                change walkS _ _ _ _ _ _ wr.drew
                replace c1 := (show wr.drew.cell? _ = _ from c1)
                replace c2 := (show wr.drew.cell? _ = _ from c2)
                replace c3 := (show wr.drew.cell? _ = _ from c3)
                replace f1 := (show wr.drew.frozen? _ = _ from f1)
                replace f2 := (show wr.drew.frozen? _ = _ from f2)
                replace f3 := (show wr.drew.frozen? _ = _ from f3)
                replace HGY : Hid (BlkV wr.drew 30 g (rwsC ⟨x, hd, hs, kp⟩)) := HGY
                clear c0
                generalize wr.drew = wz at *
                iterate 12 (refine walkS_read (v := _) rfl (by rfl) (by intro y hy; have e0 := (hy.cell (p := ⟨b6, o6 + i, none⟩) HC6.out.1).trans HC6.out.2; clear hy; go_simp; try rfl) ?_; simp only [Act.put, List.setIfInBounds_toArray, List.set_cons_zero, List.set_cons_succ])
                refine walkS_act rfl (by rfl) (fun K hK => ?_)
                go_simp
                refine (HJA.out wz (Low.trans hL.out HLY.out)).mono ?_
                rintro e w9 ⟨rfl, rfl⟩
                go_simp
                refine hK _ _ HLY.out ?_
                clear hK K
                iterate 1 (refine walkS_read (v := _) rfl (by rfl) (by intro y hy; clear hy; go_simp; try rfl) ?_; simp only [Act.put, List.setIfInBounds_toArray, List.set_cons_zero, List.set_cons_succ])
                refine walkS_act rfl (by rfl) (fun K hK => ?_)
                go_simp
                refine (HJB.out _ (Low.trans hL.out HLY.out)).mono ?_
                rintro e w10 ⟨rfl, rfl⟩
                go_simp
                refine hK _ _ HLY.out ?_
                clear hK K
                iterate 3 (refine walkS_read (v := _) rfl (by rfl) (by intro y hy; clear hy; go_simp; try rfl) ?_; simp only [Act.put, List.setIfInBounds_toArray, List.set_cons_zero, List.set_cons_succ])
                unfold walkS
                go_wp2_with fail
                go_roundw
                case rel => exact ⟨j + 1, hd + 1, hs + 1, kp + 1, by omega, by go_num, by omega, by omega, by omega, Lib.hid N1.out, Lib.hid N2.out, Lib.hid N3.out, Lib.hid (by have h5 := HGY.out; exact (BlkV.set_ (BlkV.set_ (BlkV.set_ h5 1 (.int .i64 ((hd + 1 : Nat) : Int))) 2 (.int .i64 ((hs + 1 : Nat) : Int))) 3 (.int .i64 ((kp + 1 : Nat) : Int)))), Lib.hid (by have h5 := HLY.out; exact (Below.setCell (Below.setCell (Below.setCell h5 (by rw [HGE.out]; exact Nat.le_refl _) _) (by rw [HGE.out]; exact Nat.le_refl _) _) (by rw [HGE.out]; exact Nat.le_refl _) _))⟩
                case measure => simp [intOf]; omega
              · replace N1 := Lib.hid (show (was.take (j + 1)).count x = hd + 1 by rw [N1.out, if_pos e1])
                replace N2 := Lib.hid (show (is_.take (j + 1)).count x = hs + 0 by rw [N2.out, if_neg e2])
                replace N3 := Lib.hid (show (bothS (was.take (j + 1)) (is_.take (j + 1))).count x = kp + 0 by rw [N3.out, if_neg (fun h => e2 h.2)])
                have e2b : (atS is_ j == x) = false := by simpa using e2
                rw [e1] at HJA
                generalize atS is_ j = a2 at HJB e2 e2b
                replace e1 := Lib.hid e1
                replace e2 := Lib.hid e2
                go_wp2_with fail
                refine wp_region_planS (fun y => Low wq y) (.rd 0 (.rd 1 (.rd 3 (.rd 4 (.rd 5 (.rd 6 (.rd 8 (.rd 9 (.rd 11 (.rd 12 (.rd 13 (.rd 14 (.act 2 (.rd 7 (.act 10 (.rd 15 (.rd 16 (.rd 17 (.done)))))))))))))))))))
                  (by kernel_rfl) (by kernel_rfl) (fun _ _ d _ _ h => by cases d <;> exact h) (by kernel_rfl) HLY.out.drew ?_
                replace HLY := Lib.hid HLY.out.drew
                change walkS _ _ _ _ _ _ wr.drew
                replace c1 := (show wr.drew.cell? _ = _ from c1)
                replace c2 := (show wr.drew.cell? _ = _ from c2)
                replace c3 := (show wr.drew.cell? _ = _ from c3)
                replace f1 := (show wr.drew.frozen? _ = _ from f1)
                replace f2 := (show wr.drew.frozen? _ = _ from f2)
                replace f3 := (show wr.drew.frozen? _ = _ from f3)
                replace HGY : Hid (BlkV wr.drew 30 g (rwsC ⟨x, hd, hs, kp⟩)) := HGY
                clear c0
                generalize wr.drew = wz at *
                iterate 12 (refine walkS_read (v := _) rfl (by rfl) (by intro y hy; have e0 := (hy.cell (p := ⟨b6, o6 + i, none⟩) HC6.out.1).trans HC6.out.2; clear hy; go_simp; try rfl) ?_; simp only [Act.put, List.setIfInBounds_toArray, List.set_cons_zero, List.set_cons_succ])
                refine walkS_act rfl (by rfl) (fun K hK => ?_)
                go_simp
                refine (HJA.out wz (Low.trans hL.out HLY.out)).mono ?_
                rintro e w9 ⟨rfl, rfl⟩
                go_simp
                refine hK _ _ HLY.out ?_
                clear hK K
                iterate 1 (refine walkS_read (v := _) rfl (by rfl) (by intro y hy; clear hy; go_simp; try rfl) ?_; simp only [Act.put, List.setIfInBounds_toArray, List.set_cons_zero, List.set_cons_succ])
                refine walkS_act rfl (by rfl) (fun K hK => ?_)
                go_simp
                refine (HJB.out _ (Low.trans hL.out HLY.out)).mono ?_
                rintro e w10 ⟨rfl, rfl⟩
                go_simp
                refine hK _ _ HLY.out ?_
                clear hK K
                iterate 3 (refine walkS_read (v := _) rfl (by rfl) (by intro y hy; clear hy; go_simp; try rfl) ?_; simp only [Act.put, List.setIfInBounds_toArray, List.set_cons_zero, List.set_cons_succ])
                unfold walkS
                go_wp2_with fail
                go_roundw
                case rel => exact ⟨j + 1, hd + 1, hs, kp, by omega, by go_num, by omega, by omega, by omega, Lib.hid N1.out, Lib.hid N2.out, Lib.hid N3.out, Lib.hid (by have h5 := HGY.out; exact (BlkV.set_ h5 1 (.int .i64 ((hd + 1 : Nat) : Int)))), Lib.hid (by have h5 := HLY.out; exact (Below.setCell h5 (by rw [HGE.out]; exact Nat.le_refl _) _))⟩
                case measure => simp [intOf]; omega
            · by_cases e2 : atS is_ j = x
              · replace N1 := Lib.hid (show (was.take (j + 1)).count x = hd + 0 by rw [N1.out, if_neg e1])
                replace N2 := Lib.hid (show (is_.take (j + 1)).count x = hs + 1 by rw [N2.out, if_pos e2])
                replace N3 := Lib.hid (show (bothS (was.take (j + 1)) (is_.take (j + 1))).count x = kp + 0 by rw [N3.out, if_neg (fun h => e1 h.1)])
                have e1b : (atS was j == x) = false := by simpa using e1
                generalize atS was j = a1 at HJA e1 e1b
                rw [e2] at HJB
                replace e1 := Lib.hid e1
                replace e2 := Lib.hid e2
                go_wp2_with fail
                refine wp_region_planS (fun y => Low wq y) (.rd 0 (.rd 1 (.rd 3 (.rd 4 (.rd 5 (.rd 6 (.rd 8 (.rd 9 (.rd 11 (.rd 12 (.rd 13 (.rd 14 (.act 2 (.rd 7 (.act 10 (.rd 15 (.rd 16 (.rd 17 (.done)))))))))))))))))))
                  (by kernel_rfl) (by kernel_rfl) (fun _ _ d _ _ h => by cases d <;> exact h) (by kernel_rfl) HLY.out.drew ?_
                replace HLY := Lib.hid HLY.out.drew
                change walkS _ _ _ _ _ _ wr.drew
                replace c1 := (show wr.drew.cell? _ = _ from c1)
                replace c2 := (show wr.drew.cell? _ = _ from c2)
                replace c3 := (show wr.drew.cell? _ = _ from c3)
                replace f1 := (show wr.drew.frozen? _ = _ from f1)
                replace f2 := (show wr.drew.frozen? _ = _ from f2)
                replace f3 := (show wr.drew.frozen? _ = _ from f3)
                replace HGY : Hid (BlkV wr.drew 30 g (rwsC ⟨x, hd, hs, kp⟩)) := HGY
                clear c0
                generalize wr.drew = wz at *
                iterate 12 (refine walkS_read (v := _) rfl (by rfl) (by intro y hy; have e0 := (hy.cell (p := ⟨b6, o6 + i, none⟩) HC6.out.1).trans HC6.out.2; clear hy; go_simp; try rfl) ?_; simp only [Act.put, List.setIfInBounds_toArray, List.set_cons_zero, List.set_cons_succ])
                refine walkS_act rfl (by rfl) (fun K hK => ?_)
                go_simp
                refine (HJA.out wz (Low.trans hL.out HLY.out)).mono ?_
                rintro e w9 ⟨rfl, rfl⟩
                go_simp
                refine hK _ _ HLY.out ?_
                clear hK K
                iterate 1 (refine walkS_read (v := _) rfl (by rfl) (by intro y hy; clear hy; go_simp; try rfl) ?_; simp only [Act.put, List.setIfInBounds_toArray, List.set_cons_zero, List.set_cons_succ])
                refine walkS_act rfl (by rfl) (fun K hK => ?_)
                go_simp
                refine (HJB.out _ (Low.trans hL.out HLY.out)).mono ?_
                rintro e w10 ⟨rfl, rfl⟩
                go_simp
                refine hK _ _ HLY.out ?_
                clear hK K
                iterate 3 (refine walkS_read (v := _) rfl (by rfl) (by intro y hy; clear hy; go_simp; try rfl) ?_; simp only [Act.put, List.setIfInBounds_toArray, List.set_cons_zero, List.set_cons_succ])
                unfold walkS
                go_wp2_with fail
                go_roundw
                case rel => exact ⟨j + 1, hd, hs + 1, kp, by omega, by go_num, by omega, by omega, by omega, Lib.hid N1.out, Lib.hid N2.out, Lib.hid N3.out, Lib.hid (by have h5 := HGY.out; exact (BlkV.set_ h5 2 (.int .i64 ((hs + 1 : Nat) : Int)))), Lib.hid (by have h5 := HLY.out; exact (Below.setCell h5 (by rw [HGE.out]; exact Nat.le_refl _) _))⟩
                case measure => simp [intOf]; omega
              · replace N1 := Lib.hid (show (was.take (j + 1)).count x = hd + 0 by rw [N1.out, if_neg e1])
                replace N2 := Lib.hid (show (is_.take (j + 1)).count x = hs + 0 by rw [N2.out, if_neg e2])
                replace N3 := Lib.hid (show (bothS (was.take (j + 1)) (is_.take (j + 1))).count x = kp + 0 by rw [N3.out, if_neg (fun h => e1 h.1)])
                have e1b : (atS was j == x) = false := by simpa using e1
                have e2b : (atS is_ j == x) = false := by simpa using e2
                generalize atS was j = a1 at HJA e1 e1b
                generalize atS is_ j = a2 at HJB e2 e2b
                replace e1 := Lib.hid e1
                replace e2 := Lib.hid e2
                go_wp2_with fail
                refine wp_region_planS (fun y => Low wq y) (.rd 0 (.rd 1 (.rd 3 (.rd 4 (.rd 5 (.rd 6 (.rd 8 (.rd 9 (.rd 11 (.rd 12 (.rd 13 (.rd 14 (.act 2 (.rd 7 (.act 10 (.rd 15 (.rd 16 (.rd 17 (.done)))))))))))))))))))
                  (by kernel_rfl) (by kernel_rfl) (fun _ _ d _ _ h => by cases d <;> exact h) (by kernel_rfl) HLY.out.drew ?_
                replace HLY := Lib.hid HLY.out.drew
                change walkS _ _ _ _ _ _ wr.drew
                replace c1 := (show wr.drew.cell? _ = _ from c1)
                replace c2 := (show wr.drew.cell? _ = _ from c2)
                replace c3 := (show wr.drew.cell? _ = _ from c3)
                replace f1 := (show wr.drew.frozen? _ = _ from f1)
                replace f2 := (show wr.drew.frozen? _ = _ from f2)
                replace f3 := (show wr.drew.frozen? _ = _ from f3)
                replace HGY : Hid (BlkV wr.drew 30 g (rwsC ⟨x, hd, hs, kp⟩)) := HGY
                clear c0
                generalize wr.drew = wz at *
                iterate 12 (refine walkS_read (v := _) rfl (by rfl) (by intro y hy; have e0 := (hy.cell (p := ⟨b6, o6 + i, none⟩) HC6.out.1).trans HC6.out.2; clear hy; go_simp; try rfl) ?_; simp only [Act.put, List.setIfInBounds_toArray, List.set_cons_zero, List.set_cons_succ])
                refine walkS_act rfl (by rfl) (fun K hK => ?_)
                go_simp
                refine (HJA.out wz (Low.trans hL.out HLY.out)).mono ?_
                rintro e w9 ⟨rfl, rfl⟩
                go_simp
                refine hK _ _ HLY.out ?_
                clear hK K
                iterate 1 (refine walkS_read (v := _) rfl (by rfl) (by intro y hy; clear hy; go_simp; try rfl) ?_; simp only [Act.put, List.setIfInBounds_toArray, List.set_cons_zero, List.set_cons_succ])
                refine walkS_act rfl (by rfl) (fun K hK => ?_)
                go_simp
                refine (HJB.out _ (Low.trans hL.out HLY.out)).mono ?_
                rintro e w10 ⟨rfl, rfl⟩
                go_simp
                refine hK _ _ HLY.out ?_
                clear hK K
                iterate 3 (refine walkS_read (v := _) rfl (by rfl) (by intro y hy; clear hy; go_simp; try rfl) ?_; simp only [Act.put, List.setIfInBounds_toArray, List.set_cons_zero, List.set_cons_succ])
                unfold walkS
                go_wp2_with fail
                go_roundw
                case rel => exact ⟨j + 1, hd, hs, kp, by omega, by go_num, by omega, by omega, by omega, Lib.hid N1.out, Lib.hid N2.out, Lib.hid N3.out, Lib.hid (by have h5 := HGY.out; exact h5), Lib.hid (by have h5 := HLY.out; exact h5)⟩
                case measure => simp [intOf]; omega
        · have g1 : ¬ (j : Int) < n := by omega
          have g2 : ¬ (j : Int) < k := by omega
          have HRX := Lib.hid (show (⟨x, hd, hs, kp⟩ : Rws) = rwsS was is_ x by
            have h1 := HC1.out
            have h2 := HC2.out
            have h3 := HC3.out
            rw [List.take_of_length_le (by rw [HLA.out]; omega)] at h1
            rw [List.take_of_length_le (by rw [HLB.out]; omega)] at h2
            rw [bothS_all was is_ j (by rw [HLA.out]; omega) (by rw [HLB.out]; omega)] at h3
            unfold rwsS
            rw [h1, h2, h3])
          clear HC1 HC2 HC3 c0 c1 c2 c3 f1 f2 f3
          have hO2 := (HO.out.below HLY.out).below (Low.alloc wr (.cells #[.int .i64 x, .int .i64 hd, .int .i64 hs, .int .i64 kp] 30))
          have hE2 : Es rwsE (wr.alloc (.cells #[.int .i64 x, .int .i64 hd, .int .i64 hs, .int .i64 kp] 30)) (wr.heap.size + 1) (some ⟨wr.heap.size, 0, none⟩) 1 [⟨x, hd, hs, kp⟩] := Es.one_ (E := rwsE) wr 30 ⟨x, hd, hs, kp⟩ trivial (Nat.lt_succ_self _)
          have HL2 := Lib.hid ((hL.out.trans HLY.out).trans (Low.alloc wr (.cells #[.int .i64 x, .int .i64 hd, .int .i64 hs, .int .i64 kp] 30)))
          have hbs : w6.heap.size ≤ (wr.alloc (.cells #[.int .i64 x, .int .i64 hd, .int .i64 hs, .int .i64 kp] 30)).heap.size := HL2.out.size
          go_wp2_with (first
            | (refine wpList_load_vS rfl 30 (.tmp 8) rfl g rfl _ [.int .i64 x, .int .i64 hd, .int .i64 hs, .int .i64 kp] HGY.out _ Try.underlying30 rfl rrow_size ?_)
            | (at_builtin; refine wpList_append_es (E := rwsE) rfl (.tmp 75) (.tmp 77) _ rfl w6.heap.size 30 j0 _ 32 Try.underlying26 RI.out RZ0.out RZ1.out rfl RZ2.out D i ec _ rfl hO2 _ 1 1 (wr.heap.size + 1) [⟨x, hd, hs, kp⟩] rfl hE2 (by omega) (by omega) hbs ?_; intro A9 c9 w9 hown hgr hob; refine Hid.out ?_))
          refine Lib.hid ?_
          have HL9 := Lib.hid (show Low w6 w9 from Below.grown HL2.out hgr HL2.out.size (fun z hz => (hO2.lt z hz).1))
          rw [HRX.out, ← HTM.out] at hown
          have HO9 := Lib.hid hown
          clear hown hgr hob hO2 hE2 HL2 hbs
          go_wp2_with fail
          go_roundw
          case rel =>
            first
            | exact ⟨i + 1, A9, c9, by omega, by go_num, rfl, HO9, HL9⟩
            | ((repeat apply Exists.intro); exact ⟨⟨i + 1, A9, c9, by omega, by go_num, rfl, HO9, HL9⟩, rfl⟩)
          case measure => simp [intOf]; omega
    · obtain rfl : i = m := by omega
      have HE := Lib.hid (show (L.take i).map (rwsS was is_) = rowsS was is_ by rw [List.take_of_length_le (by rw [← hm.out]; exact Nat.le_refl _), HRW.out])
      rw [HE.out] at HO
      have hlt2 : ¬ (i : Int) < i := by omega
      go_wp2_with fail
      go_ret
      exact ⟨D, ec, by rw [HLN.out]; rfl, by rw [HLN.out]; exact HO.out.lies (Nat.le_refl _), hl5.out.trans hL.out⟩
end Go.Proofs.Ytjmpcmgnbamniaa
