/- Stage 21: the program's own table: a key taken out, the keys behind it go back; SlObj and SlNone are met. No condition but that it lies so. -/
import Derived.Test.YtipggnjjmpacmaaSlK
import Derived.Test.YtipggnjjmpacmaaSlG
set_option maxRecDepth 100000
namespace Go.Proofs.Ytipggnjjmpacmaa
open Go.RowKit
set_option linter.unusedVariables false
attribute [local go_sem] Oper.semAt_some

section
variable {w w' : World} {g b n : Nat} {cs : List (Option (Int × Int))}
/-- the cells that lie there, told from memory alone -/
def cellW (w : World) (b i : Nat) : Option (Int × Int) := match w.cell? ⟨b, i * 4, none⟩, w.cell? ⟨b, i * 4 + 1, none⟩, w.cell? ⟨b, i * 4 + 2, none⟩ with
  | some (.bool true), some (.int _ k), some (.int _ v) => some (k, v)
  | _, _, _ => none
def cellsW (w : World) (b n : Nat) : List (Option (Int × Int)) := (List.range n).map (cellW w b)
theorem SlAt.back (h : SlAt w g b n cs) : cellsW w b n = cs := by
  apply List.ext_getElem?
  intro i
  unfold cellsW
  by_cases hi : i < n
  · rw [List.getElem?_map, List.getElem?_range hi]
    rcases getS_some (cs := cs) (i := i) (by rw [h.len]; exact hi) with hf | ⟨p, hp⟩
    · obtain ⟨a1, a2, a3, _⟩ := h.free hf
      rw [hf]
      simp [cellW, a1]
    · obtain ⟨a1, a2, a3, _⟩ := h.key hp
      rw [hp]
      simp [cellW, a1, a2, a3]
  · rw [List.getElem?_eq_none (by simp; omega), List.getElem?_eq_none (by rw [h.len]; omega)]
def farW (n g i : Nat) : Nat := if farS n g i = 0 then n else farS n g i
theorem GapS.far {home : Int → Nat} {d : Nat} (h : GapS n home cs g d) : farW n g ((g + d) % n) = d := by
  have h1 := h.pos
  have h2 := h.le
  have h3 := h.lt
  unfold farW
  by_cases hd : d < n
  · rw [farS_uniq h3 hd, if_neg (by omega)]
  · obtain rfl : d = n := by omega
    rw [Nat.add_mod_right, Nat.mod_eq_of_lt h3, farS_self h3, if_pos rfl]
/-- what Out, of the table's own two blocks, is from one world on -/
def OutT (g b : Nat) (w w' : World) : Prop := Out (fun x => x = g ∨ x = b) w w'
theorem OutT.low (h : OutT g b w w') {w'' : World} (hl : Low w' w'') : OutT g b w w'' := Out.then_low h hl
theorem OutT.store (h : OutT g b w w') {w'' : World} (hb : Below b w' w'') (hz : w''.heap.size = w'.heap.size) (ho : ∀ k : Nat, k ≠ b → w''.heap[k]? = w'.heap[k]?) : OutT g b w w'' :=
  ⟨hb.os.trans h.os, hb.tape.trans h.tape, hb.output.trans h.output, by have := h.size; omega, fun x hx hF => (ho x (fun e => hF (.inr e))).trans (h.block x hx hF)⟩
/-- a gap left behind: the keys behind it go back -/
def EmptiedS (w : World) (g b n : Nat) (cs : List (Option (Int × Int))) (e : Ending) (w' : World) : Prop := e = .returned (.tuple #[]) ∧
    ∃ cs', SlAt w' g b n cs' ∧ StS n (homeS n) cs' ∧ (pairsS cs').Perm (pairsS cs) ∧ OutT g b w w'
set_option maxHeartbeats 3200000 in
set_option maxRecDepth 100000 in
theorem slempty_any (h : SlAt w g b n cs) (hs : StS n (homeS n) cs) {p : Int × Int} {i : Nat} (hi : cs[i]? = some (some p)) {cs0 : List (Option (Int × Int))} (hcs0 : cs0 = cs.set i none) : Calls Try.prog 20 #[.pointer (some ⟨g, 0, none⟩), .int .i64 i] w (EmptiedS w g b n cs0) := by
  have hlen := h.len
  have hn1 := h.n1
  have hn2 := h.n2
  have hin : i < n := by have := getS_lt hi; omega
  have hi2 : (i : Int) < n := by omega
  have HT := Lib.hid h
  have HHO := Lib.hid (fun k => homeS_lt (show 0 < n from hn1) k)
  have HG := Lib.hid (GapS.start hs hi)
  have c1 : w.cell? ⟨g, 1, none⟩ = some (.slice (some ⟨b, 0, none⟩) n n) := h.head.cell 1
  clear h hs hi
  go_enter Try.func20, Try.ntmps20
  go_wp2_with (refine wpList_store_elt (E := slE n) rfl _ _ _ rfl i rfl none rfl HT.out.row (slE_all _ _) trivial (by omega) slcell_size ?_; intro w2 h5 hb5 hz5 ho5; refine Hid.out ?_)
  refine Lib.hid ?_
  have T2 := Lib.hid (show SlAt w2 g b n (cs.set i none) from ⟨HT.out.head.same (ho5 g HT.out.ne), h5, by rw [List.length_set]; exact hlen, hn1, hn2⟩)
  have O2 := Lib.hid (OutT.store (g := g) (Out.refl _ w) hb5 hz5 ho5)
  clear h5 hb5 hz5 ho5 c1 HT
  rw [← hcs0] at T2 HG
  clear hcs0 hlen
  go_wp2_with fail
  refine (slnext_any T2.out hin).mono ?_
  rintro e w3 ⟨rfl, rfl⟩
  have HP := Lib.hid (List.Perm.refl (pairsS cs0))
  go_wp2_with fail
  go_loopw [1, 4, 5] (fun v1 v4 v5 wr => ∃ (gp d : Nat) (cs : List (Option (Int × Int))), v1 = .int .i64 gp ∧ v4 = .int .i64 ((gp + d) % n : Nat) ∧ Hid (GapS n (homeS n) cs gp d) ∧ Hid (SlAt wr g b n cs) ∧ Hid ((pairsS cs).Perm (pairsS cs0)) ∧ Hid (OutT g b w wr)) (fun v1 v4 _ wr => leftS n (homeS n) (cellsW wr b n) (farW n (intOf v1).toNat (intOf v4).toNat))
  case atStart => exact ⟨i, 1, cs0, rfl, rfl, HG, T2, HP, O2⟩
  case round =>
    clear HG T2 HP O2
    obtain ⟨gp, d, cs, rfl, rfl, HG, T, HP, HO⟩ := hrel
    have HLE := Lib.hid (show leftS n (homeS n) (cellsW wr b n) (farW n gp ((gp + d) % n)) = leftS n (homeS n) cs d by rw [T.out.back, HG.out.far])
    have hgn := HG.out.lt
    obtain ⟨i, hii⟩ : ∃ i, i = (gp + d) % n := ⟨_, rfl⟩
    have hi : i < n := by rw [hii]; exact Nat.mod_lt _ hn1
    have hi2 : (i : Int) < n := by omega
    have hg2 : (gp : Int) < n := by omega
    have HII := Lib.hid hii
    rw [← hii] at HLE ⊢
    clear hii
    have c1 : wr.cell? ⟨g, 1, none⟩ = some (.slice (some ⟨b, 0, none⟩) n n) := T.out.head.cell 1
    rcases getS_some (cs := cs) (i := i) (by rw [T.out.len]; exact hi) with hf | ⟨p, hp⟩
    · obtain ⟨q0, _, _, _⟩ := T.out.free hf
      have HS := Lib.hid (HG.out.stop HHO.out (by rw [← HII.out]; exact hf))
      clear hf
      go_wp2_with fail
      go_end0
      exact ⟨rfl, cs, T.out, HS.out, HP.out, HO.out⟩
    · obtain ⟨q0, _, _, q3⟩ := T.out.key hp
      have hh := HHO.out p.1
      by_cases hlt : farS n (homeS n p.1) gp < farS n (homeS n p.1) i
      · obtain ⟨m1, m2⟩ := HG.out.move HHO.out (by rw [← HII.out]; exact hp) (by rw [← HII.out]; exact hlt)
        have m3 := HG.out.less (home := homeS n) (by rw [← HII.out]; exact hp) (by rw [← HII.out]; exact hlt)
        rw [← HII.out] at m1 m2 m3
        have M1 := Lib.hid m1
        have M2 := Lib.hid m2
        have M3 := Lib.hid (leftS_move (n := n) (d := d) m3)
        have HPP := Lib.hid hp
        have hlt2 : (farS n (homeS n p.1) gp : Int) < (farS n (homeS n p.1) i : Int) := by omega
        have HF1 := Lib.hid (slfar_any T.out hh hgn)
        have HF2 := Lib.hid (slfar_any T.out hh hi)
        clear m1 m2 m3 hp hlt
        generalize homeS n p.1 = hm at *
        generalize farS n hm gp = f1 at *
        generalize farS n hm i = f2 at *
        go_wp2_with fail
        refine HF1.out.mono ?_
        rintro e w4 ⟨rfl, rfl⟩
        go_wp2_with fail
        refine HF2.out.mono ?_
        rintro e w5 ⟨rfl, rfl⟩
        go_wp2_with fail
        refine wp_region_planN (fun y => BlkV y 47 g [.func (.func 7) #[] #[], .slice (some ⟨b, 0, none⟩) n n])
          (.rd 0 (.rd 1 (.rd 2 (.rd 3 (.rd 4 (.rd 5 (.rd 6 (.rd 7 (.rd 8 (.rd 9 (.rd 10 (.rd 11 (.rd 12 (.rd 13 (.rd 14 (.rd 15 (.rd 17 (.act 16 (.rd 18 (.act 19 (.rd 20 (.act 21 (.done)))))))))))))))))))))))
          (by kernel_rfl) (by kernel_rfl) (by kernel_rfl) T.out.head ?_
        have hld : Low w5 w5.drew := Below.drew (Below.refl _ w5)
        have TD := Lib.hid (T.out.low hld)
        have HOD := Lib.hid (HO.out.low hld)
        clear hld T HO c1 q0 q3
        generalize w5.drew = w6 at *
        iterate 17 (refine walkS_read (v := _) rfl (by rfl) (by
                    intro y hy
                    have q1 : y.cell? ⟨g, 1, none⟩ = some (.slice (some ⟨b, 0, none⟩) n n) := hy.cell 1
                    clear hy
                    first
                    | (go_simp; try rfl)) ?_; simp only [Act.put, List.setIfInBounds_toArray, List.set_cons_zero, List.set_cons_succ])
        refine walkS_act rfl (by rfl) (fun K hK => ?_)
        refine wp_load_mid _ _ rfl b (i * 4) rfl _ _ (TD.out.row.eltAt (slE_all _ _) (i := i) (by rw [TD.out.len]; exact hi)) Try.underlying50 rfl (by rw [(slE n).len _ trivial]; exact slcell_size) ?_
        refine hK _ _ TD.out.head ?_
        clear hK K
        have HPX := Lib.hid (show cs.getD i (slE n).zero = some p by simp [List.getD, HPP.out])
        iterate 1 (refine walkS_read (v := _) rfl (by rfl) (by
                    intro y hy
                    have q1 : y.cell? ⟨g, 1, none⟩ = some (.slice (some ⟨b, 0, none⟩) n n) := hy.cell 1
                    clear hy
                    first
                    | (go_simp; try rfl)) ?_; simp only [Act.put, List.setIfInBounds_toArray, List.set_cons_zero, List.set_cons_succ])
        refine walkS_act rfl (by rfl) (fun K hK => ?_)
        refine wp_store_elt (E := slE n) _ _ _ rfl gp rfl (cs.getD i (slE n).zero) rfl TD.out.row (slE_all _ _) trivial (by rw [TD.out.len]; exact hgn) slcell_size (fun w7 h7 hb7 hz7 ho7 => ?_)
        have hh7 := TD.out.head.same (ho7 g TD.out.ne)
        refine hK _ _ hh7 ?_
        clear hK K
        have HO7 := Lib.hid (HOD.out.store hb7 hz7 ho7)
        have H7 := Lib.hid h7
        clear h7 hb7 hz7 ho7
        iterate 1 (refine walkS_read (v := _) rfl (by rfl) (by
                    intro y hy
                    have q1 : y.cell? ⟨g, 1, none⟩ = some (.slice (some ⟨b, 0, none⟩) n n) := hy.cell 1
                    clear hy
                    first
                    | (go_simp; try rfl)) ?_; simp only [Act.put, List.setIfInBounds_toArray, List.set_cons_zero, List.set_cons_succ])
        refine walkS_act rfl (by rfl) (fun K hK => ?_)
        refine wp_store_elt (E := slE n) _ _ _ rfl i rfl none rfl H7.out (slE_all _ _) trivial (by rw [List.length_set, TD.out.len]; exact hi) slcell_size (fun w8 h8 hb8 hz8 ho8 => ?_)
        have hh8 := hh7.same (ho8 g TD.out.ne)
        refine hK _ _ hh8 ?_
        clear hK K
        have HO8 := Lib.hid (HO7.out.store hb8 hz8 ho8)
        rw [HPX.out] at h8
        have T8 := Lib.hid (show SlAt w8 g b n ((cs.set gp (some p)).set i none) from ⟨hh8, h8, by rw [List.length_set, List.length_set]; exact TD.out.len, hn1, hn2⟩)
        unfold walkS orThrow
        dsimp only
        have HP8 := Lib.hid (M2.out.trans HP.out)
        have HF3 := Lib.hid (slnext_any T8.out hi)
        clear h8 hb8 hz8 ho8 hh8 hh7 H7 HO7 HOD TD HPX M2 HP HPP
        generalize (cs.set gp (some p)).set i none = cs8 at *
        go_wp2_with fail
        refine HF3.out.mono ?_
        rintro e w9 ⟨rfl, rfl⟩
        go_wp2_with fail
        go_roundw
        case rel => exact ⟨i, 1, cs8, rfl, congrArg (Value.int .i64) (by rw [Int.natCast_emod]; rfl), M1, T8, HP8, HO8⟩
        case measure =>
          have e1 : leftS n (homeS n) (cellsW w9 b n) (farW n i ((i + 1) % n)) = leftS n (homeS n) cs8 1 := by rw [T8.out.back, M1.out.far]
          have e2 := HLE.out
          have e3 := M3.out
          have e0 : (((i : Int) + 1) % (n : Int)).toNat = (i + 1) % n := by rw [show ((i : Int) + 1) % (n : Int) = (((i + 1) % n : Nat) : Int) by rw [Int.natCast_emod]; rfl]; exact Int.toNat_natCast _
          simp only [intOf, Int.toNat_natCast, e0]
          omega
      · have HS := Lib.hid (HG.out.skip HHO.out (by rw [← HII.out]; exact hp) (by rw [← HII.out]; exact hlt))
        have HM := Lib.hid (leftS_skip (homeS n) cs (HG.out.lt_of (by rw [← HII.out]; exact hp)))
        have hlt2 : ¬ (farS n (homeS n p.1) gp : Int) < (farS n (homeS n p.1) i : Int) := by omega
        have HF1 := Lib.hid (slfar_any T.out hh hgn)
        have HF2 := Lib.hid (slfar_any T.out hh hi)
        have HF3 := Lib.hid (slnext_any T.out hi)
        have HE := Lib.hid (show (i + 1) % n = (gp + (d + 1)) % n by rw [HII.out, mod_addS])
        clear hp hlt
        generalize homeS n p.1 = hm at *
        generalize farS n hm gp = f1 at *
        generalize farS n hm i = f2 at *
        go_wp2_with fail
        refine HF1.out.mono ?_
        rintro e w4 ⟨rfl, rfl⟩
        go_wp2_with fail
        refine HF2.out.mono ?_
        rintro e w5 ⟨rfl, rfl⟩
        go_wp2_with fail
        refine HF3.out.mono ?_
        rintro e w6 ⟨rfl, rfl⟩
        go_wp2_with fail
        go_roundw
        case rel => exact ⟨gp, d + 1, cs, rfl, congrArg (Value.int .i64) (by rw [← HE.out, Int.natCast_emod]; rfl), HS, T, HP, HO⟩
        case measure =>
          have e1 : leftS n (homeS n) (cellsW w6 b n) (farW n gp ((i + 1) % n)) = leftS n (homeS n) cs (d + 1) := by rw [HE.out, T.out.back, HS.out.far]
          have e2 := HLE.out
          have e3 := HM.out
          have e0 : (((i : Int) + 1) % (n : Int)).toNat = (i + 1) % n := by rw [show ((i : Int) + 1) % (n : Int) = (((i + 1) % n : Nat) : Int) by rw [Int.natCast_emod]; rfl]; exact Int.toNat_natCast _
          simp only [intOf, Int.toNat_natCast, e0]
          omega
end
end Go.Proofs.Ytipggnjjmpacmaa
