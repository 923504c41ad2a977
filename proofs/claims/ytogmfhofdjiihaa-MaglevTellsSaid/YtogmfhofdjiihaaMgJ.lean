/- Stage 17: the document's Build. Conditions: at most 40 members; the size is an int. -/
import Derived.Test.YtogmfhofdjiihaaMgH
import Derived.Test.YtogmfhofdjiihaaMgI
import Derived.Deep.LoopGhost
import Derived.Laws.MakeOwn
import Derived.Deep.RegionHeld
set_option maxRecDepth 100000
namespace Go.Proofs.Ytogmfhofdjiihaa
open Go.RowKit
set_option linter.unusedVariables false

/-- a table handed back, or why there is none -/
def GivesT17 (w : World) (l : List Int) (er : Int) (e : Ending) (w' : World) : Prop := ∃ A c, e = .returned (.tuple #[.slice A l.length c, .int .i64 er]) ∧ l.length ≤ c ∧ Ns w' w'.heap.size A l.length l ∧ IFrom w.heap.size A l.length ∧ Low w w'
theorem GivesT17.no {w w' : World} {er : Int} (hl : Low w w') : GivesT17 w [] er (.returned (.tuple #[.slice none 0 0, .int .i64 er])) w' := ⟨none, 0, rfl, Nat.le_refl _, Ns.nil _ _ _, IFrom.nil _ _, hl⟩
theorem made_noughts (M : Nat) : madeCells #[.int .i64 0] M = (cellsN (List.replicate M 0)).toArray := by
  apply Array.ext
  · simp [madeCells, cellsN]
  · intro i h1 h2
    simp [madeCells, cellsN, Nat.mod_one]
theorem errM_not {m : Int} {l : List Mbr} (h : ¬ (m ≤ 251 ∧ primeB m = true)) : errM m l = 2 := by unfold errM; rw [if_neg h]
theorem errM_is {m : Int} {l : List Mbr} (h : m ≤ 251 ∧ primeB m = true) : errM m l = rightM l := by unfold errM; rw [if_pos h]
theorem buildM_no {a b m : Int} {l : List Mbr} (h : errM m l ≠ 0) : buildM a b m l = [] := by unfold buildM; rw [if_neg h]
theorem buildM_yes {a b m : Int} {l : List Mbr} (h : errM m l = 0) : buildM a b m l = tableM a b m l := by unfold buildM; rw [if_pos h]
theorem all_ordP {a b node m : Int} {M : Nat} (hM : M ≤ 1000) (h : OrderP M (ordP a b node m)) (j : Nat) (hj : j < (ordP a b node m).length) : ∃ x : Nat, x < M ∧ (ordP a b node m).getD j 0 = (x : Int) := by
  have h1 : (ordP a b node m).getD j 0 = (ordP a b node m)[j] := by simp [List.getD, hj]
  have h2 := h.1 _ (List.getElem_mem hj)
  exact ⟨((ordP a b node m)[j]).toNat, by omega, by rw [h1]; omega⟩

theorem turnP_mem {o t : List Int} {node x : Int} (h : x ∈ turnP o t node) : x ∈ t ∨ x = node := by
  unfold turnP at h
  split at h
  · exact .inl h
  · exact List.mem_or_eq_of_mem_set h
theorem afterP_mem {o : Int → List Int} {seq : List Int} {M : Nat} (h0 : 0 < seq.length) : ∀ k x, x ∈ afterP o seq M k → x = 0 ∨ x ∈ seq
  | 0, x, h => .inl (List.eq_of_mem_replicate h)
  | k + 1, x, h => by
    rw [afterP_succ] at h
    rcases turnP_mem h with h1 | h1
    · exact afterP_mem h0 k x h1
    · exact .inr (h1 ▸ cycP_mem h0 k)
/-- what stands while the table is built -/
structure BldI (a b : Int) (S : List Mbr) (g n : Nat) (A2 : Option Addr) (B0 : Nat) (w wr : World) (t : List Int) : Prop where
  t : BlkN wr 3 g t
  s : Es mbrE wr B0 A2 n S
  k : BlkV wr 32 w.heap.size (keyC a b)
  z : B0 ≤ wr.heap.size
  l : Low w wr
section
variable {a b : Int} {S : List Mbr} {g n : Nat} {A2 : Option Addr} {B0 : Nat} {w wr wr' : World} {t : List Int}
theorem BldI.low (h : BldI a b S g n A2 B0 w wr t) (hl : Low wr wr') : BldI a b S g n A2 B0 w wr' t :=
  ⟨h.t.below hl h.t.lt, h.s.below (hl.mono h.z), h.k.below hl h.k.lt, Nat.le_trans h.z hl.size, h.l.trans hl⟩
theorem BldI.drewN (h : BldI a b S g n A2 B0 w wr t) (q : Nat) : BldI a b S g n A2 B0 w (wr.drewN q) t :=
  ⟨h.t, h.s.keep fun _ _ => rfl, h.k, h.z, below_drewN h.l q⟩
theorem BldI.drew (h : BldI a b S g n A2 B0 w wr t) : BldI a b S g n A2 B0 w wr.drew t :=
  ⟨h.t, h.s.keep fun _ _ => rfl, h.k, h.z, h.l.drew⟩
theorem BldI.put (h : BldI a b S g n A2 B0 w wr t) (hF : EFrom (g + 1) A2 n) (hg : w.heap.size < g) (x : Nat) (v : Int) : BldI a b S g n A2 B0 w (wr.setCell ⟨g, x, none⟩ (.int .i64 v)) (t.set x v) :=
  ⟨h.t.set_ x v, h.s.upper hF fun p hp _ => World.cell?_setCell_far wr ⟨g, x, none⟩ p _ (by show g ≠ p.block; omega), h.k.far (by show w.heap.size ≠ g; omega) _, by simpa using h.z, h.l.setCell (Nat.le_of_lt hg) _⟩
end
theorem Ns.putG {w : World} {B n g : Nat} {A : Option Addr} {xs : List Int} (h : Ns w B A n xs) (hF : IFrom (g + 1) A n) (x : Nat) (v : Value) : Ns (w.setCell ⟨g, x, none⟩ v) B A n xs :=
  h.upperI hF fun p hp _ => World.cell?_setCell_far w ⟨g, x, none⟩ p _ (by show g ≠ p.block; omega)

set_option maxHeartbeats 6400000 in
set_option maxRecDepth 100000 in
theorem rbuild_any (a b m : Int) (A : Option Addr) (n c : Nat) (l : List Mbr) (w : World) (hm : i64ok m) (hn : n ≤ 40) (hb : Es mbrE w w.heap.size A n l) :
    Calls Try.prog 9 #[keyV a b, .int .i64 m, .slice A n c] w (GivesT17 w (buildM a b m l) (errM m l)) := by
  unfold keyV
  have HB := Lib.hid hb
  have HL := Lib.hid hb.len
  clear hb
  by_cases hbig : 251 < m
  · have HE := Lib.hid (errM_not (m := m) (l := l) (by omega))
    have HN := Lib.hid (buildM_no (a := a) (b := b) (m := m) (l := l) (by rw [HE.out]; omega))
    go_enter Try.func9, Try.ntmps9
    go_wp2_with ((with_reducible refine wpList_box_v rfl _ (.tmp 0) rfl (keyC a b) rfl ?_); intro w1 HK hL hz1; refine Hid.out ?_)
    refine Lib.hid ?_
    clear HK
    go_wp2_with fail
    go_ret2
    rw [HE.out, HN.out]
    exact GivesT17.no hL
  · go_enter Try.func9, Try.ntmps9
    go_wp2_with ((with_reducible refine wpList_box_v rfl _ (.tmp 0) rfl (keyC a b) rfl ?_); intro w1 HK hL hz1; refine Hid.out ?_)
    refine Lib.hid ?_
    replace HK := Lib.hid HK
    replace HB := Lib.hid (HB.out.below hL)
    replace hL := Lib.hid hL
    have hz1' := Lib.hid hz1
    clear hz1
    go_wp2_with fail
    refine (rprime_any m w1 hm).mono ?_
    rintro e w2 ⟨rfl, rfl⟩
    cases hpr : primeB m with
    | false =>
      have HE := Lib.hid (errM_not (m := m) (l := l) (by rw [hpr]; simp))
      have HN := Lib.hid (buildM_no (a := a) (b := b) (m := m) (l := l) (by rw [HE.out]; omega))
      clear hpr
      go_wp2_with fail
      go_ret2
      rw [HE.out, HN.out]
      exact GivesT17.no hL.out
    | true =>
      have HPR := Lib.hid hpr
      have HE := Lib.hid (errM_is (m := m) (l := l) ⟨by omega, hpr⟩)
      clear hpr
      go_wp2_with fail
      refine (rright_any A n c l w1 hn (HB.out.more hL.out.size)).mono ?_
      rintro e w2 ⟨rfl, hl⟩
      replace HK := Lib.hid (HK.out.below hl HK.out.lt)
      replace HB := Lib.hid (HB.out.below (hl.mono hL.out.size))
      replace hL := Lib.hid (hL.out.trans hl)
      have hz2 := Lib.hid (Nat.le_trans (Nat.le_of_eq hz1'.out.symm) hl.size)
      clear hl hz1'
      by_cases hr : rightM l = 0
      · have HR := Lib.hid (rightM_right hr)
        have HY := Lib.hid (buildM_yes (a := a) (b := b) (m := m) (l := l) (by rw [HE.out]; exact hr))
        rw [hr] at HE ⊢
        clear hr
        have hp2 := primeB_two HPR.out
        obtain ⟨M, rfl⟩ : ∃ M : Nat, m = M := ⟨m.toNat, by omega⟩
        have hM : M ≤ 251 := by omega
        have hM2 : 2 ≤ M := by omega
        obtain ⟨i0, hi, hz0, hz1, hz3⟩ := info_partsK info_intP
        have hmk : ∀ u : World, (Instr.makeSlice 27 (.int .i64 (M : Int)) (.int .i64 (M : Int))).run Try.prog u = .ok (.slice (some ⟨u.heap.size, 0, none⟩) M M) (u.alloc (.cells (madeCells #[.int .i64 0] M) 3)) := fun u => by
          have h := run_make (P := Try.prog) u 27 3 i0 (.int .i64 0) Try.underlying27 hi hz0 .i64 .i64 (M : Int) (M : Int) (by omega) (Int.le_refl _) (by rw [hz3]; omega) (by omega)
          simpa [hz1, Value.cells] using h
        rw [made_noughts M] at hmk
        have hz2o := hz2.out
        have HT := Lib.hid (show BlkN (w2.alloc (.cells (cellsN (List.replicate M 0)).toArray 3)) 3 w2.heap.size (List.replicate M 0) from BlkN.new _ _ _)
        have hlA := Low.alloc w2 (.cells (cellsN (List.replicate M 0)).toArray 3)
        have hsz : (w2.alloc (.cells (cellsN (List.replicate M 0)).toArray 3)).heap.size = w2.heap.size + 1 := by simp
        replace HK := Lib.hid (HK.out.below hlA HK.out.lt)
        replace HB := Lib.hid (HB.out.below (hlA.mono hL.out.size))
        replace hL := Lib.hid (hL.out.trans hlA)
        replace hsz := Lib.hid hsz
        clear hi hz0 hz1 hz3 hlA hz2
        go_wp2_with fail
        clear hmk
        generalize w2.alloc (.cells (cellsN (List.replicate M 0)).toArray 3) = w3 at *
        obtain ⟨g, hg⟩ : ∃ g, g = w2.heap.size := ⟨_, rfl⟩
        rw [← hg] at HT hsz hz2o ⊢
        clear hg
        refine (rtotal_any A n c l w3 hn (HB.out.more hL.out.size)).mono ?_
        rintro e w4 ⟨rfl, hl⟩
        replace HK := Lib.hid (HK.out.below hl HK.out.lt)
        replace HB := Lib.hid (HB.out.below (hl.mono hL.out.size))
        replace hL := Lib.hid (hL.out.trans hl)
        replace HT := Lib.hid (HT.out.below hl HT.out.lt)
        have hg4 := HT.out.lt
        clear hl hsz
        by_cases ht : totalM l = 0
        · have HTB := Lib.hid (show tableM a b M l = List.replicate M 0 by unfold tableM; rw [if_pos ht]; rfl)
          rw [ht]
          clear ht
          go_wp2_with fail
          go_ret2
          rw [HE.out, HY.out, HTB.out]
          have hln : (List.replicate M (0 : Int)).length = M := by simp
          refine ⟨some ⟨g, 0, none⟩, M, by rw [hln]; rfl, by rw [hln]; exact Nat.le_refl _, ?_, ?_, hL.out⟩
          · rw [hln]
            exact HT.out.bs (fun x hx => by obtain rfl := List.eq_of_mem_replicate hx; omega) hg4 hln
          · rw [hln]
            exact fun _ => ⟨g, 0, rfl, by omega⟩
        · have HTN := Lib.hid (turnsM (a := a) (b := b) (m := (M : Int)) (l := l) HPR.out (by omega) HR.out ht)
          have HTB := Lib.hid (show tableM a b M l = afterP (fun n => ordP a b n (M : Int)) (seqM (sortM l)) M M by unfold tableM; rw [if_neg ht]; rfl)
          have ht2 : (totalM l == 0) = false := by simpa using ht
          generalize totalM l = tt at ht ht2 ⊢
          go_wp2_with fail
          refine (rsorted_any A n c l w4 hn (HB.out.more hL.out.size)).mono ?_
          rintro e w5 ⟨A2, c2, rfl, hS, hSF, hl⟩
          clear ht ht2
          replace HK := Lib.hid (HK.out.below hl HK.out.lt)
          replace hL := Lib.hid (hL.out.trans hl)
          replace HT := Lib.hid (HT.out.below hl hg4)
          have HS := Lib.hid hS
          have HSF := Lib.hid (hSF.less (show g + 1 ≤ w4.heap.size from hg4))
          have hg5 : g < w5.heap.size := Nat.lt_of_lt_of_le hg4 hl.size
          obtain ⟨srt2, srt3, srt4⟩ := sortM_sorts HR.out.once
          have HSL := Lib.hid (show (sortM l).length = n by rw [srt4]; exact HL.out)
          have HSW := Lib.hid (show ∀ i, i < n → 1 ≤ ((sortM l).getD i zeroMbr).n ∧ ((sortM l).getD i zeroMbr).n ≤ 65535 ∧ 0 ≤ ((sortM l).getD i zeroMbr).w ∧ ((sortM l).getD i zeroMbr).w ≤ 4 from fun i hi => by
            rw [getD_memM _ i (by rw [HSL.out]; exact hi)]
            exact HR.out.ok _ ((srt3 _).1 (List.getElem_mem _)))
          clear hS hSF hl srt2 srt3 srt4 HB HR
          have HOP := Lib.hid (fun node : Int => ordP_order (a := a) (b := b) (node := node) HPR.out (by omega))
          have HAI := Lib.hid (show ∀ k, AllI (afterP (fun n => ordP a b n (M : Int)) (seqM (sortM l)) M k) from fun k x hx => by
            rcases afterP_mem HTN.out.some k x hx with h | h
            · omega
            · obtain ⟨y, hy, e⟩ := seqM_mem h
              obtain ⟨i, hi, e2⟩ := List.mem_iff_getElem.1 hy
              have h5 := HSW.out i (by rw [← HSL.out]; exact hi)
              rw [getD_memM _ i hi, e2, e] at h5
              omega)
          generalize sortM l = S at *
          have HCY := Lib.hid (show ∀ q i j, i < n → j < (S.getD i zeroMbr).w.toNat → cycP (seqM S) (q * (seqM S).length + preM S i + j) = (S.getD i zeroMbr).n from fun q i j hi hj => cycP_at S q i j (by rw [HSL.out]; exact hi) hj)
          have HPS := Lib.hid (show ∀ i, i < n → preM S (i + 1) = preM S i + (S.getD i zeroMbr).w.toNat from fun i hi => preM_succ S i (by rw [HSL.out]; exact hi))
          have HPA := Lib.hid (show preM S n = (seqM S).length by rw [← HSL.out]; exact preM_all S)
          have HWP := Lib.hid HTN.out.some
          have HFU := Lib.hid (show ∀ k, fullP (afterP (fun n => ordP a b n (M : Int)) (seqM S) M k) = true ↔ M ≤ k from afterP_iff HTN.out)
          have HEND := Lib.hid (show ∀ k, M ≤ k → afterP (fun n => ordP a b n (M : Int)) (seqM S) M k = afterP (fun n => ordP a b n (M : Int)) (seqM S) M M from fun k hk => (afterP_full HTN.out k hk).1)
          have HTL := Lib.hid (afterP_len (o := fun n => ordP a b n (M : Int)) (seq := seqM S) (M := M))
          have HTS := Lib.hid (show ∀ k, afterP (fun n => ordP a b n (M : Int)) (seqM S) M (k + 1) = turnP (ordP a b (cycP (seqM S) k) (M : Int)) (afterP (fun n => ordP a b n (M : Int)) (seqM S) M k) (cycP (seqM S) k) from fun k => afterP_succ k)
          have HT0 := Lib.hid (show afterP (fun n => ordP a b n (M : Int)) (seqM S) M 0 = List.replicate M 0 from rfl)
          clear HTN
          generalize (afterP (fun n => ordP a b n (M : Int)) (seqM S) M) = T at *
          obtain ⟨W, hW⟩ : ∃ W, W = (seqM S).length := ⟨_, rfl⟩
          rw [← hW] at HCY HPA HWP
          clear hW
          have HWPo := HWP.out
          have HBI := Lib.hid (show BldI a b S g n A2 w5.heap.size w w5 (T 0) from ⟨by rw [HT0.out]; exact HT.out, HS.out, HK.out, Nat.le_refl _, hL.out⟩)
          clear HT HS HK hL HT0
          go_wp2_with fail
          go_loopg [] M (fun gk wr => ∃ q, gk = M - q * W ∧ Hid (BldI a b S g n A2 w5.heap.size w wr (T (q * W))))
          case atStart => exact ⟨0, by omega, by rw [Nat.zero_mul]; exact HBI⟩
          case round =>
            clear HBI
            obtain ⟨q, hgk, HBI⟩ := hrel
            have HFT := Lib.hid (HFU.out (q * W))
            go_wp2_with fail
            refine (rfull_any (some ⟨g, 0, none⟩) M M (T (q * W)) wr (by omega) (HBI.out.t.bs (HAI.out _) HBI.out.t.lt (HTL.out _))).mono ?_
            rintro e w6 ⟨rfl, rfl⟩
            by_cases hfull : M ≤ q * W
            · rw [HFT.out.2 hfull]
              have HEN := Lib.hid (HEND.out _ hfull)
              go_wp2_with fail
              go_ret2
              rw [HE.out, HY.out, HTB.out]
              refine ⟨some ⟨g, 0, none⟩, M, by rw [HTL.out]; rfl, by rw [HTL.out]; exact Nat.le_refl _, ?_, ?_, HBI.out.l⟩
              · rw [HTL.out, ← HEN.out]
                exact HBI.out.t.bs (HAI.out _) HBI.out.t.lt (HTL.out _)
              · rw [HTL.out]
                exact fun _ => ⟨g, 0, rfl, by omega⟩
            · have hff : fullP (T (q * W)) = false := by
                rw [Bool.eq_false_iff]
                exact fun h => hfull (HFT.out.1 h)
              rw [hff]
              clear hff HFT
              go_wp2_with fail
              obtain ⟨wo, rfl⟩ : ∃ wo, wo = wr := ⟨_, rfl⟩
              go_loopw [10] (fun v wr => ∃ i : Nat, i ≤ n ∧ v = .int .i64 i ∧ Hid (BldI a b S g n A2 w5.heap.size w wr (T (q * W + preM S i)))) (fun v _ => n - (intOf v).toNat)
              case atStart => exact ⟨0, by omega, rfl, HBI⟩
              case round =>
                clear HBI
                obtain ⟨i, hi, rfl, HBI⟩ := hrel
                by_cases hlt : i < n
                · obtain ⟨b2, o2, rfl, hbb, hcc⟩ := HBI.out.s.mem (by omega)
                  clear hbb hcc
                  obtain ⟨hn1, hn2, hw0, hw4⟩ := HSW.out i hlt
                  have HCY2 := Lib.hid (fun j hj => HCY.out q i j hlt hj)
                  have HPS2 := Lib.hid (HPS.out i hlt)
                  have HMC := Lib.hid (show ∀ u, BldI a b S g n (some ⟨b2, o2, none⟩) w5.heap.size w u (T (q * W + preM S i)) → u.cell? ⟨b2, o2 + i * 2, none⟩ = some (.int .i64 (S.getD i zeroMbr).n) from fun u hu => (mbr_cells hu.s hlt).1)
                  have HMW := Lib.hid (show ∀ (u : World) (t : List Int), BldI a b S g n (some ⟨b2, o2, none⟩) w5.heap.size w u t → u.cell? ⟨b2, o2 + i * 2, none⟩ = some (.int .i64 (S.getD i zeroMbr).n) ∧ u.cell? ⟨b2, o2 + i * 2 + 1, none⟩ = some (.int .i64 (S.getD i zeroMbr).w) from fun u t hu => mbr_cells hu.s hlt)
                  generalize (S.getD i zeroMbr).n = nd at *
                  obtain ⟨wt, hwt⟩ : ∃ wt : Nat, (S.getD i zeroMbr).w = (wt : Int) := ⟨(S.getD i zeroMbr).w.toNat, by omega⟩
                  rw [hwt] at HCY2 HPS2 HMW hw0 hw4
                  clear hwt
                  have hlt2 : (i : Int) < n := by omega
                  go_wp2_with fail
                  refine wp_region_planS (fun y => BldI a b S g n (some ⟨b2, o2, none⟩) w5.heap.size w y (T (q * W + preM S i))) (.rd 0 (.rd 1 (.rd 2 (.rd 3 (.rd 4 (.rd 5 (.rd 6 (.act 7 (.rd 8 (.done))))))))))
                    (by kernel_rfl) (by kernel_rfl) (fun _ _ d _ _ h => by cases d <;> exact h) (by kernel_rfl) HBI.out.drew ?_
                  replace HBI := Lib.hid HBI.out.drew
                  generalize wr.drew = w7 at *
                  iterate 7 (refine walkS_read (v := _) rfl (by rfl) (by intro y hy; first | exact exec_load_v rfl hy.k _ Try.underlying32 rfl rkey_size | (have e0 := HMC.out y hy; clear hy; go_simp; try rfl)) ?_; simp only [Act.put, List.setIfInBounds_toArray, List.set_cons_zero, List.set_cons_succ])
                  refine walkS_act rfl (by rfl) (fun K hK => ?_)
                  go_simp
                  refine (rorder_any a b nd M w7 hm).mono ?_
                  rintro e w8 ⟨A11, c11, rfl, _, hN, hIF, hl⟩
                  have HBI8 := Lib.hid (HBI.out.low hl)
                  have HIF := Lib.hid (hIF.less (show g + 1 ≤ w7.heap.size from HBI.out.t.lt))
                  have HNO := Lib.hid hN
                  go_simp
                  refine hK _ _ HBI8.out ?_
                  clear hK K HBI HMC hl hN hIF
                  iterate 1 (refine walkS_read (v := _) rfl (by rfl) (by intro y hy; clear hy; go_simp; try rfl) ?_; simp only [Act.put, List.setIfInBounds_toArray, List.set_cons_zero, List.set_cons_succ])
                  unfold walkS
                  have HOR := Lib.hid (show OrderP M (ordP a b nd (M : Int)) from HOP.out nd)
                  have HOL := Lib.hid (show (ordP a b nd (M : Int)).length = M from ordP_len (decide_eq_true ⟨by omega, by omega⟩))
                  have HTS2 := Lib.hid (show ∀ j, j < wt → T (q * W + preM S i + (j + 1)) = turnP (ordP a b nd (M : Int)) (T (q * W + preM S i + j)) nd from fun j hj => by
                    have h5 := HTS.out (q * W + preM S i + j)
                    rw [HCY2.out j (by omega)] at h5
                    exact h5)
                  rw [HOL.out] at HNO HIF ⊢
                  have HOX := Lib.hid (show ∀ j, j < M → ∃ x : Nat, x < M ∧ (ordP a b nd (M : Int)).getD j 0 = (x : Int) from fun j hj => all_ordP (by omega) HOR.out j (by rw [HOL.out]; exact hj))
                  generalize ordP a b nd (M : Int) = O at *
                  go_wp2_with fail
                  obtain ⟨wo2, rfl⟩ : ∃ wo2, wo2 = w8 := ⟨_, rfl⟩
                  go_loopw [12] (fun v wr => ∃ j : Nat, j ≤ wt ∧ v = .int .i64 j ∧ Hid (BldI a b S g n (some ⟨b2, o2, none⟩) w5.heap.size w wr (T (q * W + preM S i + j))) ∧ Hid (Ns wr wo2.heap.size A11 M O) ∧ Hid (wo2.heap.size ≤ wr.heap.size)) (fun v _ => wt - (intOf v).toNat)
                  case atStart => exact ⟨0, by omega, rfl, HBI8, HNO, Lib.hid (Nat.le_refl _)⟩
                  case round =>
                    clear HBI8 HNO
                    obtain ⟨j, hj, rfl, HBI, HNO, HZO⟩ := hrel
                    obtain ⟨cn, cw⟩ := HMW.out wr _ HBI.out
                    by_cases hltj : j < wt
                    · have hltj2 : (j : Int) < wt := by omega
                      have HTN := Lib.hid (HTS2.out j hltj)
                      obtain ⟨t0, ht0⟩ : ∃ t0, t0 = T (q * W + preM S i + j) := ⟨_, rfl⟩
                      rw [← ht0] at HBI HTN
                      have HTLT := Lib.hid (show t0.length = M by rw [ht0]; exact HTL.out _)
                      clear ht0
                      go_wp2_with fail
                      clear cn cw
                      obtain ⟨wo3, rfl⟩ : ∃ wo3, wo3 = wr := ⟨_, rfl⟩
                      go_loopw [13, 14] (fun v13 v14 wr => ∃ (jj : Nat) (tk : Bool), jj ≤ M ∧ v14 = .int .i64 jj ∧ v13 = .bool tk ∧ Hid (Ns wr wo2.heap.size A11 M O) ∧ Hid (wo2.heap.size ≤ wr.heap.size) ∧ Hid ((tk = true ∧ BldI a b S g n (some ⟨b2, o2, none⟩) w5.heap.size w wr (turnP O t0 nd)) ∨ (tk = false ∧ BldI a b S g n (some ⟨b2, o2, none⟩) w5.heap.size w wr t0 ∧ ∀ z, z < jj → t0.getD (O.getD z 0).toNat 0 ≠ 0))) (fun _ v _ => M - (intOf v).toNat)
                      case atStart => exact ⟨0, false, by omega, rfl, rfl, HNO, HZO, Lib.hid (.inr ⟨rfl, HBI.out, fun z hz => by omega⟩)⟩
                      case round =>
                        clear HBI HNO HZO
                        obtain ⟨jj, tk, hjj, rfl, rfl, HNO, HZO, HTK⟩ := hrel
                        have hcase : (tk = true ∧ BldI a b S g n (some ⟨b2, o2, none⟩) w5.heap.size w wr (turnP O t0 nd)) ∨ ((tk = false ∧ jj < M) ∧ BldI a b S g n (some ⟨b2, o2, none⟩) w5.heap.size w wr t0 ∧ ∀ z, z < jj → t0.getD (O.getD z 0).toNat 0 ≠ 0) ∨ ((tk = false ∧ jj = M) ∧ BldI a b S g n (some ⟨b2, o2, none⟩) w5.heap.size w wr (turnP O t0 nd)) := by
                          rcases HTK.out with h | ⟨h1, h2, h3⟩
                          · exact .inl h
                          · by_cases h4 : jj < M
                            · exact .inr (.inl ⟨⟨h1, h4⟩, h2, h3⟩)
                            · refine .inr (.inr ⟨⟨h1, by omega⟩, ?_⟩)
                              rw [turnP_none (o := O) (t := t0) (node := nd) (by rw [HOL.out]; exact fun z hz => h3 z (by omega))]
                              exact h2
                        clear HTK
                        rcases hcase with ⟨rfl, hbi⟩ | ⟨⟨rfl, hlj⟩, hbi, hz⟩ | ⟨⟨rfl, rfl⟩, hbi⟩
                        · have HB9 := Lib.hid hbi
                          rw [← HTN.out] at HB9
                          clear hbi
                          by_cases hlj : jj < M
                          · have hlj2 : (jj : Int) < M := by omega
                            go_wp2_with fail
                            go_roundw
                            case rel =>
                              first
                              | exact ⟨j + 1, by omega, by go_num, HB9, HNO, HZO⟩
                              | ((repeat apply Exists.intro); exact ⟨⟨j + 1, by omega, by go_num, HB9, HNO, HZO⟩, rfl⟩)
                            case measure => simp [intOf]; omega
                          · have hlj2 : ¬ (jj : Int) < M := by omega
                            go_wp2_with fail
                            go_roundw
                            case rel =>
                              first
                              | exact ⟨j + 1, by omega, by go_num, HB9, HNO, HZO⟩
                              | ((repeat apply Exists.intro); exact ⟨⟨j + 1, by omega, by go_num, HB9, HNO, HZO⟩, rfl⟩)
                            case measure => simp [intOf]; omega
                        · obtain ⟨b11, o11, rfl, hbb, h11⟩ := HNO.out.at_ hlj
                          obtain ⟨x, hxM, hxO⟩ := HOX.out jj hlj
                          have c0 := h11 jj hlj
                          rw [hxO] at c0
                          have c1 := hbi.t.cell x
                          rw [cellsN_get (by rw [HTLT.out]; exact hxM)] at c1
                          have hx0 : ¬ (x : Int) < 0 := by omega
                          have hx1 : (x : Int) < M := by omega
                          have hlj2 : (jj : Int) < M := by omega
                          clear hbb h11
                          by_cases hfree : t0.getD x 0 = 0
                          · have HB9 := Lib.hid ((hbi.drew).put HSF.out (by omega) x nd)
                            have hta := turnP_at (o := O) (t := t0) (node := nd) (j := jj) (by rw [HOL.out]; exact hlj) hz (by rw [hxO]; exact hfree)
                            rw [hxO] at hta
                            replace hta : turnP O t0 nd = t0.set x nd := hta
                            rw [← hta] at HB9
                            have HN9 := Lib.hid ((HNO.out.drew).putG HIF.out x (.int .i64 nd))
                            have HZ9 := Lib.hid (show wo2.heap.size ≤ (wr.drew.setCell ⟨g, x, none⟩ (.int .i64 nd)).heap.size by have h9 := HZO.out; simpa using h9)
                            have cn := (HMW.out wr _ hbi).1
                            have f1 := hbi.t.frozen x
                            rw [hfree] at c1
                            clear hta hfree hz hbi HNO HZO
                            go_wp2_with fail
                            go_still_tail 11, (by kernel_rfl)
                            change wpList _ _ _ _ _ wr.drew
                            replace c1 := (show wr.drew.cell? _ = _ from c1)
                            replace f1 := (show wr.drew.frozen? _ = _ from f1)
                            clear cn c0
                            generalize wr.drew = w10 at *
                            go_wp2_with fail
                            go_roundw
                            case rel =>
                              first
                              | exact ⟨jj + 1, true, by omega, by go_num, rfl, HN9, HZ9, Lib.hid (.inl ⟨rfl, HB9.out⟩)⟩
                              | ((repeat apply Exists.intro); exact ⟨⟨jj + 1, true, by omega, by go_num, rfl, HN9, HZ9, Lib.hid (.inl ⟨rfl, HB9.out⟩)⟩, rfl⟩)
                            case measure => simp [intOf]; omega
                          · have HZZ := Lib.hid (show ∀ z, z < jj + 1 → t0.getD (O.getD z 0).toNat 0 ≠ 0 from fun z hzz => by
                              by_cases hzj : z = jj
                              · rw [hzj, hxO]
                                exact hfree
                              · exact hz z (by omega))
                            have HB9 := Lib.hid hbi
                            have hf2 : (t0.getD x 0 == 0) = false := by simpa using hfree
                            generalize t0.getD x 0 = y at hf2 hfree c1
                            clear hz hbi
                            go_wp2_with fail
                            go_roundw
                            case rel =>
                              first
                              | exact ⟨jj + 1, false, by omega, by go_num, rfl, HNO, HZO, Lib.hid (.inr ⟨rfl, HB9.out, HZZ.out⟩)⟩
                              | ((repeat apply Exists.intro); exact ⟨⟨jj + 1, false, by omega, by go_num, rfl, HNO, HZO, Lib.hid (.inr ⟨rfl, HB9.out, HZZ.out⟩)⟩, rfl⟩)
                            case measure => simp [intOf]; omega
                        · have HB9 := Lib.hid hbi
                          rw [← HTN.out] at HB9
                          clear hbi
                          have hlj2 : ¬ (jj : Int) < jj := by omega
                          go_wp2_with fail
                          go_roundw
                          case rel =>
                            first
                            | exact ⟨j + 1, by omega, by go_num, HB9, HNO, HZO⟩
                            | ((repeat apply Exists.intro); exact ⟨⟨j + 1, by omega, by go_num, HB9, HNO, HZO⟩, rfl⟩)
                          case measure => simp [intOf]; omega
                    · obtain rfl : j = wt := by omega
                      have hltj2 : ¬ (j : Int) < j := by omega
                      have HB9 := HBI
                      rw [show q * W + preM S i + j = q * W + preM S (i + 1) by rw [HPS2.out]; simp; omega] at HB9
                      go_wp2_with fail
                      go_roundw
                      case rel =>
                        first
                        | exact ⟨i + 1, by omega, by go_num, HB9⟩
                        | ((repeat apply Exists.intro); exact ⟨⟨i + 1, by omega, by go_num, HB9⟩, rfl⟩)
                      case measure => simp [intOf]; omega
                · obtain rfl : i = n := by omega
                  rw [HPA.out] at HBI
                  go_wp2_with fail
                  go_roundg (M - (q + 1) * W)
                  case measure => rw [hgk, Nat.add_mul]; omega
                  case rel =>
                    first
                    | exact ⟨q + 1, rfl, by rw [Nat.add_mul, Nat.one_mul]; exact HBI⟩
                    | ((repeat apply Exists.intro); exact ⟨⟨q + 1, rfl, by rw [Nat.add_mul, Nat.one_mul]; exact HBI⟩, rfl⟩)
      · have HN := Lib.hid (buildM_no (a := a) (b := b) (m := m) (l := l) (by rw [HE.out]; exact hr))
        have hr2 : (rightM l != 0) = true := by simpa using hr
        generalize rightM l = r at *
        go_wp2_with fail
        go_ret2
        rw [HE.out, HN.out]
        exact GivesT17.no hL.out
end Go.Proofs.Ytogmfhofdjiihaa
