/- Stage 17: what maglev.Build tells. Conditions: at most 40 members; the size is an int. -/
import Derived.Test.YtogmfhofdjiihaaMgQ
set_option maxRecDepth 100000
namespace Go.Proofs.Ytogmfhofdjiihaa
open Go.RowKit
set_option linter.unusedVariables false

set_option maxHeartbeats 1600000 in
theorem mgfill_none (A : Option Addr) (c : Nat) (w : World) : Calls Try.prog 17 #[.slice A 0 c] w fun e w' => e = .returned (.tuple #[]) ∧ w = w' := by
  go_enter Try.func17, Try.ntmps17
  go_wp2_with fail
  go_step3
  go_wp2_with fail
  go_step3
  go_wp2_with fail
  go_loopg [] 0 (fun gk wr => w = wr)
  case atStart => rfl
  case round =>
    subst hrel
    go_wp2_with fail
    try rw [Exit.noGoto_normal]
    go_end0
    exact ⟨rfl, rfl⟩
theorem seq_noneM {l : List Mbr} (h : RightM l) : (seqM (sortM l)).length = 0 ↔ totalM l = 0 := by
  obtain ⟨h1, h2, h3⟩ := sortM_sorts h.once
  have hw : ∀ x ∈ sortM l, 0 ≤ x.w := fun x hx => (h.ok x ((h2 x).1 hx)).2.2.1
  have h4 := seqM_len hw
  rw [sum_sortM h] at h4
  have h5 : totalM l = (l.map Mbr.w).sum := by unfold totalM; rw [rightM_of h, if_pos rfl]
  omega
theorem tableM_small {a b : Int} {M : Nat} {l : List Mbr} (hp : primeB (M : Int) = true) (hM : (M : Int) ≤ 1000) (h : RightM l) : AllI (tableM a b M l) := by
  unfold tableM
  split
  · intro x hx
    have := List.eq_of_mem_replicate hx
    omega
  · rename_i ht
    intro x hx
    rcases afterP_mem (turnsM (a := a) (b := b) hp hM h ht).some _ x hx with h1 | h1
    · omega
    · obtain ⟨y, hy, e⟩ := seqM_mem h1
      obtain ⟨_, h2, _⟩ := sortM_sorts h.once
      have := h.ok y ((h2 y).1 hy)
      omega
theorem seq_leM : ∀ {l : List Mbr}, (∀ x ∈ l, x.w ≤ 4) → (seqM l).length ≤ 4 * l.length
  | [], _ => by simp [seqM]
  | y :: r, h => by
    have h1 := h y List.mem_cons_self
    have h2 := seq_leM (l := r) fun x hx => h x (List.mem_cons_of_mem _ hx)
    rw [seqM_cons, List.length_append, List.length_replicate, List.length_cons]
    omega

set_option maxHeartbeats 6400000 in
set_option maxRecDepth 100000 in
theorem mgbuild_any : MgBuilds := by
  intro a b m A n c l w hm hn hnc hb
  unfold keyV
  have HB := Lib.hid hb
  have HPP := Lib.hid pmprime_any
  have HRR := Lib.hid mgright_any
  clear hb
  by_cases hbig : 251 < m
  · have HE := Lib.hid (errM_not (m := m) (l := l) (by omega))
    have HN := Lib.hid (buildM_no (a := a) (b := b) (m := m) (l := l) (by rw [HE.out]; omega))
    go_enter Try.func8, Try.ntmps8
    go_wp2_with ((with_reducible refine wpList_box_v rfl _ (.tmp 0) rfl (keyC a b) rfl ?_); intro w1 HK hL hz1; refine Hid.out ?_)
    refine Lib.hid ?_
    clear HK
    go_wp2_with fail
    go_ret2
    rw [HE.out, HN.out]
    exact ⟨none, 0, rfl, Ns.nil _ _ _, hL⟩
  · go_enter Try.func8, Try.ntmps8
    go_wp2_with ((with_reducible refine wpList_box_v rfl _ (.tmp 0) rfl (keyC a b) rfl ?_); intro w1 HK hL hz1; refine Hid.out ?_)
    refine Lib.hid ?_
    replace HK := Lib.hid HK
    replace HB := Lib.hid (HB.out.below' hL hL.size)
    replace hL := Lib.hid hL
    clear hz1
    go_wp2_with fail
    refine (HPP.out m w1 hm).mono ?_
    rintro e w2 ⟨rfl, hl⟩
    replace HK := Lib.hid (HK.out.below hl HK.out.lt)
    replace HB := Lib.hid (HB.out.below' hl hl.size)
    replace hL := Lib.hid (hL.out.trans hl)
    clear hl
    cases hpr : primeB m with
    | false =>
      have HE := Lib.hid (errM_not (m := m) (l := l) (by rw [hpr]; simp))
      have HN := Lib.hid (buildM_no (a := a) (b := b) (m := m) (l := l) (by rw [HE.out]; omega))
      clear hpr
      go_wp2_with fail
      go_ret2
      rw [HE.out, HN.out]
      exact ⟨none, 0, rfl, Ns.nil _ _ _, hL.out⟩
    | true =>
      have HPR := Lib.hid hpr
      have HE := Lib.hid (errM_is (m := m) (l := l) ⟨by omega, hpr⟩)
      clear hpr
      go_wp2_with fail
      refine (HRR.out A n c l w2 hn hnc HB.out).mono ?_
      rintro e w3 ⟨rfl, hl⟩
      replace HK := Lib.hid (HK.out.below hl HK.out.lt)
      replace HB := Lib.hid (HB.out.below' hl hl.size)
      replace hL := Lib.hid (hL.out.trans hl)
      clear hl
      by_cases hr : rightM l = 0
      · have HR := Lib.hid (rightM_right hr)
        have HY := Lib.hid (buildM_yes (a := a) (b := b) (m := m) (l := l) (by rw [HE.out]; exact hr))
        rw [hr] at HE ⊢
        clear hr
        have hp2 := primeB_two HPR.out
        obtain ⟨M, rfl⟩ : ∃ M : Nat, m = M := ⟨m.toNat, by omega⟩
        have hM : M ≤ 251 := by omega
        have hM2 : 2 ≤ M := by omega
        obtain ⟨i0, hi, hz0, hz1, hz3⟩ := info_partsK info_intP
        have hmk : ∀ u : World, (Instr.makeSlice 27 (.int .i64 (M : Int)) (.int .i64 (M : Int))).run Try.prog u = .ok (.slice (some ⟨u.heap.size, 0, none⟩) M M) (u.alloc (.cells (madeCells #[.int .i64 0] M) 3)) := fun u => by
          have h := run_make (P := Try.prog) u 27 3 i0 (.int .i64 0) Try.underlying27 hi hz0 .i64 .i64 (M : Int) (M : Int) (by omega) (Int.le_refl _) (by rw [hz3]; omega) (by omega)
          simpa [hz1, Value.cells] using h
        rw [made_noughts M] at hmk
        have HT := Lib.hid (show BlkN (w3.alloc (.cells (cellsN (List.replicate M 0)).toArray 3)) 3 w3.heap.size (List.replicate M 0) from BlkN.new _ _ _)
        have hlA := Low.alloc w3 (.cells (cellsN (List.replicate M 0)).toArray 3)
        have hgz := Lib.hid hL.out.size
        have hK0 := HK.out.lt
        have hc4 := HK.out.below hlA HK.out.lt
        replace HB := Lib.hid (HB.out.below' hlA hlA.size)
        replace hL := Lib.hid (hL.out.trans hlA)
        replace HK := Lib.hid hc4
        clear hi hz0 hz1 hz3 hlA hK0 hc4
        go_wp2_with ((refine wpList_load_v rfl 24 (.tmp 3) rfl w.heap.size rfl _ (keyC a b) HK.out _ Try.underlying24 rfl key_size ?_); refine Hid.out ?_)
        refine Lib.hid ?_
        clear hmk
        generalize w3.alloc (.cells (cellsN (List.replicate M 0)).toArray 3) = w4 at *
        generalize w3.heap.size = g at *
        have HRD := Lib.hid (mground_any a b g M A n c l (List.replicate M 0) w4 hM2 (by omega) hn HR.out HT.out HB.out)
        have HSN := Lib.hid (seq_noneM HR.out)
        unfold keyV at HRD
        go_wp2_with fail
        refine HRD.out.mono ?_
        rintro e w5 ⟨A5, c5, hs, rfl, hri, hrs, hl⟩
        replace hL := Lib.hid (hL.out.trans hl)
        have HRI := Lib.hid hri
        have HRS := Lib.hid hrs
        clear hl hri hrs HRD HT HB HK
        have HDONE : Hid (∀ w6, BlkN w6 3 g (tableM a b M l) → Below g w5 w6 → GivesU17 w (buildM a b M l) (errM M l) (.returned (.tuple #[.slice (some ⟨g, 0, none⟩) M M, .int .i64 0])) w6) := Lib.hid fun w6 h1 h2 => by
          have hln : (tableM a b M l).length = M := tableM_len a b M l
          rw [HE.out, HY.out]
          refine ⟨some ⟨g, 0, none⟩, M, by rw [hln], ?_, Below.trans hL.out (h2.mono hgz.out)⟩
          rw [hln]
          refine h1.bs ?_ h1.lt hln
          exact tableM_small HPR.out (by omega) HR.out
        by_cases ht : totalM l = 0
        · have hW : (seqM (sortM l)).length = 0 := HSN.out.2 ht
          have HTB := Lib.hid (show tableM a b M l = List.replicate M 0 by unfold tableM; rw [if_pos ht]; rfl)
          rw [hW] at HRI ⊢
          rw [HTB.out] at HDONE
          have HTT := Lib.hid HRI.out.tab
          clear hW ht
          go_wp2_with fail
          refine (mgfill_none A5 c5 w5).mono ?_
          rintro e w6 ⟨rfl, rfl⟩
          go_wp2_with fail
          go_ret2
          exact HDONE.out _ HTT.out (Below.refl _ _)
        · have hW : (seqM (sortM l)).length ≠ 0 := fun h => ht (HSN.out.1 h)
          have HTN := Lib.hid (turnsM (a := a) (b := b) (m := (M : Int)) (l := l) HPR.out (by omega) HR.out ht)
          have HTB := Lib.hid (show tableM a b M l = afterP (fun n => ordP a b n (M : Int)) (seqM (sortM l)) M M by unfold tableM; rw [if_neg ht]; rfl)
          have hW2 : (seqM (sortM l)).length ≤ 1000 := by
            obtain ⟨_, h2, h3⟩ := sortM_sorts HR.out.once
            have h4 := seq_leM (l := sortM l) fun x hx => (HR.out.ok x ((h2 x).1 hx)).2.2.2
            have := HR.out.few
            omega
          have HFS := Lib.hid (mgfill_some w5.heap.size g M (seqM (sortM l)).length A5 c5 hs (seqM (sortM l)) (fun n => ordP a b n (M : Int)) w5 (by omega) hW2 (by omega) HTN.out rfl (fun nd _ => ordP_len (decide_eq_true ⟨by omega, by omega⟩)) HRS.out HRI.out)
          rw [HTB.out] at HDONE
          generalize (seqM (sortM l)).length = W at *
          clear hW ht hW2 HTN
          go_wp2_with fail
          refine HFS.out.mono ?_
          rintro e w6 ⟨rfl, h1, h2⟩
          have HD := Lib.hid (HDONE.out _ h1 h2)
          clear h1 h2
          go_wp2_with fail
          go_ret2
          exact HD.out
      · have HN := Lib.hid (buildM_no (a := a) (b := b) (m := m) (l := l) (by rw [HE.out]; exact hr))
        have hr2 : (rightM l == 0) = false := by simpa using hr
        generalize rightM l = r at *
        go_wp2_with fail
        go_ret2
        rw [HE.out, HN.out]
        exact ⟨none, 0, rfl, Ns.nil _ _ _, hL.out⟩
end Go.Proofs.Ytogmfhofdjiihaa
