/- What maglev.Count, Right and Total tell. Conditions: at most 40 members, 1000 slots. -/
import Derived.Test.YtogmfhofdjiihaaMgK
import Derived.Maps.OwnSet
set_option maxRecDepth 100000
namespace Go.Proofs.Ytogmfhofdjiihaa
open Go.RowKit Go.Maps
set_option linter.unusedVariables false

theorem take_countM (t : List Int) (node : Int) (i : Nat) (h : i < t.length) : (t.take (i + 1)).count node = (t.take i).count node + (if t.getD i 0 = node then 1 else 0) := by
  rw [take_oneP _ _ h, List.count_append]
  simp [List.count_singleton]
set_option maxHeartbeats 1600000 in
theorem mgcount_any : MgCounts := by
  intro A n c t node w hn hnode hb
  have HL := Lib.hid hb.len
  go_enter Try.func15, Try.ntmps15
  go_wp2_with fail
  go_loop [5, 10] (fun v5 v10 => ∃ (i s : Nat), i ≤ n ∧ v10 = .int .i64 i ∧ v5 = .int .i64 s ∧ s ≤ i ∧ Hid (s = (t.take i).count node)) (fun _ v10 => n - (intOf v10).toNat)
  case atStart => exact ⟨0, 0, by omega, rfl, rfl, by omega, Lib.hid rfl⟩
  case round =>
    obtain ⟨i, s, hi, rfl, rfl, hs, HS⟩ := hrel
    by_cases hlt : i < n
    · obtain ⟨b, o, rfl, _, hc⟩ := hb.at_ hlt
      have c0 := hc i hlt
      clear hc
      have HT := Lib.hid (take_countM t node i (by rw [HL.out]; exact hlt))
      rw [← HS.out] at HT
      generalize t.getD i 0 = x at *
      by_cases hx : x = node
      · rw [if_pos hx] at HT
        subst hx
        clear HS
        go_wp2_with fail
        go_round
        case rel => exact ⟨i + 1, s + 1, by omega, by go_num, by go_num, by omega, Lib.hid HT.out.symm⟩
        case measure => simp [intOf]; omega
      · rw [if_neg hx] at HT
        have hx2 : (x == node) = false := by simpa using hx
        clear HS hx
        go_wp2_with fail
        go_round
        case rel => exact ⟨i + 1, s, by omega, by go_num, rfl, by omega, Lib.hid (by rw [HT.out]; rfl)⟩
        case measure => simp [intOf]; omega
    · obtain rfl : i = n := by omega
      have HE := Lib.hid (show s = t.count node by rw [HS.out, List.take_of_length_le (by rw [HL.out]; exact Nat.le_refl _)])
      go_wp2_with fail
      go_ret
      exact ⟨by rw [HE.out]; rfl, Low.refl _⟩

/-- the nodes of the first k members, as a set -/
def kM (x : Mbr) : Lit := .int .i64 x.n
def setM {H : Type} (l : List Mbr) (k : Nat) : DataW H := setOf (.agg []) ((l.take k).map kM)
theorem setM_zero {H : Type} (l : List Mbr) : setM (H := H) l 0 = .map [] := by simp [setM, setOf]
theorem setM_succ {H : Type} (l : List Mbr) (k : Nat) (hk : k < l.length) : setM (H := H) l (k + 1) = (setM l k).put (kM (l.getD k zeroMbr)) (.agg []) := by
  unfold setM
  rw [List.take_succ_eq_append_getElem hk, List.map_append, List.map_singleton, setOf_snoc, getD_memM l k hk]
theorem sameM (x y : Mbr) : (kM x).sameKey (kM y) = (x.n == y.n) := by
  unfold kM
  by_cases h : x.n = y.n
  · rw [h]
    exact (WideAt.sameKey_self (a := .int .i64 y.n) trivial).trans (by simp)
  · have h2 : (x.n == y.n) = false := by simpa using h
    rw [h2]
    cases hs : (Lit.int .i64 x.n).sameKey (.int .i64 y.n)
    · rfl
    · have := WideAt.sameKey_eq hs
      injection this with _ e
      exact absurd e h
theorem has_setM {H : Type} (l : List Mbr) (k : Nat) : Maps.has (setM (H := H) l k) (kM (l.getD k zeroMbr)) = twiceM l k := by
  unfold setM twiceM
  rw [has_setOf _ _ _ (fun y hy => by obtain ⟨z, hz, rfl⟩ := List.mem_map.1 hy; exact trivial), List.any_map]
  congr 1
  funext y
  exact sameM y _
def mbrC (x : Mbr) : List Value := [.int .i64 x.n, .int .i64 x.w]
theorem mbrC_one (x : Mbr) : (mbrC x).toArray.all (·.oneCell') = true := by simp [mbrC, Value.oneCell']
theorem heapM {H : Type} {w w' : World} {P : Program} {k : TypeId} {R : Value → Option (DataW H × List MemPlace)} {b n : Nat} {D : DataW H} (h : w.ownsMap P k R b n D) (e : w'.heap[b]? = w.heap[b]?) : w'.ownsMap P k R b n D := by
  obtain ⟨es, clock, hb, F, hs, hD⟩ := h
  exact ⟨es, clock, e.trans hb, F, hs, hD⟩
theorem keyedM : Keyed Try.prog 3 := int_keyed Try.underlying3
theorem keyM (x : Mbr) (h : mbrE.ok x) : keyOf Try.prog 3 (.int .i64 x.n) = some (kM x) := keyOf_int_mk Try.underlying3 (by
  have := h.1
  unfold i64ok at this
  simp [Lit.wf, IntKind.min, IntKind.max, IntKind.bits, IntKind.signed]
  omega)
theorem zeroUnitM (w : World) : (zeroValue 49).run Try.prog w = .ok (.agg #[]) w := by kernel_rfl
theorem info_mbr0 : (Try.prog.info? 40).map (·.zero) = some (some (.agg (mbrC zeroMbr).toArray)) := by kernel_rfl

set_option maxHeartbeats 6400000 in
set_option maxRecDepth 100000 in
theorem mgright_any : MgRights := by
  intro A n c l w hn hnc hb
  have hmm := @run_makeMap Try.prog
  have HB := Lib.hid hb
  have HL := Lib.hid hb.len
  clear hb
  go_enter Try.func11, Try.ntmps11
  go_wp2_with fail
  go_loopw [11] (fun v wr => ∃ i : Nat, i ≤ n ∧ v = .int .i64 i ∧ Hid (∀ j, j < i → wrongM l j = 0) ∧ Hid (Es mbrE wr w.heap.size A n l) ∧ Hid (wr.ownsMap Try.prog 3 unitElem w.heap.size i (setM (H := Unit) l i)) ∧ Hid (Low w wr) ∧ Hid (w.heap.size + 1 ≤ wr.heap.size)) (fun v _ => n - (intOf v).toNat)
  case atStart => exact ⟨0, by omega, rfl, Lib.hid fun j h => by omega, Lib.hid (HB.out.below (Low.alloc _ _)), Lib.hid (by rw [setM_zero]; exact World.ownsMap_made _ _ _ _), Lib.hid (Low.alloc _ _), Lib.hid (by simp)⟩
  case round =>
    clear hmm HB
    obtain ⟨i, hi, rfl, HW, HB, HOM, hL, HSZ⟩ := hrel
    by_cases hlt : i < n
    · obtain ⟨b, o, rfl, hbb, hcc⟩ := HB.out.mem (by omega)
      have HR : Hid (wr.rangeAt b (o + i * 2) (mbrC (l.getD i zeroMbr))) := Lib.hid (HB.out.at_ hlt).2
      have HXO : Hid (mbrE.ok (l.getD i zeroMbr)) := Lib.hid (Elt.all_getD (E := mbrE) HB.out.all i)
      have HBAD := Lib.hid (fun h => rightM_first l i (by rw [HL.out]; exact hlt) HW.out (by rw [wrongM_bad (l := l) (i := i) h]; omega))
      have HBD := Lib.hid (show badM (l.getD i zeroMbr) = decide ((l.getD i zeroMbr).n < 1 ∨ 65535 < (l.getD i zeroMbr).n ∨ (l.getD i zeroMbr).w < 0 ∨ 4 < (l.getD i zeroMbr).w) from rfl)
      have HWB := Lib.hid (@wrongM_bad l i)
      have HFIN := Lib.hid (show badM (l.getD i zeroMbr) = false → twiceM l i = false → ∀ j, j < i + 1 → wrongM l j = 0 from fun hbad ht j hj => by
        by_cases hjk : j = i
        · rw [hjk]
          unfold wrongM
          rw [hbad, ht]
          rfl
        · exact HW.out j (by omega))
      have HTWI := Lib.hid (show badM (l.getD i zeroMbr) = false → twiceM l i = true → rightM l = 9 from fun hbad ht => by
        have e : wrongM l i = 9 := by
          unfold wrongM
          rw [hbad, ht]
          rfl
        rw [rightM_first l i (by rw [HL.out]; exact hlt) HW.out (by rw [e]; omega), e])
      have HHS := Lib.hid (has_setM (H := Unit) l i)
      have HKX := Lib.hid (keyM _ HXO.out)
      have HSN := Lib.hid (setM_succ (H := Unit) l i (by rw [HL.out]; exact hlt))
      clear hbb hcc HW
      obtain ⟨x, hx⟩ : ∃ x, x = l.getD i zeroMbr := ⟨_, rfl⟩
      rw [← hx] at HR HXO HBAD HBD HWB HFIN HTWI HHS HKX HSN
      clear hx
      have hz := HSZ.out
      go_wp2_with (first
        | (refine wpList_load_mid rfl 40 (.tmp 13) rfl b (o + i * 2) rfl (mbrC x) _ HR.out Try.underlying40 rfl member_size ?_)
        | ((with_reducible refine wpList_alloc_v rfl _ rfl (mbrC zeroMbr) info_mbr0 ?_); intro w2 HZ hl2 hz2; refine Hid.out ?_))
      refine Lib.hid ?_
      go_wp2_with ((refine wpList_store_v rfl 40 (.tmp 5) (.tmp 14) rfl wr.heap.size rfl (mbrC x) rfl _ (mbrC zeroMbr) HZ rfl member_size (mbrC_one x) ?_); intro w3 HB3 hb3 hz3; refine Hid.out ?_)
      refine Lib.hid ?_
      have hl3 : Low wr w3 := Below.trans hl2 hb3
      have hd0 := HB3.cell 0
      have hd1 := HB3.cell 1
      obtain ⟨p, hp⟩ : ∃ p, p = x.n := ⟨_, rfl⟩
      obtain ⟨q, hq⟩ : ∃ q, q = x.w := ⟨_, rfl⟩
      replace hd0 : w3.cell? ⟨wr.heap.size, 0, none⟩ = some (.int .i64 p) := by rw [hp]; exact hd0
      replace hd1 : w3.cell? ⟨wr.heap.size, 1, none⟩ = some (.int .i64 q) := by rw [hq]; exact hd1
      have HKX2 : Hid (keyOf Try.prog 3 (.int .i64 p) = some (kM x)) := by rw [hp]; exact HKX
      replace HB := Lib.hid (HB.out.below (hl3.mono hL.out.size))
      have HOM3 := Lib.hid (heapM HOM.out (hl3.block w.heap.size (by omega)))
      replace hL := Lib.hid (hL.out.trans hl3)
      have hs3 : w3.heap.size = wr.heap.size + 1 := hz3.trans hz2
      obtain ⟨g, hg⟩ : ∃ g, g = wr.heap.size := ⟨_, rfl⟩
      rw [← hg] at hd0 hd1 hz hs3 ⊢
      rw [← hp, ← hq] at HBD
      have HPQ := Lib.hid (show p = x.n ∧ q = x.w from ⟨hp, hq⟩)
      clear HZ hl2 hb3 hz2 hz3 hl3 HOM HR HSZ HB3 HKX hg hp hq
      have hcs : p < 1 ∨ (¬ p < 1 ∧ 65535 < p) ∨ (¬ p < 1 ∧ ¬ 65535 < p ∧ q < 0) ∨ (¬ p < 1 ∧ ¬ 65535 < p ∧ ¬ q < 0 ∧ 4 < q) ∨ (¬ p < 1 ∧ ¬ 65535 < p ∧ ¬ q < 0 ∧ ¬ 4 < q) := by omega
      rcases hcs with h1 | ⟨h1, h2⟩ | ⟨h1, h2, h3⟩ | ⟨h1, h2, h3, h4⟩ | ⟨h1, h2, h3, h4⟩
      all_goals
        first
          | (have hbad : badM x = true := by rw [HBD.out]; exact decide_eq_true (by omega)
             have HE := Lib.hid ((HBAD.out hbad).trans (HWB.out hbad))
             clear HBAD HWB hbad HBD
             go_wp2_with fail
             go_ret
             exact ⟨by rw [HE.out]; rfl, hL.out⟩)
          | skip
      have hbad : badM x = false := by rw [HBD.out]; exact decide_eq_false (by omega)
      replace HFIN := Lib.hid (HFIN.out hbad)
      replace HTWI := Lib.hid (HTWI.out hbad)
      clear HBAD HWB hbad HBD
      go_wp2_with (at_lookup; refine wpList_lookup_own_unit _ rfl _ _ 48 rfl 3 49 keyedM Try.underlying48 (zeroUnitM _) w.heap.size i _ rfl HOM3.out _ _ rfl HKX2.out ?_; refine Hid.out ?_)
      refine Lib.hid ?_
      rw [HHS.out]
      have hl4 := Low.alloc w3 (.cells #[] 49)
      have hc4 : (w3.alloc (.cells #[] 49)).cell? ⟨g, 0, none⟩ = some (.int .i64 p) := (hl4.cell (p := ⟨g, 0, none⟩) (by show g < w3.heap.size; omega)).trans hd0
      cases hq : twiceM l i
      · have HW2 := Lib.hid (HFIN.out hq)
        clear hq HFIN HTWI HHS
        go_wp2_with (at_mapUpdate; refine wpList_mapUpdate_own _ rfl _ _ _ 48 rfl 3 49 keyedM Try.underlying48 (unitElem (H := Unit)) w.heap.size i _ rfl (HOM3.out.alloc _) (by unfold maxLen; omega) _ _ _ rfl rfl HKX2.out _ [] unitElem_mk ?_; intro w5 hown5 hgrow5; refine Hid.out ?_)
        refine Lib.hid ?_
        have HOM5 := Lib.hid (HSN.out.symm ▸ hown5)
        have hs5 := hgrow5.size
        have hs4 := hl4.size
        have hB5 := (hL.out.trans hl4).grown hgrow5 (Nat.le_trans hL.out.size hl4.size) (fun j hj => by cases hj; exact Nat.le_refl _)
        have HE5 := Lib.hid ((HB.out.below (hl4.mono hL.out.size)).keep (w' := w5) fun p hp => World.cell?_of_block (hgrow5.block p.block (by have := hL.out.size; simp; omega) (by simp; omega)))
        have hL5 := Lib.hid hB5
        have HSZ5 : Hid (w.heap.size + 1 ≤ w5.heap.size) := Lib.hid (by omega)
        clear hown5 hgrow5 HOM3 hl4 hB5 hc4 hs4 hs5 hd0 hd1
        go_wp2_with fail
        go_roundw
        case rel =>
          first
          | exact ⟨i + 1, by omega, by go_num, HW2, HE5, HOM5, hL5, HSZ5⟩
          | ((repeat apply Exists.intro); refine ⟨?_, rfl⟩; exact ⟨i + 1, by omega, by go_num, HW2, HE5, HOM5, hL5, HSZ5⟩)
        case measure => simp [intOf]; omega
      · have HE := Lib.hid (HTWI.out hq)
        have hL5 := Lib.hid (hL.out.trans hl4)
        clear hq HFIN HTWI HHS HSN HOM3 hl4
        go_wp2_with fail
        go_ret
        exact ⟨by rw [HE.out]; rfl, hL5.out⟩
    · obtain rfl : i = n := by omega
      have HE := Lib.hid (rightM_last l (by rw [HL.out]; exact HW.out))
      rw [HL.out] at HE
      by_cases h16 : 16 < i
      · rw [if_pos h16] at HE
        go_wp2_with fail
        go_ret
        exact ⟨by rw [HE.out]; rfl, hL.out⟩
      · rw [if_neg h16] at HE
        go_wp2_with fail
        go_ret
        exact ⟨by rw [HE.out]; rfl, hL.out⟩

set_option maxHeartbeats 3200000 in
set_option maxRecDepth 100000 in
theorem mgtotal_any : MgTotals := by
  intro A n c l w hn hnc hb
  have HB := Lib.hid hb
  have HL := Lib.hid hb.len
  have HRR := Lib.hid mgright_any
  clear hb
  go_enter Try.func13, Try.ntmps13
  go_wp2_with fail
  refine (HRR.out A n c l w hn hnc HB.out).mono ?_
  rintro e w1 ⟨rfl, hl⟩
  replace HB := Lib.hid (HB.out.below hl)
  have hL := Lib.hid hl
  clear hl HRR
  by_cases h0 : rightM l = 0
  · have HT := Lib.hid (show totalM l = (l.map Mbr.w).sum by unfold totalM; rw [if_pos h0])
    have HRM := Lib.hid (rightM_right h0)
    rw [h0]
    clear h0
    go_wp2_with fail
    go_loopw [3, 11] (fun v3 v wr => ∃ (i : Nat) (s : Int), i ≤ n ∧ v = .int .i64 i ∧ v3 = .int .i64 s ∧ Hid (s = ((l.take i).map Mbr.w).sum) ∧ 0 ≤ s ∧ s ≤ 4 * i ∧ Hid (Es mbrE wr w.heap.size A n l) ∧ Hid (Low w wr)) (fun _ v _ => n - (intOf v).toNat)
    case atStart => exact ⟨0, 0, by omega, rfl, rfl, Lib.hid rfl, by omega, by omega, HB, hL⟩
    case round =>
      clear HB hL
      obtain ⟨i, s, hi, rfl, rfl, HS, hs0, hs4, HB, hL⟩ := hrel
      by_cases hlt : i < n
      · obtain ⟨b, o, rfl, hbb, hcc⟩ := HB.out.mem (by omega)
        have HR : Hid (wr.rangeAt b (o + i * 2) (mbrC (l.getD i zeroMbr))) := Lib.hid (HB.out.at_ hlt).2
        have hq := HRM.out.ok (l.getD i zeroMbr) (by rw [getD_memM l i (by rw [HL.out]; exact hlt)]; exact List.getElem_mem _)
        have HTT := Lib.hid (show ((l.take (i + 1)).map Mbr.w).sum = ((l.take i).map Mbr.w).sum + (l.getD i zeroMbr).w by
          rw [List.take_succ_eq_append_getElem (by rw [HL.out]; exact hlt), List.map_append, List.sum_append, ← getD_memM l i (by rw [HL.out]; exact hlt)]
          simp)
        rw [← HS.out] at HTT
        have hq0 := hq.2.2.1
        have hq4 := hq.2.2.2
        clear hbb hcc hq HS
        obtain ⟨x, hx⟩ : ∃ x, x = l.getD i zeroMbr := ⟨_, rfl⟩
        rw [← hx] at HR HTT hq0 hq4
        clear hx
        go_wp2_with (first
          | (refine wpList_load_mid rfl 40 (.tmp 13) rfl b (o + i * 2) rfl (mbrC x) _ HR.out Try.underlying40 rfl member_size ?_)
          | ((with_reducible refine wpList_alloc_v rfl _ rfl (mbrC zeroMbr) info_mbr0 ?_); intro w2 HZ hl2 hz2; refine Hid.out ?_))
        refine Lib.hid ?_
        go_wp2_with ((refine wpList_store_v rfl 40 (.tmp 5) (.tmp 14) rfl wr.heap.size rfl (mbrC x) rfl _ (mbrC zeroMbr) HZ rfl member_size (mbrC_one x) ?_); intro w3 HB3 hb3 hz3; refine Hid.out ?_)
        refine Lib.hid ?_
        have hl3 : Low wr w3 := Below.trans hl2 hb3
        have hd1 : w3.cell? ⟨wr.heap.size, 1, none⟩ = some (.int .i64 x.w) := HB3.cell 1
        replace HB := Lib.hid (HB.out.below (hl3.mono hL.out.size))
        replace hL := Lib.hid (hL.out.trans hl3)
        clear HZ hl2 hb3 hz2 hz3 hl3 HR HB3
        generalize wr.heap.size = g at *
        generalize x.w = q at *
        go_wp2_with fail
        go_roundw
        case rel =>
          first
          | exact ⟨i + 1, s + q, by omega, by go_num, by go_num, Lib.hid HTT.out.symm, by omega, by omega, HB, hL⟩
          | ((repeat apply Exists.intro); refine ⟨?_, rfl⟩; exact ⟨i + 1, s + q, by omega, by go_num, by go_num, Lib.hid HTT.out.symm, by omega, by omega, HB, hL⟩)
        case measure => simp [intOf]; omega
      · obtain rfl : i = n := by omega
        have HE := Lib.hid (show totalM l = s by rw [HT.out, HS.out, List.take_of_length_le (by rw [HL.out]; exact Nat.le_refl _)])
        clear HS HT
        go_wp2_with fail
        go_ret
        exact ⟨by rw [HE.out]; rfl, hL.out⟩
  · have HE := Lib.hid (show totalM l = 0 by unfold totalM; rw [if_neg h0])
    have hr0 : (rightM l == 0) = false := by simpa using h0
    generalize rightM l = r at *
    go_wp2_with fail
    go_ret
    exact ⟨by rw [HE.out]; rfl, hL.out⟩
end Go.Proofs.Ytogmfhofdjiihaa
