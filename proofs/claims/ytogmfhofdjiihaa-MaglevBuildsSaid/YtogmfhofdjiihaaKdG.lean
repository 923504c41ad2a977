/- Stage 15: the document's words of bytes. Condition: at most 3000 bytes. -/
import Derived.Test.YtogmfhofdjiihaaKdF
import Derived.Test.YtogmfhofdjiihaaEl
import Derived.Test.YtogmfhofdjiihaaU64
set_option maxRecDepth 100000
namespace Go.Proofs.Ytogmfhofdjiihaa
open Go.RowKit
set_option linter.unusedVariables false

theorem set_lastK {α : Type} (f : Nat → α) (m : Nat) (y : α) : ((List.range (m + 1)).map f).set m y = (List.range m).map f ++ [y] := by
  rw [List.range_succ, List.map_append, List.set_append_right _ _ (by simp)]
  simp
theorem getD_lastK (f : Nat → Int) (m : Nat) : ((List.range (m + 1)).map f).getD m 0 = f m := by
  simp [List.getD]
theorem range_mapK (f : Nat → Int) (k : Nat) : (List.range (k + 1)).map f = (List.range k).map f ++ [f k] := by
  rw [List.range_succ, List.map_append]
  rfl
/-- one byte less far -/
theorem backK (xs : List Int) (p j : Nat) (h : j < 8) : leK ((xs.drop (p + j)).take (8 - j)) = (if p + j < xs.length then xs.getD (p + j) 0 else 0) + 256 * leK ((xs.drop (p + (j + 1))).take (8 - (j + 1))) := by
  by_cases hl : p + j < xs.length
  · rw [if_pos hl, List.drop_eq_getElem_cons hl, show 8 - j = (8 - (j + 1)) + 1 by omega, List.take_succ_cons]
    simp [leK, List.getD, hl, Nat.add_assoc]
  · rw [if_neg hl, List.drop_eq_nil_of_le (by omega), List.drop_eq_nil_of_le (by omega)]
    simp [leK]
theorem ownsRow_setK {w : World} {base k n c g : Nat} {t : TypeId} {xs : List Value} (h : w.ownsRow base t k (.slice (some ⟨g, 0, none⟩) n c) n xs) (i : Nat) (u : Value) (hi : i < xs.length) : (w.setCell ⟨g, i, none⟩ u).ownsRow base t k (.slice (some ⟨g, 0, none⟩) n c) n (xs.set i u) := by
  obtain ⟨h1, h2⟩ := h
  refine ⟨by rw [List.length_set]; exact h1, ?_⟩
  rcases h2 with ⟨e, h0⟩ | ⟨g', cap, cur, hv, hbg, hg, hnc, hcm, hsz, htk⟩
  · cases e
  · injection hv with hA hn' hc'
    injection hA with hA
    injection hA with hA _ _
    subst hA hc'
    refine .inr ⟨g, c, cur.setIfInBounds i u, rfl, hbg, ?_, hnc, hcm, by simpa using hsz, ?_⟩
    · simp [World.setCell, Array.getElem?_modify, hg]
    · rw [← htk]
      simp [List.take_set]

set_option maxHeartbeats 1600000 in
theorem rwordsK_any (A : Option Addr) (n c : Nat) (xs : List Int) (w : World) (hn : n ≤ 3000) (hb : Bs w w.heap.size A n xs) :
    Calls Try.prog 62 #[.slice A n c] w fun e w' => ∃ A' c', e = .returned (.slice A' (n / 8 + 1) c') ∧ Es u64E w' w'.heap.size A' (n / 8 + 1) (wordsK xs) ∧ Low w w' := by
  have HL := Lib.hid hb.len
  have HB := Lib.hid hb
  clear hb
  obtain ⟨i0, hi, hz0, hz1, hz2⟩ := info_partsK info_u64
  have HI := Lib.hid hi
  have HZ0 := Lib.hid hz0
  have HZ1 := Lib.hid hz1
  have HZ2 := Lib.hid hz2
  clear hi hz0 hz1 hz2
  obtain ⟨m, hmn⟩ : ∃ m, m = n / 8 := ⟨_, rfl⟩
  rw [← hmn]
  have hm : (n : Int) / 8 = m := by omega
  have hm2 : m ≤ 400 := by omega
  have HM := Lib.hid hmn
  clear hmn
  go_enter Try.func62, Try.ntmps62
  go_wp2_with fail
  go_loopw [3, 4] (fun v3 v4 wr => ∃ (k : Nat) (B : Option Addr) (d : Nat), k ≤ m + 1 ∧ v4 = .int .i64 k ∧ v3 = .slice B k d ∧ Hid (OwnE u64E 22 wr w.heap.size B k d ((List.range k).map (chunkK xs))) ∧ Low w wr) (fun _ i _ => m + 1 - (intOf i).toNat)
  case atStart => exact ⟨0, none, 0, by omega, rfl, rfl, Lib.hid (OwnE.none_ _ _ _ _), Low.refl _⟩
  case round =>
    obtain ⟨k, B, d, hk, rfl, rfl, HO, hL⟩ := hrel
    by_cases hlt : k < m + 1
    · have hkm : (k : Int) ≤ m := by omega
      go_wp2_with fail
      obtain ⟨wo, rfl⟩ : ∃ wo, wo = wr := ⟨_, rfl⟩
      go_loop [5, 6] (fun v5 v6 => ∃ j : Nat, j ≤ 8 ∧ v6 = .int .i64 ((j : Int) - 1) ∧ v5 = .int .u64 (leK ((xs.drop (8 * k + j)).take (8 - j)))) (fun _ i => (intOf i + 1).toNat)
      case atStart => exact ⟨8, by omega, rfl, rfl⟩
      case round =>
        obtain ⟨j, hj, rfl, rfl⟩ := hrel
        cases j with
        | zero =>
          have HT := Lib.hid (range_mapK (chunkK xs) k)
          rw [show leK ((xs.drop (8 * k + 0)).take (8 - 0)) = chunkK xs k from rfl]
          generalize chunkK xs k = q at *
          have hlA := Low.alloc wo (.cells #[.int .u64 q] 22)
          have hsA : (wo.alloc (.cells #[.int .u64 q] 22)).heap.size = wo.heap.size + 1 := by simp
          have hbA : Es u64E (wo.alloc (.cells #[.int .u64 q] 22)) (wo.heap.size + 1) (some ⟨wo.heap.size, 0, none⟩) 1 [q] := Es.one_ wo 22 q trivial (Nat.lt_succ_self _)
          have hO3 := HO.out.below hlA
          have HL3 := Lib.hid (hL.trans hlA)
          have hsz := hL.size
          clear hlA
          go_wp2_with (at_builtin; refine wpList_append_es (E := u64E) rfl (.tmp 36) (.tmp 38) _ rfl w.heap.size 22 i0 _ 8 Try.underlying90 HI.out HZ0.out HZ1.out rfl HZ2.out B k d ((List.range k).map (chunkK xs)) rfl hO3 _ 1 1 _ [q] rfl hbA (by omega) (by omega) (by omega) ?_; intro A2 c2 w2 hown hgr hob; refine Hid.out ?_)
          refine Lib.hid ?_
          have HL2 := Lib.hid (show Low w w2 from Below.grown HL3.out hgr (Nat.le_trans hsz (by omega)) (fun j hj => (hO3.lt j hj).1))
          have HO2 := Lib.hid hown
          rw [← HT.out] at HO2
          clear hown hgr hob hO3 hbA hsA HL3 hL HO
          go_wp2_with fail
          go_roundw
          case rel => exact ⟨k + 1, A2, c2, by omega, by go_num, rfl, HO2, HL2.out⟩
          case measure => simp [intOf]; omega
        | succ j =>
          have hj0 : ¬ ((j + 1 : Nat) : Int) - 1 < 0 := by omega
          have hj1 : 0 ≤ ((j + 1 : Nat) : Int) - 1 := by omega
          have hje : ((j + 1 : Nat) : Int) - 1 = j := by omega
          rw [hje]
          rw [hje] at hj0 hj1
          have HX := Lib.hid (backK xs (8 * k) j (by omega))
          have hlow := leK_small ((xs.drop (8 * k + (j + 1))).take (8 - (j + 1))) ((HB.out.all.drop _).take _) 7 (by rw [List.length_take]; omega)
          have HW := Lib.hid (wraps_u64 (leK ((xs.drop (8 * k + (j + 1))).take (8 - (j + 1))) * 256) (by omega) (by omega))
          generalize leK ((xs.drop (8 * k + (j + 1))).take (8 - (j + 1))) = y at *
          by_cases hin : 8 * k + j < n
          · obtain ⟨b, o, rfl, _, hc⟩ := (HB.out.below hL).mem (by omega)
            have h0 := hc _ hin
            have hx := HB.out.nonneg (8 * k + j)
            rw [if_pos (by rw [HL.out]; exact hin)] at HX
            have HW2 := Lib.hid (wraps_u64 (y * 256 + xs.getD (8 * k + j) 0) (by omega) (by omega))
            have hw8 : IntKind.u64.wrap (xs.getD (8 * k + j) 0) = xs.getD (8 * k + j) 0 := wraps_u64 _ hx.1 (by have := hx.2; omega)
            have hin1 : 8 * (k : Int) + j < n := by omega
            have hin2 : (8 * (k : Int) + j).toNat = 8 * k + j := by omega
            have hin3 : 0 ≤ 8 * (k : Int) + j := by omega
            clear hc
            generalize xs.getD (8 * k + j) 0 = x at *
            go_wp2_with fail
            go_round
            case rel => exact ⟨j, by omega, rfl, by rw [HX.out, show y * 256 + x = x + 256 * y by omega]⟩
            case measure => simp [intOf]
          · rw [if_neg (by rw [HL.out]; exact hin)] at HX
            have hin1 : ¬ 8 * (k : Int) + j < n := by omega
            go_wp2_with fail
            go_round
            case rel => exact ⟨j, by omega, rfl, by rw [HX.out, show y * 256 = 0 + 256 * y by omega]⟩
            case measure => simp [intOf]
    · obtain rfl : k = m + 1 := by omega
      obtain ⟨g, cap, hv, hgb, hgl⟩ := World.ownsRow.form HO.out.1 (by omega)
      obtain rfl : B = some ⟨g, 0, none⟩ := by injection hv
      have c0 : wr.cell? ⟨g, m, none⟩ = some (.int .u64 (chunkK xs m)) := by
        have h1 := World.ownsRow.cells HO.out.1 (g := g) rfl m (.int .u64 (chunkK xs m)) (by
          have h2 := Elt.flat_get (E := u64E) (u64E_all ((List.range (m + 1)).map (chunkK xs))) (i := m) (j := 0) (by simp) (by decide)
          rw [show m * u64E.k + 0 = m from by show m * 1 + 0 = m; omega] at h2
          rw [h2]
          show [Value.int .u64 (((List.range (m + 1)).map (chunkK xs)).getD m 0)][0]? = _
          rw [getD_lastK]
          rfl)
        simpa [Addr.add_lit] using h1
      have f0 : wr.frozen? ⟨g, m, none⟩ = false := by
        rcases HO.out.1.2 with ⟨e, _⟩ | ⟨g', cap', cur, e, _, hg, _⟩
        · cases e
        · injection e with e1
          injection e1 with e1
          injection e1 with e1
          subst e1
          simp [World.frozen?, hg]
      clear hv
      have HS := Lib.hid (show IntKind.u64.wrap (chunkK xs m + (n : Int) % 256 * 72057594037927936) = lastK xs by
        have h1 := chunkK_last xs
        have h2 := last_low xs HB.out.all
        rw [HL.out] at h1 h2
        unfold lastK
        rw [HM.out, h1, HL.out, wraps_u64 _ (by omega) (by omega)]
        omega)
      have HO2 := Lib.hid (show OwnE u64E 22 (wr.setCell ⟨g, m, none⟩ (.int .u64 (lastK xs))) w.heap.size (some ⟨g, 0, none⟩) (m + 1) d (wordsK xs) from ⟨by
        have h1 := ownsRow_setK HO.out.1 m (.int .u64 (lastK xs)) (by rw [Elt.flat_len (u64E_all _)]; show m < _ * 1; simp)
        have h2 : u64E.flat (wordsK xs) = (u64E.flat ((List.range (m + 1)).map (chunkK xs))).set m (.int .u64 (lastK xs)) := by
          have h3 : ∀ l : List Int, u64E.flat l = l.map (Value.int .u64) := flat_u64
          rw [h3, h3, ← List.map_set, set_lastK]
          unfold wordsK
          rw [HL.out, HM.out]
        rw [h2]
        exact h1, u64E_all _, by unfold wordsK; simp [HL.out, HM.out]⟩)
      have HL2 := Lib.hid (show Low w (wr.setCell ⟨g, m, none⟩ (.int .u64 (lastK xs))) from Below.setCell hL hgb _)
      go_wp2_with fail
      rw [HS.out]
      go_ret
      exact ⟨_, _, rfl, HO2.out.lies (Nat.le_refl _), HL2.out⟩
end Go.Proofs.Ytogmfhofdjiihaa
