/- What flow.once tells: each flow of a list where it first stands. Conditions: at most 60 flows. -/
import Derived.Test.YtjafjapnmffohaaDoorFlM
set_option maxRecDepth 100000
namespace Go.Proofs.YtjafjapnmffohaaDoor
open Go.RowKit Go.Maps
set_option linter.unusedVariables false

theorem zeroUnitF (w : World) : (zeroValue 55).run Tryd.prog w = .ok (.agg #[]) w := by kernel_rfl
theorem run_one_fwK (p q s0 s1 s2 s3 s4 s5 s6 s7 s8 s9 s10 s11 s12 s13 s14 s15 d0 d1 d2 d3 d4 d5 d6 d7 d8 d9 d10 d11 d12 d13 d14 d15 : Int) (w : World) :
    (Instr.buildSlice 32 1 #[(0, .agg (fwC ⟨[s0, s1, s2, s3, s4, s5, s6, s7, s8, s9, s10, s11, s12, s13, s14, s15], p, [d0, d1, d2, d3, d4, d5, d6, d7, d8, d9, d10, d11, d12, d13, d14, d15], q⟩).toArray)]).run Tryd.prog w = .ok (.slice (some ⟨w.heap.size, 0, none⟩) 1 1) (w.alloc (.cells (fwC ⟨[s0, s1, s2, s3, s4, s5, s6, s7, s8, s9, s10, s11, s12, s13, s14, s15], p, [d0, d1, d2, d3, d4, d5, d6, d7, d8, d9, d10, d11, d12, d13, d14, d15], q⟩).toArray 25)) := by kernel_rfl
theorem run_one_fw (f : Fw) (hs : f.s.length = 16) (hd : f.d.length = 16) (w : World) : (Instr.buildSlice 32 1 #[(0, .agg (fwC f).toArray)]).run Tryd.prog w = .ok (.slice (some ⟨w.heap.size, 0, none⟩) 1 1) (w.alloc (.cells (fwC f).toArray 25)) := by
  obtain ⟨s, p, d, q⟩ := f
  obtain ⟨s0, s1, s2, s3, s4, s5, s6, s7, s8, s9, s10, s11, s12, s13, s14, s15, rfl⟩ := list16F s hs
  obtain ⟨d0, d1, d2, d3, d4, d5, d6, d7, d8, d9, d10, d11, d12, d13, d14, d15, rfl⟩ := list16F d hd
  exact run_one_fwK _ _ _ _ _ _ _ _ _ _ _ _ _ _ _ _ _ _ _ _ _ _ _ _ _ _ _ _ _ _ _ _ _ _ w
theorem wpList_one_fw {ops : Array Oper} {rest : List Oper} {o : Oper} {a : Act} {w : World} {Q : Exit → Act → World → Prop} (hgd : o.guard = none) (x : Operand) (ho : o.op = .buildSlice 32 1 #[(0, x)]) (f : Fw) (hx : a.eval x = .agg (fwC f).toArray) (hf : f.ok)
    (hk : ∀ w', Es fwE w' (w.heap.size + 1) (some ⟨w.heap.size, 0, none⟩) 1 [f] → Low w w' → w'.heap.size = w.heap.size + 1 → wpList Tryd.prog ops Q rest (a.put o.dst (.slice (some ⟨w.heap.size, 0, none⟩) 1 1)) w') : wpList Tryd.prog ops Q (o :: rest) a w :=
  wpList_plain hgd fun K hK => by
    unfold Oper.wp execOp
    simp only [ho, List.map_toArray, List.map_cons, List.map_nil, hx, Sem.run_bind, run_one_fw f hf.s hf.d, Result.andThen_ok, Sem.run_pure]
    exact hK _ _ (hk _ (Es.one_ (E := fwE) w _ f hf (by omega)) (Low.alloc w _) (by simp))
theorem OwnE.kept {α : Type} {E : Elt α} {t : TypeId} {w w' : World} {base n c : Nat} {A : Option Addr} {l : List α} {row : Option Nat} (h : OwnE E t w base A n c l) (hg : w.grownBy w' row) (hne : ∀ k, row = some k → k < base) : OwnE E t w' base A n c l :=
  ⟨World.ownsRow.kept h.1 hg (by
    cases hb : (Value.slice A n c).ownBlock with
    | none => exact .inl rfl
    | some k =>
      refine .inr fun e => ?_
      have := hne k e.symm
      have := (h.lt k hb).1
      omega), h.2⟩

theorem heapF {H : Type} {w w' : World} {P : Program} {k : TypeId} {R : Value → Option (DataW H × List MemPlace)} {b n : Nat} {D : DataW H} (h : w.ownsMap P k R b n D) (e : w'.heap[b]? = w.heap[b]?) : w'.ownsMap P k R b n D := by
  obtain ⟨es, clock, hb, F, hs, hD⟩ := h
  exact ⟨es, clock, e.trans hb, F, hs, hD⟩

set_option maxRecDepth 100000 in
set_option maxHeartbeats 6400000 in
theorem once_any (A : Option Addr) (n c : Nat) (l : List Fw) (w : World) (hn : n ≤ 60) (hl : Es fwE w w.heap.size A n l) :
    Calls Tryd.prog 26 #[.slice A n c] w fun e w' => ∃ A' m c', e = .returned (.slice A' m c') ∧ m ≤ n ∧ OwnE fwE 25 w' (w.heap.size + 1) A' m c' (outF l n) ∧ Below w.heap.size w w' := by
  have hmm := @run_makeMap Tryd.prog
  obtain ⟨i0, hi, hz0, hz1, hz2⟩ := info_parts info_flow
  have HI := Lib.hid hi
  have HZ0 := Lib.hid hz0
  have HZ1 := Lib.hid hz1
  have HZ2 := Lib.hid hz2
  obtain ⟨kf, hkf⟩ := keyF_get
  have HKF := Lib.hid hkf
  have HES := Lib.hid hl
  have HLN := Lib.hid hl.len
  have HAL := Lib.hid (show ∀ x ∈ l, x.ok from hl.all)
  clear hi hz0 hz1 hz2 hl hkf
  go_enter Tryd.func26, Tryd.ntmps26
  go_wp2_with fail
  go_loopw [3, 12] (fun v3 v12 wr => ∃ (k m : Nat) (A' : Option Addr) (c' : Nat), k ≤ n ∧ v12 = .int .i64 k ∧ v3 = .slice A' m c' ∧ m ≤ k ∧ Hid (OwnE fwE 25 wr (w.heap.size + 1) A' m c' (outF l k)) ∧ Hid (wr.ownsMap Tryd.prog 25 unitElem w.heap.size k (setF (H := Unit) kf l k)) ∧ Below w.heap.size w wr ∧ Hid (w.heap.size + 1 ≤ wr.heap.size))
    (fun _ v12 _ => n - (intOf v12).toNat)
  case atStart => exact ⟨0, 0, none, 0, Nat.zero_le _, rfl, rfl, Nat.le_refl _, Lib.hid (by rw [outF_zero]; exact OwnE.none_ _ _ _ _), Lib.hid (by rw [setF_zero]; exact World.ownsMap_made _ _ _ _), (Below.refl _ _).alloc (Nat.le_refl _) _, Lib.hid (by simp)⟩
  case round =>
    clear hmm
    obtain ⟨k, m, A', c', hk, rfl, rfl, hmk, HOW, HOM, hB, HSZ⟩ := hrel
    by_cases hlt : k < n
    · obtain ⟨b, o, rfl, hbl, -⟩ := HES.out.mem (by omega)
      have hr := (HES.out.below hB).at_ hlt
      have HR : Hid (wr.rangeAt b (o + k * 34) (fwC (l.getD k zeroF))) := Lib.hid hr.2
      have HXO : Hid ((l.getD k zeroF).ok) := Lib.hid (Elt.all_getD (E := fwE) HES.out.all k)
      have HHS := Lib.hid (has_setF (H := Unit) HKF.out l HAL.out k (by rw [HLN.out]; omega) _ HXO.out)
      have HKX := Lib.hid (HKF.out _ HXO.out)
      have HON := Lib.hid (outF_new l k (by rw [HLN.out]; omega))
      have HOO := Lib.hid (outF_old l k (by rw [HLN.out]; omega))
      have HSN := Lib.hid (setF_new (H := Unit) kf l k (by rw [HLN.out]; omega))
      have HSO := Lib.hid (setF_old (H := Unit) kf l k (by rw [HLN.out]; omega))
      have hkl : k + 1 ≤ l.length := by rw [HLN.out]; omega
      obtain ⟨x, hx⟩ : ∃ x, x = l.getD k zeroF := ⟨_, rfl⟩
      rw [← hx] at HR HXO HHS HKX HON HOO HSN HSO
      clear hx hr
      unfold fwV at HKX
      have hz := HSZ.out
      go_wp2_with (first
        | (with_reducible refine wpList_load_fwat rfl (.tmp 14) rfl b (o + k * 34) rfl x HXO.out.s HXO.out.d HR.out ?_)
        | ((with_reducible refine wpList_alloc_fw rfl rfl ?_); intro w2 HZ hl2 hz2; refine Hid.out ?_))
      refine Lib.hid ?_
      go_wp2_with ((refine wpList_store_fw rfl (.tmp 6) (.tmp 15) rfl wr.heap.size rfl x rfl zeroF HZ rfl rfl HXO.out.s HXO.out.d ?_); intro w3 HB3 hb3 hz3 ho3; refine Hid.out ?_)
      refine Lib.hid ?_
      have hl3 : Low wr w3 := Below.trans hl2 hb3
      replace HB3 := Lib.hid HB3
      have HOM3 := Lib.hid (heapF HOM.out (hl3.block w.heap.size (by omega)))
      have HOW3 := Lib.hid (HOW.out.below hl3)
      have hB3 := hB.trans (hl3.mono hB.size)
      have hs3 : w3.heap.size = wr.heap.size + 1 := hz3.trans hz2
      obtain ⟨g, hg⟩ : ∃ g, g = wr.heap.size := ⟨_, rfl⟩
      rw [← hg] at HB3 hz ⊢
      clear HZ hl2 hb3 hz2 hz3 ho3 hl3 HOM HOW HR hB HSZ
      rw [← hg] at hs3
      clear hg
      go_wp2_with (first
        | (with_reducible refine wpList_load_fw rfl (.tmp 6) rfl g rfl x HB3.out HXO.out.s HXO.out.d ?_)
        | (at_lookup; refine wpList_lookup_own_unit _ rfl _ _ 54 rfl 25 55 keyedF Tryd.underlying54 (zeroUnitF _) w.heap.size k _ rfl HOM3.out _ _ rfl HKX.out ?_; refine Hid.out ?_))
      refine Lib.hid ?_
      rw [HHS.out]
      have hl4 := Low.alloc w3 (.cells #[] 55)
      have HB4 : Hid (BlkF (w3.alloc (.cells #[] 55)) g x) := Lib.hid (HB3.out.below hl4 HB3.out.lt)
      have hgl := HB3.out.lt
      cases hq : (outF l k).any (fun y => eqFw y x)
      · have HSN2 := Lib.hid (HSN.out hq)
        have HON2 := Lib.hid (HON.out hq)
        clear hq HSN HON HSO HOO HHS
        go_wp2_with (first
          | (with_reducible refine wpList_load_fw rfl (.tmp 6) rfl g rfl x HB4.out HXO.out.s HXO.out.d ?_)
          | (at_mapUpdate; refine wpList_mapUpdate_own _ rfl _ _ _ 54 rfl 25 55 keyedF Tryd.underlying54 (unitElem (H := Unit)) w.heap.size k _ rfl (HOM3.out.alloc _) (by unfold maxLen; omega) _ _ _ rfl rfl HKX.out _ [] unitElem_mk ?_; intro w5 hown5 hgrow5; refine Hid.out ?_))
        refine Lib.hid ?_
        have hge : w5.heap[g]? = (w3.alloc (.cells #[] 55)).heap[g]? := hgrow5.block g HB4.out.lt (by simp; omega)
        have HB5 : Hid (BlkF w5 g x) := Lib.hid (hge.trans HB4.out)
        have HOM5 := Lib.hid (HSN2.out.symm ▸ hown5)
        have HOW5 := Lib.hid ((HOW3.out.below hl4).kept hgrow5 (fun j hj => by cases hj; omega))
        have hB5 := (hB3.trans (hl4.mono hB3.size)).grown hgrow5 (Nat.le_trans hB3.size hl4.size) (fun j hj => by cases hj; exact Nat.le_refl _)
        have hs5 := hgrow5.size
        have hs4 := hl4.size
        clear hge hown5 hgrow5 HOW3 HOM3 HB3 HB4 hl4 hB3
        go_wp2_with (first
          | (with_reducible refine wpList_load_fw rfl (.tmp 6) rfl g rfl x HB5.out HXO.out.s HXO.out.d ?_)
          | ((with_reducible refine wpList_one_fw rfl (.tmp 28) rfl x rfl HXO.out ?_); intro w6 hE6 hl6 hz6; refine Hid.out ?_))
        refine Lib.hid ?_
        have HE6 := Lib.hid hE6
        have hO6 := HOW5.out.below hl6
        have HOM6 := Lib.hid (heapF HOM5.out (hl6.block w.heap.size (by omega)))
        have hB6 := hB5.trans (hl6.mono hB5.size)
        clear hE6 HOW5 HOM5 hB5 hl6 HB5
        go_wp2_with (at_builtin; refine wpList_append_es (E := fwE) rfl (.tmp 27) (.tmp 29) _ rfl (w.heap.size + 1) 25 i0 _ 48 Tryd.underlying32 HI.out HZ0.out HZ1.out (by simp [fwV, Value.cells, fwC_length (f := zeroF) rfl rfl]; rfl) HZ2.out A' m c' (outF l k) rfl hO6 _ 1 1 _ [x] rfl HE6.out (by omega) (by omega) (by omega) ?_; intro A7 c7 w7 hown7 hgrow7 hloc7; refine Hid.out ?_)
        refine Lib.hid ?_
        rw [← HON2.out] at hown7
        have HOW7 := Lib.hid hown7
        have HOM7 := Lib.hid (heapF HOM6.out (hgrow7.block w.heap.size (by omega) (fun e => by have := (hO6.lt _ e.symm).1; omega)))
        have hB7 := hB6.grown hgrow7 hB6.size (fun j hj => Nat.le_trans (Nat.le_succ _) (hO6.lt j hj).1)
        have hs7 := hgrow7.size
        have HSZ7 : Hid (w.heap.size + 1 ≤ w7.heap.size) := Lib.hid (by omega)
        clear hown7 hgrow7 hloc7 hO6 HOM6 hB6 HE6 hs7 hs5 hs4 hs3 hz hz6
        go_wp2_with fail
        go_roundw
        case rel =>
          first
          | exact ⟨k + 1, m + 1, A7, c7, by omega, by go_num, rfl, by omega, HOW7, HOM7, hB7, HSZ7⟩
          | ((repeat apply Exists.intro); refine ⟨?_, rfl⟩; exact ⟨k + 1, m + 1, A7, c7, by omega, by go_num, rfl, by omega, HOW7, HOM7, hB7, HSZ7⟩)
        case measure => simp [intOf]; omega
      · have HSO2 := Lib.hid (HSO.out hq)
        have HOO2 := Lib.hid (HOO.out hq)
        clear hq HSN HON HSO HOO HHS
        have HOW5 : Hid (OwnE fwE 25 (w3.alloc (.cells #[] 55)) (w.heap.size + 1) A' m c' (outF l (k + 1))) := Lib.hid (by rw [HOO2.out]; exact HOW3.out.below hl4)
        have HOM5 : Hid ((w3.alloc (.cells #[] 55)).ownsMap Tryd.prog 25 unitElem w.heap.size (k + 1) (setF (H := Unit) kf l (k + 1))) := Lib.hid (by rw [HSO2.out]; exact (HOM3.out.alloc _).mono (Nat.le_succ _))
        have hB5 := hB3.trans (hl4.mono hB3.size)
        have HSZ5 : Hid (w.heap.size + 1 ≤ (w3.alloc (.cells #[] 55)).heap.size) := Lib.hid (by have := hl4.size; omega)
        clear HOW3 HOM3 HB3 HB4 hl4 hB3 hs3 hz
        go_wp2_with fail
        go_roundw
        case rel =>
          first
          | exact ⟨k + 1, m, A', c', by omega, by go_num, rfl, by omega, HOW5, HOM5, hB5, HSZ5⟩
          | ((repeat apply Exists.intro); refine ⟨?_, rfl⟩; exact ⟨k + 1, m, A', c', by omega, by go_num, rfl, by omega, HOW5, HOM5, hB5, HSZ5⟩)
        case measure => simp [intOf]; omega
    · obtain rfl : k = n := by omega
      go_wp2_with fail
      go_ret
      exact ⟨A', m, c', rfl, hmk, HOW.out, hB⟩
end Go.Proofs.YtjafjapnmffohaaDoor
