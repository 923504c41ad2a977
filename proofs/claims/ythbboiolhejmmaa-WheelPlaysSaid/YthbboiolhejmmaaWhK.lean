/- Stage 23: Unset: a timer taken out of the map and of its list. No condition but that the wheel lies so. -/
import Derived.Test.YthbboiolhejmmaaWhJ
set_option maxRecDepth 100000
namespace Go.Proofs.Ythbboiolhejmmaa
open Go.RowKit Go.Maps
set_option linter.unusedVariables false
attribute [local go_sem] Oper.semAt_some

theorem Out.weakW {F F' : Nat → Prop} {w w' : World} (h : Out F w w') (hk : ∀ k, F k → F' k) : Out F' w w' := ⟨h.os, h.tape, h.output, h.size, fun k h1 h2 => h.block k h1 fun h3 => h2 (hk k h3)⟩
theorem Out.grownW {F : Nat → Prop} {w w' w2 : World} {row : Option Nat} (h : Out F w w') (hg : w'.grownBy w2 row) (hr : ∀ k, k < w.heap.size → row = some k → F k) : Out F w w2 :=
  ⟨hg.os.trans h.os, hg.tape.trans h.tape, hg.output.trans h.output, Nat.le_trans h.size hg.size, fun k h1 h2 => (hg.block k (Nat.lt_of_lt_of_le h1 h.size) fun e => h2 (hr k h1 e.symm)).trans (h.block k h1 h2)⟩
theorem Out.storeW {F : Nat → Prop} {w w' w2 : World} (h : Out F w w') {b : Nat} (hF : F b) (hb : Below b w' w2) (hz : w2.heap.size = w'.heap.size) (ho : ∀ k : Nat, k ≠ b → w2.heap[k]? = w'.heap[k]?) : Out F w w2 :=
  ⟨hb.os.trans h.os, hb.tape.trans h.tape, hb.output.trans h.output, by rw [hz]; exact h.size, fun k hk hn => (ho k (fun e => hn (e ▸ hF))).trans (h.block k hk hn)⟩
theorem wp_delete_w {H : Type} {P : Program} {w : World} {o : Oper} {a : Act} {K0 : Act → World → Prop} {Q : Exit → Act → World → Prop} (m x : Operand) (t k : TypeId) (hop : o.op = Op.call { callee := Callee.builtin Builtin.delete, args := #[m, x], argTypes := #[t, k] })
    (e : TypeId) (K : Keyed P k) (ht : P.underlying t = some (.map k e)) (R : Value → Option (DataW H × List MemPlace)) (b n : Nat) (D : DataW H)
    (hm : a.eval m = .map (some b)) (hown : w.ownsMap P k R b n D) (key : Value) (kl : Lit) (hx : a.eval x = key) (hkey : keyOf P k key = some kl)
    (hK : ∀ w', w'.ownsMap P k R b n (D.del kl) → w.mapTurned w' b → K0 (a.put o.dst (.tuple #[])) w') : o.wp P a w K0 Q := by
  obtain ⟨w', hrun, r1, r2⟩ := hown.drop K ht hkey o.type
  unfold Oper.wp
  simp [execOp, hop, resolve, invoke, builtin, hm, hx, hrun, Result.andThen]
  exact hK w' r1 r2
section
variable {w w' : World} {g b : Nat} {now now' : Int} {sl : List SlcW} {xs : List (List Int)} {l l' : List (Int × Int)}
/-- one list has become another one -/
theorem WhAt.next (h : WhAt w g b now sl xs l) {s : Nat} (hs : s < 64) {v : SlcW} {ys : List Int} (hh : BlkV w' 48 g (headW now' b (sl.set s v))) (hd : DueW w' b l') (hr : OwnN 3 w' 0 v.1 v.2.1 v.2.2 ys)
    (hk : ∀ i, i < 64 → i ≠ s → ∀ k, (slvW (sl.getD i noW)).ownBlock = some k → w'.heap[k]? = w.heap[k]?) (hn : ∀ k, (slvW v).ownBlock = some k → (slvW (sl.getD s noW)).ownBlock = some k ∨ w.heap.size ≤ k) (ht : TellW (xs.set s ys) l') (hkp : KeepW l') :
    WhAt w' g b now' (sl.set s v) (xs.set s ys) l' := by
  have hsl : s < sl.length := by rw [h.len]; exact hs
  have hxl : s < xs.length := by rw [h.tell.len]; exact hs
  refine ⟨hh, hd, by rw [List.length_set]; exact h.len, fun i hi => ?_, fun i j k hi hj e1 e2 => ?_, ht, hkp⟩
  · rw [getD_setV hsl, getD_setW _ _ _ _ hxl]
    by_cases e : i = s
    · rw [if_pos e, if_pos e]
      exact hr
    · rw [if_neg e, if_neg e]
      exact (h.row i hi).sameW fun k ek => hk i hi e k ek
  · rw [getD_setV hsl] at e1 e2
    by_cases c1 : i = s
    · by_cases c2 : j = s
      · rw [c1, c2]
      · rw [if_pos c1] at e1
        rw [if_neg c2] at e2
        rcases hn k e1 with h1 | h1
        · rw [c1]
          exact h.apart s j k hs hj h1 e2
        · have := ((h.row j hj).lt k e2).2
          omega
    · by_cases c2 : j = s
      · rw [if_neg c1] at e1
        rw [if_pos c2] at e2
        rcases hn k e2 with h1 | h1
        · rw [c2]
          exact h.apart i s k hi hs e1 h1
        · have := ((h.row i hi).lt k e1).2
          omega
      · rw [if_neg c1] at e1
        rw [if_neg c2] at e2
        exact h.apart i j k hi hj e1 e2
theorem ownW_set (hl : sl.length = 64) {s : Nat} (hs : s < 64) {v : SlcW} {G : Nat → Prop} (hn : ∀ k, (slvW v).ownBlock = some k → (slvW (sl.getD s noW)).ownBlock = some k ∨ G k) {k : Nat} (h : ownW g b (sl.set s v) k) : ownW g b sl k ∨ G k := by
  rcases h with rfl | rfl | ⟨i, hi, e⟩
  · exact .inl (.inl rfl)
  · exact .inl (.inr (.inl rfl))
  · rw [getD_setV (by rw [hl]; exact hs)] at e
    by_cases c : i = s
    · rw [if_pos c] at e
      rcases hn k e with h1 | h1
      · exact .inl (.inr (.inr ⟨s, hs, h1⟩))
      · exact .inr h1
    · rw [if_neg c] at e
      exact .inl (.inr (.inr ⟨i, hi, e⟩))
/-- a list that is not empty lies in a block -/
theorem WhAt.form (h : WhAt w g b now sl xs l) {s : Nat} (hs : s < 64) {x : Int} (hx : x ∈ xs.getD s []) : ∃ blk n cap, sl.getD s noW = (some ⟨blk, 0, none⟩, n, cap) := by
  have hr := h.row s hs
  rcases hr.1.2 with ⟨e, h0⟩ | ⟨k, cap, cur, e, _⟩
  · have hl := hr.len
    rw [h0] at hl
    rw [List.eq_nil_of_length_eq_zero hl] at hx
    cases hx
  · injection e with e1 e2 e3
    exact ⟨k, (sl.getD s noW).2.1, cap, by
      generalize sl.getD s noW = v at *
      obtain ⟨v1, v2, v3⟩ := v
      simp at e1 e3
      rw [e1, e3]⟩
theorem slotW_eq {a : Int} (h : 0 ≤ a) : a.tmod 64 = ((slotW a : Nat) : Int) := by
  unfold slotW
  rw [Int.tmod_eq_emod_of_nonneg h]
  omega
theorem whint_size : (Try.prog.info? 36).map (·.size) = some 1 := by kernel_rfl
set_option maxHeartbeats 3200000 in
set_option maxRecDepth 100000 in
theorem whunset_any (h : WhAt w g b now sl xs l) (id : Int) (hid : i64ok id) : Calls Try.prog 10 #[.pointer (some ⟨g, 0, none⟩), .int .i64 id] w fun e w' => e = .returned (.bool (hasS l id)) ∧
    ∃ sl' xs', WhAt w' g b now sl' xs' (outS l id) ∧ (∀ k, ownW g b sl' k → ownW g b sl k) ∧ Out (ownW g b sl) w w' := by
  have HT := Lib.hid h
  have HK := Lib.hid (keyP id hid)
  obtain ⟨q, hq⟩ : ∃ q, hasS l id = q := ⟨_, rfl⟩
  rw [hq]
  have HQ := Lib.hid hq
  clear hq
  have HB := Lib.hid (BlkV.new w 3 [.int .i64 id])
  have HL := Lib.hid (Low.alloc w (.cells #[.int .i64 id] 3))
  have HZ := Lib.hid (World.size_alloc w (.cells #[.int .i64 id] 3))
  go_enter Try.func10, Try.ntmps10
  clear h
  go_wp2_with fail
  change Calls _ _ _ (w.alloc (.cells #[.int .i64 id] 3)) _
  replace HB : Hid (BlkV (w.alloc (.cells #[.int .i64 id] 3)) 3 w.heap.size [.int .i64 id]) := HB
  generalize w.alloc (.cells #[.int .i64 id] 3) = w1 at *
  have HT1 := Lib.hid (HT.out.low HL.out)
  refine (whwhen_any HT1.out id hid).mono ?_
  rintro e w2 ⟨rfl, rfl⟩
  rw [HQ.out]
  cases q
  · go_wp2_with fail
    go_ret
    exact ⟨rfl, sl, xs, by rw [outS_no HQ.out]; exact HT1.out, fun k hk => hk, Out.low HL.out⟩
  · have hc := HQ.out
    obtain ⟨s, hs⟩ : ∃ s, s = slotW (whenW l id) := ⟨_, rfl⟩
    have hs64 : s < 64 := by rw [hs]; exact slotW_lt _
    have hin : id ∈ xs.getD s [] := (HT.out.tell.mem s hs64 id).2 ⟨hc, hs.symm⟩
    obtain ⟨blk, n, cap, hf⟩ := HT.out.form hs64 hin
    have HF := Lib.hid hf
    have hte := HT.out.tell.out hc
    have hmod := slotW_eq (whenW_ok HT.out.kept id).1
    rw [← hs] at hte hmod
    have hrow := HT.out.row s hs64
    rw [hf] at hrow
    have hsl : s < sl.length := by rw [HT.out.len]; exact hs64
    have HCS := Lib.hid (show (headW now b sl)[2 + s]? = some (.slice (some ⟨blk, 0, none⟩) n cap) by rw [headW_get hsl, HF.out]; rfl)
    have hown : (slvW (sl.getD s noW)).ownBlock = some blk := by rw [hf]; rfl
    have HOWN := Lib.hid hown
    have hbg := HT.out.rg hs64 hown
    have hbb := HT.out.rb hs64 hown
    have hblt : blk < w.heap.size := (hrow.lt blk rfl).2
    generalize xs.getD s [] = ys at *
    obtain ⟨r, hr⟩ : ∃ r, r = ys.filter fun x => !(x == id) := ⟨_, rfl⟩
    rw [← hr] at hte
    have HTE := Lib.hid hte
    have HRR := Lib.hid hr
    have HM := Lib.hid hmod
    obtain ⟨cb, hcb⟩ : ∃ cb, cb = w.heap.size := ⟨_, rfl⟩
    have hcbk : cb ≠ blk := by omega
    rw [← hcb] at HB ⊢
    have HCB := Lib.hid hcb
    obtain ⟨D, hD, hDM⟩ := HT1.out.due
    have hkeys := HT.out.kept.keys
    have HDD := Lib.hid (hDM.del (hD.tidy keyedP) hkeys hc)
    have HD := Lib.hid hD
    have HR1 := Lib.hid (hrow.below HL.out)
    clear hs hin hf hmod hc hcb hD hDM hkeys hrow hte hr
    generalize whenW l id = a at *
    go_wp2_with fail
    refine wp_region_planN (fun y => BlkV y 48 g (headW now b sl) ∧ BlkV y 3 cb [.int .i64 id]) (.rd 0 (.rd 1 (.rd 2 (.rd 3 (.rd 4 (.act 5 (.done)))))))
      (by kernel_rfl) (by kernel_rfl) (by kernel_rfl) ⟨HT1.out.head, HB.out⟩ ?_
    have hld : Low w2 w2.drew := Below.drew (Below.refl _ w2)
    have TD := Lib.hid (HT1.out.low hld)
    have HLD := Lib.hid (HL.out.trans hld)
    have HBD : Hid (BlkV w2.drew 3 cb [.int .i64 id]) := HB
    have HDD2 : Hid (w2.drew.ownsMap Try.prog 3 (plainElem Try.prog 3) b l.length D) := HD
    have HRD := Lib.hid (HR1.out.below hld)
    clear HT1 HL HB HD hld HR1
    generalize w2.drew = w3 at *
    iterate 5 (refine walkS_read (v := _) rfl (by rfl) (by
                    intro y hy
                    have q0 : y.cell? ⟨g, 1, none⟩ = some (.map (some b)) := hy.1.cell 1
                    have q1 : y.cell? ⟨cb, 0, none⟩ = some (.int .i64 id) := hy.2.cell 0
                    clear hy
                    first
                    | (go_simp; try rfl)) ?_; simp only [Act.put, List.setIfInBounds_toArray, List.set_cons_zero, List.set_cons_succ])
    refine walkS_act rfl (by rfl) (fun K hK => ?_)
    refine wp_delete_w _ _ 45 3 rfl 3 keyedP Try.underlying45 _ b l.length D rfl HDD2.out _ _ rfl HK.out (fun w4 hm4 ht4 => ?_)
    have hg4 := ht4.grown
    have HG4 := Lib.hid hg4
    have hgb := TD.out.gb
    have hh4 := TD.out.head.same (hg4.block g TD.out.head.lt (fun e => by injection e with e; exact hgb e))
    have hcbb : cb ≠ b := fun e => (e ▸ HBD.out).noMap TD.out.due
    have hb4 := HBD.out.same (hg4.block cb HBD.out.lt (fun e => by injection e with e; exact hcbb e))
    refine hK _ _ ⟨hh4, hb4⟩ ?_
    clear hK K
    unfold walkS orThrow
    dsimp only
    have HH4 := Lib.hid hh4
    have HB4 := Lib.hid hb4
    have HD4 := Lib.hid (trimW hm4 HDD.out)
    have HR4 := Lib.hid (HRD.out.sameW fun k e => hg4.block k (HRD.out.lt k e).2 (fun e2 => by injection e2 with e2; injection e with e; exact hbb (e.trans e2)))
    clear hg4 hh4 hb4 ht4 hm4 hgb hcbb HRD
    go_wp2_with fail
    have hs2 : (s : Int) < 64 := by omega
    have hmod := HM.out
    refine wp_region_planN (fun y => True) (.rd 0 (.rd 1 (.rd 2 (.rd 3 (.rd 4 (.rd 5 (.rd 6 (.rd 7 (.rd 8 (.rd 10 (.rd 12 (.rd 13 (.act 9 (.act 11 (.rd 14 (.act 15 (.done)))))))))))))))))
      (by kernel_rfl) (by kernel_rfl) (by kernel_rfl) trivial ?_
    have hld : Low w4 w4.drew := Below.drew (Below.refl _ w4)
    have HH5 := Lib.hid (HH4.out.below hld HH4.out.lt)
    have HB5 := Lib.hid (HB4.out.below hld HB4.out.lt)
    have HD5 := Lib.hid (HD4.out.heap (hld.block b HD4.out.lt))
    have HR5 := Lib.hid (HR4.out.below hld)
    have HO5 := Lib.hid (((Out.low (F := fun k => k = g ∨ k = b ∨ k = blk) HLD.out).grownW HG4.out (fun k _ e => by injection e with e; exact .inr (.inl e.symm))).then_low hld)
    clear hld HH4 HB4 HD4 HG4 HDD2 HLD HR4
    generalize w4.drew = w5 at *
    iterate 12 (refine walkS_read (v := _) rfl (by rfl) (by
                    intro y hy
                    clear hy
                    first
                    | (go_simp; try rfl)) ?_; simp only [Act.put, List.setIfInBounds_toArray, List.set_cons_zero, List.set_cons_succ])
    have HCON := whdel_any w5 blk cap n cb ys id HR5.out (HB5.out.cell 0) HB5.out.lt hcbk
    rw [← HRR.out] at HCON
    replace HCON := Lib.hid HCON
    refine walkS_act rfl (by rfl) (fun K hK => ?_)
    have q0 : w5.cell? ⟨g, 2 + s, none⟩ = some (.slice (some ⟨blk, 0, none⟩) n cap) := (HH5.out.cell (2 + s)).trans HCS.out
    go_simp
    refine hK _ _ trivial ?_
    clear hK K q0
    refine walkS_act rfl (by rfl) (fun K hK => ?_)
    go_simp
    refine HCON.out.mono ?_
    rintro e w6 ⟨rfl, h6, hg6⟩
    go_simp
    have hh6 := HH5.out.same (hg6.block g HH5.out.lt (fun e => by injection e with e; exact hbg e.symm))
    refine hK _ _ trivial ?_
    clear hK K
    have HD6 := Lib.hid (HD5.out.heap (hg6.block b HD5.out.lt (fun e => by injection e with e; exact hbb e.symm)))
    have HO6 := Lib.hid (HO5.out.grownW hg6 (fun k _ e => by injection e with e; exact .inr (.inr e.symm)))
    have H6 := Lib.hid h6
    have HH6 := Lib.hid hh6
    clear h6 hg6 hh6 HR5 HH5 HB5 HD5 HO5 HCON
    refine walkS_read (v := _) rfl (by rfl) (by
                    intro y hy
                    clear hy
                    first
                    | (go_simp; try rfl)) ?_
    simp only [Act.put, List.setIfInBounds_toArray, List.set_cons_zero, List.set_cons_succ]
    refine walkS_act rfl (by rfl) (fun K hK => ?_)
    refine wp_store_one _ _ _ rfl g (2 + s) (by simp [Act.eval]) (slvW (some ⟨blk, 0, none⟩, r.length, cap)) rfl rfl rfl 48 (headW now b sl) HH6.out (by rw [headW_len]; omega) whint_size (fun w7 h7 hb7 hz7 ho7 => ?_)
    refine hK _ _ trivial ?_
    clear hK K
    unfold walkS orThrow
    dsimp only
    rw [headW_set] at h7
    have HO7 := Lib.hid (HO6.out.storeW (.inl rfl) hb7 hz7 ho7)
    have HD7 := Lib.hid (HD6.out.heap (ho7 b (Ne.symm HT.out.gb)))
    have HR7 := Lib.hid (H6.out.sameW (w' := w7) fun k e => ho7 k (by injection e with e; exact fun e2 => hbg (e.trans e2)))
    have H7 := Lib.hid h7
    clear h7 hb7 hz7 ho7 HO6 HD6 H6 HH6
    have T7 := Lib.hid (HT.out.next hs64 (v := (some ⟨blk, 0, none⟩, r.length, cap)) (ys := r) H7.out HD7.out HR7.out (fun i hi hne k e => HO7.out.block k ((HT.out.row i hi).lt k e).2 (fun hf => by
      rcases hf with e2 | e2 | e2
      · exact HT.out.rg hi e e2
      · exact HT.out.rb hi e e2
      · exact hne (HT.out.apart i s blk hi hs64 (by rw [← e2]; exact e) HOWN.out))) (fun k e => .inl (by rw [HOWN.out]; exact e)) HTE.out (HT.out.kept.out id))
    clear H7 HD7 HR7
    go_wp2_with fail
    go_ret
    refine ⟨rfl, _, _, T7.out, fun k hk => ?_, HO7.out.weakW fun k hk => ?_⟩
    · rcases ownW_set (G := fun _ => False) HT.out.len hs64 (v := (some ⟨blk, 0, none⟩, r.length, cap)) (fun k e => .inl (by rw [HOWN.out]; exact e)) hk with h1 | h1
      · exact h1
      · exact h1.elim
    · rcases hk with rfl | rfl | rfl
      · exact .inl rfl
      · exact .inr (.inl rfl)
      · exact .inr (.inr ⟨s, hs64, HOWN.out⟩)
end
end Go.Proofs.Ythbboiolhejmmaa
