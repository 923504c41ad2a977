/- Stage 23: Set. Conditions: the wheel lies so, the tick is not less than 0 and small. -/
import Derived.Test.YthbboiolhejmmaaWhK
set_option maxRecDepth 100000
namespace Go.Proofs.Ythbboiolhejmmaa
open Go.RowKit Go.Maps
set_option linter.unusedVariables false
attribute [local go_sem] Oper.semAt_some

theorem nodup_lenW : ∀ (k : Nat) (l : List Int), l.Nodup → (∀ x ∈ l, 0 ≤ x ∧ x < k) → l.length ≤ k
  | 0, l, _, h => by
    cases l with
    | nil => exact Nat.le_refl _
    | cons x r =>
      have := h x List.mem_cons_self
      omega
  | k + 1, l, hn, h => by
    by_cases hm : ((k : Nat) : Int) ∈ l
    · have h1 := nodup_lenW k (l.erase k) (hn.erase _) fun x hx => by
        have h2 := (hn.mem_erase_iff).1 hx
        have h3 := h x h2.2
        have h4 := h2.1
        omega
      rw [List.length_erase_of_mem hm] at h1
      omega
    · have h1 := nodup_lenW k l hn fun x hx => by
        have h3 := h x hx
        have h4 : x ≠ (k : Int) := fun e => hm (e ▸ hx)
        omega
      omega
theorem KeepW.short {l : List (Int × Int)} (h : KeepW l) : l.length ≤ 256 := by
  have h1 := nodup_lenW 256 (l.map (·.1)) h.keys fun x hx => by
    obtain ⟨p, hp, rfl⟩ := List.mem_map.1 hx
    exact h.ids p hp
  rwa [List.length_map] at h1
theorem TellW.short {xs : List (List Int)} {l : List (Int × Int)} (h : TellW xs l) (hk : KeepW l) {s : Nat} (hs : s < 64) : (xs.getD s []).length ≤ 256 :=
  nodup_lenW 256 _ (h.nd s hs) fun x hx => hk.ids _ (whenW_mem ((h.mem s hs x).1 hx).1)
theorem atW_le {now a : Int} (h0 : 0 ≤ now) (h1 : now ≤ 1000) (ha : a ≤ 9223372036854775807) : 0 ≤ atW now a ∧ atW now a ≤ 9223372036854775807 := by
  unfold atW
  split <;> omega
section
variable {w w' : World} {g b : Nat} {now now' : Int} {sl : List SlcW} {xs : List (List Int)} {l l' : List (Int × Int)}
theorem whsetNot_any (c1 : w.cell? ⟨g, 1, none⟩ = some (.map (some b))) (id a : Int) (hm : mayW id = false) : Calls Try.prog 8 #[.pointer (some ⟨g, 0, none⟩), .int .i64 id, .int .i64 a] w fun e w' => e = .returned (.bool false) ∧ w' = w := by
  have HM := Lib.hid (whmade_any c1)
  unfold mayW at hm
  have hm2 : id < 0 ∨ 256 ≤ id := by
    rcases Int.lt_or_le id 0 with h | h
    · exact .inl h
    · rcases Int.lt_or_le id 256 with h2 | h2
      · simp [h, h2] at hm
      · exact .inr h2
  go_enter Try.func8, Try.ntmps8
  go_wp2_with fail
  refine HM.out.mono ?_
  rintro e w2 ⟨rfl, rfl⟩
  clear hm
  by_cases h0 : id < 0
  · go_wp2_with fail
    go_ret
    exact ⟨rfl, rfl⟩
  · have h1 : 256 ≤ id := by omega
    go_wp2_with fail
    go_ret
    exact ⟨rfl, rfl⟩
set_option maxHeartbeats 3200000 in
set_option maxRecDepth 100000 in
theorem whset_any (h : WhAt w g b now sl xs l) (hn0 : 0 ≤ now) (hn1 : now ≤ 1000) (id a : Int) (hm : mayW id = true) (ha : i64ok a) : Calls Try.prog 8 #[.pointer (some ⟨g, 0, none⟩), .int .i64 id, .int .i64 a] w fun e w' => e = .returned (.bool true) ∧
    ∃ sl' xs', WhAt w' g b now sl' xs' (setW l now id a) ∧ Grow (ownW g b sl) (ownW g b sl') w ∧ Out (ownW g b sl) w w' := by
  have hid : 0 ≤ id ∧ id < 256 := by
    unfold mayW at hm
    simpa using hm
  have hid64 : i64ok id := by unfold i64ok; omega
  have HM := Lib.hid (whmade_any h.c1)
  have HU := Lib.hid (whunset_any h id hid64)
  have HT := Lib.hid h
  have HK := Lib.hid (keyP id hid64)
  obtain ⟨hid0, hid1⟩ := hid
  have g0 : ¬ id < 0 := by omega
  have g1 : ¬ 256 ≤ id := by omega
  unfold i64ok at ha
  have hwr : IntKind.i64.wrap (now + 1) = now + 1 := by rw [IntKind.wrap_i64]; omega
  clear h hm hid64
  go_enter Try.func8, Try.ntmps8
  go_wp2_with fail
  refine HM.out.mono ?_
  rintro e w2 ⟨rfl, rfl⟩
  go_wp2_with fail
  refine HU.out.mono ?_
  rintro e w3 ⟨rfl, sl3, xs3, h3, hf3, ho3⟩
  have T3 := Lib.hid h3
  have HF3 := Lib.hid hf3
  have HO3 := Lib.hid ho3
  have c0 := h3.c0
  have c1 := h3.c1
  have hmx : max a (now + 1) = atW now a := by unfold atW; split <;> omega
  have hb := atW_le hn0 hn1 ha.2
  obtain ⟨m, hmm⟩ : ∃ m, m = atW now a := ⟨_, rfl⟩
  rw [← hmm] at hmx hb
  have HMX := Lib.hid hmx
  have HMM := Lib.hid hmm
  have HV := Lib.hid (plainElem_int (H := Unit) Try.underlying3 (show (Lit.int .i64 m).wf = true by simp [Lit.wf, IntKind.min, IntKind.max, IntKind.bits, IntKind.signed]; omega))
  have hno : hasS (outS l id) id = false := by rw [hasS_out]; simp
  obtain ⟨D, hD, hDM⟩ := h3.due
  have HDM := Lib.hid (hDM.put (a := m) (hD.tidy keyedP) hD.isMap hno)
  have HD := Lib.hid hD
  have hsh := h3.kept.short
  have HKP := Lib.hid (h3.kept.snoc hno hid0 hid1 hb.1 hb.2)
  have HTE := Lib.hid (h3.tell.put (a := m) hno)
  obtain ⟨s, hs⟩ : ∃ s, s = slotW m := ⟨_, rfl⟩
  have hs64 : s < 64 := by rw [hs]; exact slotW_lt _
  have hmod := slotW_eq hb.1
  rw [← hs] at HTE hmod
  have HMOD := Lib.hid hmod
  have hlen := h3.tell.short h3.kept hs64
  have hall : AllI [id] := .cons (by omega) (by omega) .nil
  have hsl : s < sl3.length := by rw [h3.len]; exact hs64
  have HCS := Lib.hid (headW_get (now := now) (b := b) hsl)
  have HR3 := Lib.hid (h3.row s hs64)
  have hgb := h3.gb
  have hog : ∀ k, (slvW (sl3.getD s noW)).ownBlock = some k → k ≠ g ∧ k ≠ b := fun k e => ⟨h3.rg hs64 e, h3.rb hs64 e⟩
  have HOG := Lib.hid hog
  have HVV : ∃ v, Hid (v = sl3.getD s noW) := ⟨_, Lib.hid rfl⟩
  obtain ⟨v, HVV⟩ := HVV
  rw [← HVV.out] at HCS HR3 HOG
  obtain ⟨A, n, c⟩ := v
  have HXL := Lib.hid HR3.out.len
  generalize xs3.getD s [] = ys at *
  clear h3 hf3 ho3 HU HM hmx hmm hno hD hDM hs hmod hog
  go_wp2_with (at_mapUpdate; refine Hid.out ?_)
  rw [HMX.out]
  have hpl : (outS l id).length < maxLen := by simp only [maxLen]; omega
  refine Lib.hid ?_
  refine wpList_mapUpdate_in _ rfl _ _ _ 45 rfl 3 3 keyedP Try.underlying45 (plainElem Try.prog 3) b (outS l id).length D rfl HD.out hpl _ _ _ rfl rfl HK.out _ [] HV.out ?_
  intro w4 hm4 ht4
  have hg4 := ht4.grown
  have HD4 := Lib.hid (trimW hm4 HDM.out)
  have HH4 := Lib.hid (T3.out.head.same (hg4.block g T3.out.head.lt (fun e => by injection e with e; exact hgb e)))
  have HO4 := Lib.hid ((Out.refl (fun k => k = g ∨ k = b ∨ (Value.slice A n c).ownBlock = some k) w3).grownW hg4 (fun k _ e => by injection e with e; exact .inr (.inl e.symm)))
  have HR4 := Lib.hid (HR3.out.sameW fun k e => hg4.block k (HR3.out.lt k e).2 (fun e2 => by injection e2 with e2; exact (HOG.out k e).2 e2))
  clear hg4 ht4 hm4 hpl c0 c1
  go_wp2_with fail
  simp only [Act.put]
  have hs2 : (s : Int) < 64 := by omega
  have hmod := HMOD.out
  refine wp_region_planN (fun y => True) (.rd 0 (.rd 1 (.rd 2 (.rd 3 (.rd 4 (.rd 5 (.rd 6 (.rd 7 (.rd 8 (.rd 10 (.rd 13 (.rd 14 (.fork 9 (.act 11 (.act 12 (.rd 15 (.act 16 (.done))))) 11 (.act 9 (.act 12 (.rd 15 (.act 16 (.done))))))))))))))))))
    (by kernel_rfl) (by kernel_rfl) (by kernel_rfl) trivial ?_
  have hld : Low w4 w4.drew := Below.drew (Below.refl _ w4)
  have hh5 := HH4.out.below hld HH4.out.lt
  have hd5 := HD4.out.heap (hld.block b HD4.out.lt)
  have hr5 := HR4.out.below hld
  have ho5 := HO4.out.then_low hld
  clear hld HH4 HD4 HR4 HO4
  generalize w4.drew = w5 at *
  have hla := Low.alloc w5 (.cells #[.int .i64 id] 3)
  have HH5 := Lib.hid hh5
  have HH6 := Lib.hid (hh5.below hla hh5.lt)
  have HD6 := Lib.hid (hd5.heap (hla.block b hd5.lt))
  have HR6 := Lib.hid (hr5.below hla)
  have HO6 := Lib.hid (ho5.then_low hla)
  have HN6 := Lib.hid (BlkN.new w5 3 [id])
  replace HN6 : Hid (BlkN (w5.alloc (.cells #[.int .i64 id] 3)) 3 w5.heap.size [id]) := HN6
  clear hh5 hd5 hr5 ho5 hla
  iterate 12 (refine walkS_read (v := _) rfl (by rfl) (by
                    intro y hy
                    clear hy
                    first
                    | (go_simp; try rfl)) ?_; simp only [Act.put, List.setIfInBounds_toArray, List.set_cons_zero, List.set_cons_succ])
  refine walkS_forkD ?fa ?fb
  case' fa =>
    refine walkS_act rfl (by rfl) (fun K hK => ?_)
    have q0 : w5.cell? ⟨g, 2 + s, none⟩ = some (.slice A n c) := (HH5.out.cell (2 + s)).trans HCS.out
    go_simp
    refine hK _ _ trivial ?_
    clear hK K q0
    refine walkS_act rfl (by rfl) (fun K hK => ?_)
    go_simp
    refine hK _ _ trivial ?_
    clear hK K
  case' fb =>
    refine walkS_act rfl (by rfl) (fun K hK => ?_)
    go_simp
    refine hK _ _ trivial ?_
    clear hK K
    refine walkS_act rfl (by rfl) (fun K hK => ?_)
    have q0 : (w5.alloc (.cells #[.int .i64 id] 3)).cell? ⟨g, 2 + s, none⟩ = some (.slice A n c) := (HH6.out.cell (2 + s)).trans HCS.out
    go_simp
    refine hK _ _ trivial ?_
    clear hK K q0
  all_goals
    generalize w5.alloc (.cells #[.int .i64 id] 3) = w6 at *
    have hbs := HN6.out.bs (n := 1) hall HN6.out.lt rfl
    obtain ⟨i0, hi, hz0, hz1, hz2⟩ := info_int_partsP
    refine walkS_act rfl (by rfl) (fun K hK => ?_)
    refine wp_append_ns _ _ 36 rfl 0 3 i0 Try.underlying36 hi hz0 hz1 hz2 A n c ys rfl HR6.out _ 1 1 _ [id] rfl hbs (by have := HXL.out; omega) (Nat.zero_le _) (fun A' c' w7 hO7 hg7 hb7 => ?_)
    refine hK _ _ trivial ?_
    clear hK K hi hz0 hz1 hz2 hbs
    have HH7 := Lib.hid (HH6.out.same (hg7.block g HH6.out.lt (fun e => (HOG.out g e.symm).1 rfl)))
    have HD7 := Lib.hid (HD6.out.heap (hg7.block b HD6.out.lt (fun e => (HOG.out b e.symm).2 rfl)))
    have hn7 : ∀ k, (Value.slice A' (n + 1) c').ownBlock = some k → (Value.slice A n c).ownBlock = some k ∨ w3.heap.size ≤ k := fun k e => by
      rcases hb7 with h1 | h1
      · exact .inl (by rw [← h1]; exact e)
      · rw [h1] at e
        injection e with e
        rw [← e]
        exact .inr HO6.out.size
    have hg7' : ∀ k, (Value.slice A' (n + 1) c').ownBlock = some k → k ≠ g := fun k e e2 => by
      rcases hn7 k e with h1 | h1
      · exact (HOG.out k h1).1 e2
      · have := T3.out.head.lt
        omega
    have HG7 := Lib.hid hg7'
    have HN7 := Lib.hid hn7
    have HO7 := Lib.hid (HO6.out.grownW hg7 (fun k _ e => .inr (.inr e)))
    have HR7 := Lib.hid hO7
    clear hO7 hg7 hb7 hn7 hg7' HH6 HD6 HR6 HO6 HN6 HH5
    iterate 1 (refine walkS_read (v := _) rfl (by rfl) (by
                    intro y hy
                    clear hy
                    first
                    | (go_simp; try rfl)) ?_; simp only [Act.put, List.setIfInBounds_toArray, List.set_cons_zero, List.set_cons_succ])
    refine walkS_act rfl (by rfl) (fun K hK => ?_)
    refine wp_store_one _ _ _ rfl g (2 + s) (by simp [Act.eval]) (slvW (A', n + 1, c')) rfl rfl rfl 48 (headW now b sl3) HH7.out (by rw [headW_len]; omega) whint_size (fun w8 h8 hb8 hz8 ho8 => ?_)
    refine hK _ _ trivial ?_
    clear hK K
    unfold walkS orThrow
    dsimp only
    rw [headW_set] at h8
    have HO8 := Lib.hid (HO7.out.storeW (.inl rfl) hb8 hz8 ho8)
    have HD8 := Lib.hid (HD7.out.heap (ho8 b (Ne.symm hgb)))
    have HR8 := Lib.hid (HR7.out.sameW (w' := w8) fun k e => ho8 k (HG7.out k e))
    have H8 := Lib.hid h8
    clear h8 hb8 hz8 ho8 HO7 HD7 HH7 HR7
    have T8 := Lib.hid (T3.out.next hs64 (v := (A', n + 1, c')) (ys := ys ++ [id]) H8.out HD8.out HR8.out (fun i hi hne k e => HO8.out.block k ((T3.out.row i hi).lt k e).2 (fun hf => by
      rcases hf with e2 | e2 | e2
      · exact T3.out.rg hi e e2
      · exact T3.out.rb hi e e2
      · exact hne (T3.out.apart i s k hi hs64 e (by rw [← HVV.out]; exact e2)))) (fun k e => by rw [← HVV.out]; exact HN7.out k e) HTE.out HKP.out)
    clear H8 HD8 HR8
    go_wp2_with fail
    go_ret
    refine ⟨rfl, sl3.set s (A', n + 1, c'), xs3.set s (ys ++ [id]), ?_, fun k hk => ?_, HO3.out.trans (HO8.out.weakW (F' := ownW g b sl) fun k hk => ?_) (Grow.refl _ _)⟩
    · have h := T8.out
      rw [HMM.out] at h
      exact h
    · rcases ownW_set (G := fun k => w3.heap.size ≤ k) T3.out.len hs64 (v := (A', n + 1, c')) (fun k e => by rw [← HVV.out]; exact HN7.out k e) hk with h1 | h1
      · exact .inl (HF3.out k h1)
      · exact .inr (Nat.le_trans HO3.out.size h1)
    · refine HF3.out k ?_
      rcases hk with rfl | rfl | e
      · exact .inl rfl
      · exact .inr (.inl rfl)
      · exact .inr (.inr ⟨s, hs64, by rw [← HVV.out]; exact e⟩)
end
end Go.Proofs.Ythbboiolhejmmaa
