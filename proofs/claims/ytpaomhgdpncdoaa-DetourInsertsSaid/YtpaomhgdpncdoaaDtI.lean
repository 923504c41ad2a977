/- Addresses in a row of the call's own: one is stored anew; slices.Clone, slices.Reverse of addresses. Condition: at most 2^31 addresses. -/
import Derived.Test.YtpaomhgdpncdoaaDtH
import Derived.Test.YtpaomhgdpncdoaaJSrB
import Derived.Lib.SliceRun
namespace Go.Proofs.Ytpaomhgdpncdoaa
open Go.RowKit
set_option linter.unusedVariables false

theorem setCs_get : ∀ (us xs : List Value) (o j : Nat), o + us.length ≤ xs.length → (setCs xs o us)[j]? = if o ≤ j ∧ j < o + us.length then us[j - o]? else xs[j]?
  | [], xs, o, j, h => by
    rw [if_neg (by simp)]
    rfl
  | u :: r, xs, o, j, h => by
    rw [List.length_cons] at h
    have ih := setCs_get r (xs.set o u) (o + 1) j (by rw [List.length_set]; omega)
    show (setCs (xs.set o u) (o + 1) r)[j]? = _
    rw [ih]
    by_cases h1 : j = o
    · subst h1
      rw [if_neg (by omega), if_pos (by simp), Nat.sub_self, List.getElem?_set_self (by omega)]
      rfl
    · by_cases h2 : o + 1 ≤ j ∧ j < o + 1 + r.length
      · rw [if_pos h2, if_pos (by simp only [List.length_cons]; omega), show j - o = (j - (o + 1)) + 1 by omega, List.getElem?_cons_succ]
      · rw [if_neg h2, if_neg (by simp only [List.length_cons]; omega), List.getElem?_set_ne (by omega)]
theorem ownsRow_set {w : World} {base k n c g : Nat} {t : TypeId} {xs : List Value} (h : w.ownsRow base t k (.slice (some ⟨g, 0, none⟩) n c) n xs) (i : Nat) (u : Value) (hi : i < xs.length) : (w.setCell ⟨g, i, none⟩ u).ownsRow base t k (.slice (some ⟨g, 0, none⟩) n c) n (xs.set i u) := by
  obtain ⟨h1, h2⟩ := h
  refine ⟨by rw [List.length_set]; exact h1, ?_⟩
  rcases h2 with ⟨e, h0⟩ | ⟨g', cap, cur, hv, hbg, hg, hnc, hcm, hsz, htk⟩
  · cases e
  · injection hv with hA hn' hc'
    injection hA with hA
    injection hA with hA _ _
    subst hA hc'
    refine .inr ⟨g, c, cur.setIfInBounds i u, rfl, hbg, ?_, hnc, hcm, by simpa using hsz, ?_⟩
    · simp [World.setCell, Array.getElem?_modify, hg]
    · rw [← htk]
      simp [List.take_set]
theorem ownsRow_setCells {base k n c g : Nat} {t : TypeId} : ∀ (us : List Value) (o : Nat) (w : World) (xs : List Value), w.ownsRow base t k (.slice (some ⟨g, 0, none⟩) n c) n xs → o + us.length ≤ xs.length → (w.setCells g o us).ownsRow base t k (.slice (some ⟨g, 0, none⟩) n c) n (setCs xs o us)
  | [], _, _, _, h, _ => h
  | u :: r, o, w, xs, h, hl => by
    rw [List.length_cons] at hl
    exact ownsRow_setCells r (o + 1) _ _ (ownsRow_set h o u (by omega)) (by rw [List.length_set]; omega)
theorem AllA.set {l : List (List Int)} (h : AllA l) {s : List Int} (hs : s.length = 16) (ha : AllB s) (i : Nat) : AllA (l.set i s) := fun y hy => by
  rcases List.mem_or_eq_of_mem_set hy with h1 | h1
  · exact h y h1
  · rw [h1]; exact ⟨hs, ha⟩
theorem setD_get (l : List (List Int)) (i j : Nat) (s : List Int) (hi : i < l.length) : (l.set i s).getD j zero16 = if j = i then s else l.getD j zero16 := by
  by_cases h : j = i
  · subst h; simp [List.getD, hi]
  · rw [if_neg h]; simp [List.getD, List.getElem?_set_ne (Ne.symm h)]
theorem flatA_set {l : List (List Int)} (h : AllA l) {s : List Int} (hs : s.length = 16) (ha : AllB s) {i : Nat} (hi : i < l.length) : setCs (cellsB l.flatten) (i * 16) (cellsB s) = cellsB (l.set i s).flatten := by
  have hf := flatA_len h
  have hf2 := flatA_len (h.set hs ha i)
  rw [List.length_set] at hf2
  apply List.ext_getElem?
  intro j
  rw [setCs_get _ _ _ _ (by rw [cellsB_length, cellsB_length, hs, hf]; omega), cellsB_length, hs]
  by_cases hj : j < l.length * 16
  · have e : j = j / 16 * 16 + j % 16 := by omega
    rw [cellsB_get (xs := (l.set i s).flatten) (by rw [hf2]; exact hj)]
    have h3 : (l.set i s).flatten.getD j 0 = ((l.set i s).getD (j / 16) zero16).getD (j % 16) 0 := by
      have := flatA_get (h.set hs ha i) (i := j / 16) (j := j % 16) (by rw [List.length_set]; omega) (by omega)
      rw [← e] at this
      exact this
    rw [h3, setD_get l i _ s hi]
    by_cases hm : i * 16 ≤ j ∧ j < i * 16 + 16
    · rw [if_pos hm, if_pos (by omega), cellsB_get (by rw [hs]; omega), show j - i * 16 = j % 16 by omega]
    · rw [if_neg hm, if_neg (by omega), cellsB_get (by rw [hf]; exact hj)]
      have := flatA_get h (i := j / 16) (j := j % 16) (by omega) (by omega)
      rw [← e] at this
      rw [this]
  · rw [if_neg (by omega), List.getElem?_eq_none (by rw [cellsB_length, hf]; omega), List.getElem?_eq_none (by rw [cellsB_length, hf2]; omega)]
/-- one address of a row of the call's own is stored anew -/
theorem OwnA.setAt {t : TypeId} {w : World} {base n c g : Nat} {l : List (List Int)} (h : OwnA t w base (some ⟨g, 0, none⟩) n c l) {s : List Int} (hs : s.length = 16) (ha : AllB s) {i : Nat} (hi : i < n) : OwnA t (w.setCells g (i * 16) (cellsB s)) base (some ⟨g, 0, none⟩) n c (l.set i s) := by
  obtain ⟨h1, h2, h3⟩ := h
  have h4 := ownsRow_setCells (cellsB s) (i * 16) w _ h1 (by rw [cellsB_length, cellsB_length, hs, flatA_len h2, h3]; omega)
  rw [flatA_set h2 hs ha (by omega)] at h4
  exact ⟨h4, h2.set hs ha i, by rw [List.length_set]; exact h3⟩
theorem OwnA.form {t : TypeId} {w : World} {base n c : Nat} {A : Option Addr} {l : List (List Int)} (h : OwnA t w base A n c l) (hn : 0 < n) : ∃ g, A = some ⟨g, 0, none⟩ ∧ base ≤ g ∧ g < w.heap.size := by
  obtain ⟨g, cap, hv, hb, hlt⟩ := World.ownsRow.form h.1 hn
  injection hv with hA
  exact ⟨g, hA, hb, hlt⟩
theorem OwnA.there {t : TypeId} {w : World} {base n c g : Nat} {l : List (List Int)} (h : OwnA t w base (some ⟨g, 0, none⟩) n c l) {i : Nat} (hi : i < n) : w.there g (i * 16) 16 := fun j hj => by
  have hc : w.cell? ⟨g, i * 16 + j, none⟩ = some (.int .u8 (l.flatten.getD (i * 16 + j) 0)) := by
    have := World.ownsRow.cells h.1 (g := g) rfl (i * 16 + j) (.int .u8 (l.flatten.getD (i * 16 + j) 0)) (cellsB_get (by rw [flatA_len h.2.1, h.2.2]; omega))
    simpa [Addr.add_lit] using this
  refine ⟨by rw [hc]; rfl, ?_⟩
  obtain ⟨⟨h1, h2⟩, _⟩ := h
  rcases h2 with ⟨e, h0⟩ | ⟨g', cap, cur, hv, hbg, hg, hnc, hcm, hsz, htk⟩
  · cases e
  · injection hv with hA hn' hc'
    injection hA with hA
    injection hA with hA _ _
    subst hA
    simp [World.frozen?, hg]

theorem OwnA.fresh (w : World) (t : TypeId) {base : Nat} (hb : base ≤ w.heap.size) : OwnA t (w.alloc (.cells #[] t)) base (some ⟨w.heap.size, 0, none⟩) 0 0 [] :=
  ⟨⟨rfl, .inr ⟨w.heap.size, 0, #[], rfl, hb, heap_alloc_new w (.cells #[] t), Nat.le_refl _, by simp [maxLen], rfl, rfl⟩⟩, AllA.nil, rfl⟩
set_option maxRecDepth 100000 in
set_option maxHeartbeats 1600000 in
theorem cloneA_any (ad : Addr) (n c : Nat) (l : List (List Int)) (w : World) (hn : n ≤ 4294967296) (hb : As w w.heap.size (some ad) n l) : Calls Try.prog 56 #[.slice (some ad) n c] w fun e w' => ∃ A' c', e = .returned (.slice A' n c') ∧ OwnA 39 w' w.heap.size A' n c' l ∧ Low w w' := by
  obtain ⟨i0, hi, hz0, hz1, hz2⟩ := info_parts info_addrR
  have hl := Low.alloc w (.cells #[] 39)
  have hO := OwnA.fresh (base := w.heap.size) w 39 (Nat.le_refl _)
  have hb1 := hb.below hl
  have HLT := Lib.hid hO.lt
  have HL := Lib.hid hl
  have hnil : (binOp .eql 23 (.slice (some ad) n c) (.slice none 0 0)).run Try.prog w = .ok (.bool false) w := Lib.run_eql_slice_nil w 23 39 (some ad) n c 0 0 Try.underlying23
  clear hb hl
  go_enter Try.func56, Try.ntmps56
  go_wp2_with (at_builtin; refine wpList_append_as rfl _ _ 23 rfl w.heap.size 39 i0 Try.underlying23 hi hz0 hz1 hz2 _ 0 0 [] rfl hO _ n c w.heap.size l rfl hb1 (by omega) (by simp) ?_; intro A2 c2 w1 hown hgr hob; refine Hid.out ?_)
  refine Lib.hid ?_
  have hB := HL.out.grown hgr (by simp) fun k e => (HLT.out k e).1
  rw [List.nil_append] at hown
  have HOW := Lib.hid hown
  clear hgr hob hown hO hb1 hnil
  go_wp2_with fail
  go_ret
  exact ⟨A2, c2, by simp, by simpa using HOW.out, hB⟩
/-- the first k and the last k of a list are exchanged -/
theorem walkS_forkD {P : Program} {ops : Array Oper} {Q : Exit → Act → World → Prop} {S : World → Prop} {i j : Nat} {p q : Plan} {a : Act} {w : World} (h1 : walkS P ops Q S (.act i p) a w) (h2 : walkS P ops Q S (.act j q) a w) : walkS P ops Q S (.fork i p j q) a w := ⟨h1, h2⟩
def Mir (l l' : List (List Int)) (k : Nat) : Prop := l'.length = l.length ∧ ∀ a, a < l.length → l'.getD a zero16 = if a < k ∨ l.length ≤ a + k then l.getD (l.length - 1 - a) zero16 else l.getD a zero16
theorem Mir.zero (l : List (List Int)) : Mir l l 0 := ⟨rfl, fun a ha => by rw [if_neg (by omega)]⟩
theorem Mir.all {l l' : List (List Int)} {k : Nat} (h : Mir l l' k) (hk : l.length ≤ 2 * k + 1) : l' = l.reverse := by
  apply List.ext_getElem?
  intro a
  by_cases ha : a < l.length
  · have h2 := h.2 a ha
    have e1 : l'[a]? = some (l'.getD a zero16) := by rw [List.getD_eq_getElem?_getD, List.getElem?_eq_getElem (by rw [h.1]; exact ha)]; rfl
    have e2 : l.reverse[a]? = some (l.getD (l.length - 1 - a) zero16) := by
      rw [List.getElem?_reverse ha, List.getD_eq_getElem?_getD, List.getElem?_eq_getElem (by omega)]; rfl
    rw [e1, e2, h2]
    split
    · rfl
    · rw [show l.length - 1 - a = a by omega]
  · rw [List.getElem?_eq_none (by rw [h.1]; omega), List.getElem?_eq_none (by rw [List.length_reverse]; omega)]
theorem Mir.next {l l' : List (List Int)} {k : Nat} (h : Mir l l' k) (hk : 2 * k + 1 < l.length) : Mir l ((l'.set k (l'.getD (l.length - 1 - k) zero16)).set (l.length - 1 - k) (l'.getD k zero16)) (k + 1) := by
  refine ⟨by rw [List.length_set, List.length_set, h.1], fun a ha => ?_⟩
  rw [setD_get _ _ _ _ (by rw [List.length_set, h.1]; omega), setD_get _ _ _ _ (by rw [h.1]; omega)]
  by_cases h1 : a = l.length - 1 - k
  · rw [if_pos h1, if_pos (by omega), h.2 k (by omega), if_neg (by omega)]
    congr 1
    omega
  · rw [if_neg h1]
    by_cases h2 : a = k
    · subst h2
      rw [if_pos rfl, if_pos (by omega), h.2 _ (by omega), if_neg (by omega)]
    · rw [if_neg h2, h.2 a ha]
      by_cases h3 : a < k ∨ l.length ≤ a + k
      · rw [if_pos h3, if_pos (by omega)]
      · rw [if_neg h3, if_neg (by omega)]
set_option maxRecDepth 100000 in
set_option maxHeartbeats 3200000 in
theorem reverseA_any (g n c base : Nat) (l : List (List Int)) (w : World) (hn : n ≤ 4294967296) (h0 : 0 < n) (hbase : base ≤ w.heap.size) (ho : OwnA 39 w base (some ⟨g, 0, none⟩) n c l) : Calls Try.prog 57 #[.slice (some ⟨g, 0, none⟩) n c] w fun e w' => e = .returned (.tuple #[]) ∧ OwnA 39 w' base (some ⟨g, 0, none⟩) n c l.reverse ∧ Below base w w' := by
  have HLen := Lib.hid ho.2.2
  have HA0 := Lib.hid ho.2.1
  obtain ⟨g', hg', hgb, hglt⟩ := ho.form h0
  obtain rfl : g = g' := by injection hg' with e; injection e
  have HO := Lib.hid ho
  have HM0 := Lib.hid (Mir.zero l)
  have HB0 := Lib.hid (Below.refl base w)
  clear ho hg'
  go_enter Try.func57, Try.ntmps57
  go_wp2_with fail
  go_loopw [2, 3] (fun s i wr => ∃ (k : Nat) (l' : List (List Int)), s = .int .i64 k ∧ i = .int .i64 ((n : Int) - 1 - k) ∧ 2 * k ≤ n + 1 ∧ Hid (Mir l l' k) ∧ Hid (OwnA 39 wr base (some ⟨g, 0, none⟩) n c l') ∧ Hid (Below base w wr)) (fun s _ _ => n - (intOf s).toNat)
  case atStart => exact ⟨0, l, rfl, by go_num, by omega, HM0, HO, HB0⟩
  case round =>
    clear HO HM0 HB0
    obtain ⟨k, l', rfl, rfl, hk, HM, HO, HBR⟩ := hrel
    by_cases hlt : 2 * k + 1 < n
    · have hkn : (k : Int) < (n : Int) - 1 - k := by omega
      go_wp2_with fail
      obtain ⟨j, hj⟩ : ∃ j : Nat, j = n - 1 - k := ⟨_, rfl⟩
      have hji : (n : Int) - 1 - k = (j : Int) := by omega
      rw [hji]
      have hk2 : (k : Int) < n := by omega
      have hj2 : (j : Int) < n := by omega
      have hj3 : j < n := by omega
      have hjh := Lib.hid hj
      clear hj hji
      refine wp_region_planN (fun _ => True) (.rd 0 (.rd 1 (.rd 2 (.rd 3 (.rd 4 (.rd 5 (.rd 6 (.rd 8 (.rd 9 (.rd 10 (.fork 7 (.act 11 (.rd 12 (.act 13 (.rd 14 (.act 15 (.done)))))) 11 (.act 7 (.rd 12 (.act 13 (.rd 14 (.act 15 (.done)))))))))))))))))
        (by kernel_rfl) (by kernel_rfl) (by kernel_rfl) trivial ?_
      have hO2 : OwnA 39 wr.drew base (some ⟨g, 0, none⟩) n c l' := HO.out.below (Below.drew (Below.refl _ _))
      have hB2 : Below base w wr.drew := Below.drew HBR.out
      generalize wr.drew = w2 at *
      iterate 10 (refine walkS_read (v := _) rfl (by rfl) (by intro y hy; go_simp; try rfl) ?_; simp only [Act.put, List.setIfInBounds_toArray, List.set_cons_zero, List.set_cons_succ])
      have hal := hO2.2.1
      have hry : w2.rangeAt g (j * 16) (cellsB (l'.getD j zero16)) := by have h := ((hO2.lies (Nat.le_refl _)).at_ hj3).2; rwa [Nat.zero_add] at h
      have hrx : w2.rangeAt g (k * 16) (cellsB (l'.getD k zero16)) := by have h := ((hO2.lies (Nat.le_refl _)).at_ (show k < n by omega)).2; rwa [Nat.zero_add] at h
      obtain ⟨x16, xa⟩ := hal.getD k
      obtain ⟨y16, ya⟩ := hal.getD j
      have HNX := Lib.hid (HM.out.next (by rw [HLen.out]; omega))
      rw [HLen.out, ← hjh.out] at HNX
      generalize l'.getD j zero16 = y at *
      generalize l'.getD k zero16 = x at *
      clear hal
      refine walkS_forkD ?fa ?fb
      case' fb =>
        refine walkS_act rfl (by rfl) (fun K hK => ?_)
        refine wp_load_mid 39 (.tmp 24) rfl g (k * 16) rfl (cellsB x) _ hrx Try.underlying39 rfl (by rw [addr_size]; simp [cellsB_length, x16]) ?_
        refine hK _ _ trivial ?_
        clear hK K
        simp only [Act.put, List.setIfInBounds_toArray, List.set_cons_zero, List.set_cons_succ]
        refine walkS_act rfl (by rfl) (fun K hK => ?_)
        refine wp_load_mid 39 (.tmp 20) rfl g (j * 16) rfl (cellsB y) _ hry Try.underlying39 rfl (by rw [addr_size]; simp [cellsB_length, y16]) ?_
      case' fa =>
        refine walkS_act rfl (by rfl) (fun K hK => ?_)
        refine wp_load_mid 39 (.tmp 20) rfl g (j * 16) rfl (cellsB y) _ hry Try.underlying39 rfl (by rw [addr_size]; simp [cellsB_length, y16]) ?_
        refine hK _ _ trivial ?_
        clear hK K
        simp only [Act.put, List.setIfInBounds_toArray, List.set_cons_zero, List.set_cons_succ]
        refine walkS_act rfl (by rfl) (fun K hK => ?_)
        refine wp_load_mid 39 (.tmp 24) rfl g (k * 16) rfl (cellsB x) _ hrx Try.underlying39 rfl (by rw [addr_size]; simp [cellsB_length, x16]) ?_
      all_goals
        refine hK _ _ trivial ?_
        clear hK K hrx hry
        simp only [Act.put, List.setIfInBounds_toArray, List.set_cons_zero, List.set_cons_succ]
        refine walkS_read (v := _) rfl (by rfl) (by intro y hy; go_simp; try rfl) ?_
        simp only [Act.put, List.setIfInBounds_toArray, List.set_cons_zero, List.set_cons_succ]
        refine walkS_act rfl (by rfl) (fun K hK => ?_)
        have hth := hO2.there (show k < n by omega)
        refine wp_store_mid 39 (.tmp 26) (.tmp 21) rfl g (k * 16) (cellsB y).toArray rfl rfl (by simpa [cellsB_length, y16] using hth) (by rw [addr_size]; simp [cellsB_length, y16]) (all_oneCell_toArray (cellsB_one y)) ?_
        have hO3 := hO2.setAt y16 ya (show k < n by omega)
        have hB3 := low_setMid hgb (cellsB y) (k * 16) w2 w hB2
        refine hK _ _ trivial ?_
        clear hK K hth hO2 hB2
        simp only [Act.put]
        generalize w2.setCells g (k * 16) (cellsB y) = w3 at *
        refine walkS_read (v := _) rfl (by rfl) (by intro y hy; go_simp; try rfl) ?_
        simp only [Act.put, List.setIfInBounds_toArray, List.set_cons_zero, List.set_cons_succ]
        refine walkS_act rfl (by rfl) (fun K hK => ?_)
        have hth := hO3.there hj3
        refine wp_store_mid 39 (.tmp 27) (.tmp 25) rfl g (j * 16) (cellsB x).toArray rfl rfl (by simpa [cellsB_length, x16] using hth) (by rw [addr_size]; simp [cellsB_length, x16]) (all_oneCell_toArray (cellsB_one x)) ?_
        have HO4 := Lib.hid (hO3.setAt x16 xa hj3)
        have HB4 := Lib.hid (low_setMid hgb (cellsB x) (j * 16) w3 w hB3)
        refine hK _ _ trivial ?_
        clear hK K hth hO3 hB3
        simp only [Act.put]
        generalize w3.setCells g (j * 16) (cellsB x) = w4 at *
        refine walkS_done ?_
        go_wp2_with fail
        exact ⟨⟨k + 1, _, by go_num, congrArg (Value.int .i64) (by have := hjh.out; omega), by omega, HNX, HO4, HB4⟩, by simp [intOf]; omega⟩
    · have hkn : ¬ (k : Int) < (n : Int) - 1 - k := by omega
      go_wp2_with fail
      exact bodyPost_end (results_nilD Try.results57 _ _) rfl ⟨rfl, by rw [← HM.out.all (by rw [HLen.out]; omega)]; exact HO.out, HBR.out⟩
end Go.Proofs.Ytpaomhgdpncdoaa
