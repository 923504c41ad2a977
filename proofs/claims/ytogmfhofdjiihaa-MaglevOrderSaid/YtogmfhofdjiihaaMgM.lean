/- Stage 17: what a member's closure does in its turn: it takes the first slot that is free in its order. Conditions: 2 to 1000 slots; the node is an int, not 0. -/
import Derived.Test.YtogmfhofdjiihaaMgL
import Derived.Test.YtogmfhofdjiihaaPmE
import Derived.Test.YtogmfhofdjiihaaSlc
set_option maxRecDepth 100000
namespace Go.Proofs.Ytogmfhofdjiihaa
open Go.RowKit
set_option linter.unusedVariables false

/-- a member's closure, made from block x on: the table, the node, what is left of its order -/
def tkA (x : Nat) : Array Value := #[.pointer (some ⟨x + 2, 0, none⟩), .pointer (some ⟨x, 0, none⟩), .pointer (some ⟨x + 1, 0, none⟩)]
def tkV (x : Nat) : Value := .func (.func 34) #[] (tkA x)
/-- how it lies: of its order the first j slots are taken -/
structure TurnI (w : World) (g M : Nat) (t : List Int) (x : Nat) (nd : Int) (O : List Int) : Prop where
  tb : BlkV w 27 x [.slice (some ⟨g, 0, none⟩) M M]
  nb : BlkV w 3 (x + 1) [.int .i64 nd]
  ob : ∃ (q j : Nat) (A : Option Addr), q ≠ g ∧ BlkN w 3 q O ∧ j ≤ M ∧ (j < M → A = some ⟨q, j, none⟩) ∧ BlkV w 27 (x + 2) [.slice A (M - j) (M - j)] ∧ ∀ z, z < j → t.getD (O.getD z 0).toNat 0 ≠ 0
section
variable {w w' : World} {g M x : Nat} {t t' O : List Int} {nd : Int}
theorem ints_apartM : (3 : Nat) ≠ 27 := by decide +kernel
theorem TurnI.keep (h : TurnI w g M t x nd O) (hx : g < x) (hk : ∀ k cs ty, k ≠ g → (ty = 3 ∨ ty = 27) → w.heap[k]? = some (.cells cs ty (0, 0)) → w'.heap[k]? = some (.cells cs ty (0, 0)))
    (ht : ∀ s : Nat, t.getD s 0 ≠ 0 → t'.getD s 0 ≠ 0) : TurnI w' g M t' x nd O := by
  obtain ⟨h1, h2, q, j, A, h3, h4, h5, h6, h7, h8⟩ := h
  exact ⟨hk _ _ _ (by omega) (.inr rfl) h1, hk _ _ _ (by omega) (.inl rfl) h2, q, j, A, h3, hk _ _ _ h3 (.inl rfl) h4, h5, h6, hk _ _ _ (by omega) (.inr rfl) h7, fun z hz => ht _ (h8 z hz)⟩
theorem TurnI.below (h : TurnI w g M t x nd O) (hx : g < x) (hl : Low w w') : TurnI w' g M t x nd O :=
  h.keep hx (fun k cs ty _ _ hc => (hl.block k (Array.getElem?_eq_some_iff.1 hc).1).trans hc) fun _ h => h
theorem turnP_kept (hn : nd ≠ 0) (s : Nat) (h : t.getD s 0 ≠ 0) : (turnP O t nd).getD s 0 ≠ 0 := by
  unfold turnP
  split
  · exact h
  · rename_i y _
    by_cases e : y.toNat = s
    · subst e
      have hlt : y.toNat < t.length := by
        apply Classical.byContradiction
        intro hc
        exact h (by simp [List.getD, List.getElem?_eq_none (show t.length ≤ y.toNat by omega)])
      simp [List.getD, hlt]
      exact hn
    · simpa [List.getD, List.getElem?_set_ne e] using h
/-- another member's closure stays, whoever has taken a slot -/
theorem TurnI.other (h : TurnI w g M t x nd O) (hx : g < x) {y : Nat} (hxy : x + 3 ≤ y ∨ y + 3 ≤ x) {P : List Value} (hP : BlkV w 27 (y + 2) P) {n2 : Int} {O2 : List Int} (hn : n2 ≠ 0)
    (hk : ∀ k, k ≠ g → k ≠ y + 2 → w'.heap[k]? = w.heap[k]?) : TurnI w' g M (turnP O2 t n2) x nd O := by
  obtain ⟨h1, h2, q, j, A, h3, h4, h5, h6, h7, h8⟩ := h
  have hq : q ≠ y + 2 := by
    rintro rfl
    unfold BlkV at hP
    unfold BlkN at h4
    rw [hP] at h4
    injection h4 with h4
    injection h4 with _ h4 _
    exact ints_apartM h4.symm
  exact ⟨(hk _ (by omega) (by omega)).trans h1, (hk _ (by omega) (by omega)).trans h2, q, j, A, h3, (hk _ h3 hq).trans h4, h5, h6, (hk _ (by omega) (by omega)).trans h7, fun z hz => turnP_kept hn _ (h8 z hz)⟩
end

theorem slc_fromM (q j n s : Nat) (r : Int) (hr : r = s) (h2 : s ≤ n) :
    ∃ A', (∀ u, (Instr.sliceAt 27 (.slice (some ⟨q, j, none⟩) n n) (some (.int .i64 r)) none none).run Try.prog u = .ok (.slice A' (n - s) (n - s)) u) ∧ (0 < n - s → A' = some ⟨q, j + s, none⟩) := by
  subst hr
  have i2 : (s : Int) ≤ n := by omega
  by_cases h : n = s
  · subst h
    refine ⟨some ⟨q, j, none⟩, fun u => by go_simp, fun h => by omega⟩
  · refine ⟨some ⟨q, j + s, none⟩, fun u => by go_simp, fun _ => rfl⟩
theorem fullM_yes {M : Nat} {O t : List Int} (hO : OrderP M O) (hl : O.length = M) (ht : t.length = M) (h : ∀ z, z < M → t.getD (O.getD z 0).toNat 0 ≠ 0) : fullP t = true := by
  refine fullP_yes fun i hi => ?_
  obtain ⟨z, hz, e⟩ := List.mem_iff_getElem.1 (hO.2 i (by omega))
  have h1 := h z (by omega)
  have h2 : O.getD z 0 = (i : Int) := by simp [List.getD, hz, e]
  rw [h2] at h1
  exact h1

/-- what a turn has changed -/
structure TookI (w w' : World) (g M : Nat) (t : List Int) (x : Nat) (nd : Int) (O : List Int) : Prop where
  tab : BlkN w' 3 g (turnP O t nd)
  me : TurnI w' g M (turnP O t nd) x nd O
  rest : ∀ k, k ≠ g → k ≠ x + 2 → w'.heap[k]? = w.heap[k]?
  low : Below g w w'
  size : w'.heap.size = w.heap.size

set_option maxHeartbeats 3200000 in
set_option maxRecDepth 100000 in
theorem mgtake_any (g M : Nat) (t : List Int) (x : Nat) (nd : Int) (O : List Int) (w : World) (hM : M ≤ 1000) (hx : g < x) (hnd : nd ≠ 0) (hT : BlkN w 3 g t) (hl : t.length = M) (hO : OrderP M O) (hOl : O.length = M) (h : TurnI w g M t x nd O) :
    Calls Try.prog 34 (tkA x) w fun e w' => e = .returned (.bool (!fullP t)) ∧ TookI w w' g M t x nd O := by
  obtain ⟨htb, hnb, q, j, A, hqg, hq, hj, hA, hob, hz⟩ := h
  have c_t : w.cell? ⟨x, 0, none⟩ = some (.slice (some ⟨g, 0, none⟩) M M) := htb.cell 0
  have c_n : w.cell? ⟨x + 1, 0, none⟩ = some (.int .i64 nd) := hnb.cell 0
  have c_o : w.cell? ⟨x + 2, 0, none⟩ = some (.slice A (M - j) (M - j)) := hob.cell 0
  have f_o : w.frozen? ⟨x + 2, 0, none⟩ = false := hob.frozen 0
  have HTB := Lib.hid htb
  have HNB := Lib.hid hnb
  have HOB := Lib.hid hob
  have HQ := Lib.hid hq
  have HT := Lib.hid hT
  have HA := Lib.hid hA
  obtain ⟨n, hn⟩ : ∃ n, n = M - j := ⟨_, rfl⟩
  rw [← hn] at c_o HOB
  have HN := Lib.hid (show j + n = M by omega)
  have hn1 : n ≤ 1000 := by omega
  have HZ := Lib.hid hz
  have HOX := Lib.hid (show ∀ i, i < M → ∃ y : Nat, y < M ∧ O.getD i 0 = (y : Int) from fun i hi => by
    have h1 : O.getD i 0 = O[i] := by simp [List.getD, show i < O.length by omega]
    have h2 := hO.1 _ (List.getElem_mem (show i < O.length by omega))
    exact ⟨(O[i]).toNat, by omega, by rw [h1]; omega⟩)
  have HFY := Lib.hid (fun h => fullM_yes hO hOl hl h)
  have HTN := Lib.hid (fun h => turnP_none (o := O) (t := t) (node := nd) (by rw [hOl]; exact h))
  have HTA := Lib.hid (fun i (hi : i < M) => turnP_at (o := O) (t := t) (node := nd) (j := i) (by rw [hOl]; exact hi))
  have HFN := Lib.hid (fun (y : Nat) (hy : y < M) e => fullP_no (t := t) (i := y) (by rw [hl]; exact hy) e)
  have HLT := Lib.hid hl
  have HOL := Lib.hid hOl
  clear hn htb hnb hob hq hT hA hz hj hl hOl hO
  unfold tkA
  go_enter Try.func34, Try.ntmps34
  go_wp2_with fail
  go_loop [8] (fun v => ∃ i : Nat, i ≤ n ∧ v = .int .i64 i ∧ Hid (∀ z, z < j + i → t.getD (O.getD z 0).toNat 0 ≠ 0)) (fun v => n - (intOf v).toNat)
  case atStart => exact ⟨0, by omega, rfl, HZ⟩
  case round =>
    obtain ⟨i, hi, rfl, HW⟩ := hrel
    clear HZ
    by_cases hlt : i < n
    · obtain ⟨y, hyM, hyO⟩ := HOX.out (j + i) (by have := HN.out; omega)
      obtain rfl := HA.out (by have := HN.out; omega)
      have c0 : w.cell? ⟨q, j + i, none⟩ = some (.int .i64 (y : Int)) := by rw [HQ.out.cell, cellsN_get (by rw [HOL.out]; have := HN.out; omega), hyO]
      have c1 : w.cell? ⟨g, y, none⟩ = some (.int .i64 (t.getD y 0)) := by rw [HT.out.cell, cellsN_get (by rw [HLT.out]; exact hyM)]
      have hy0 : ¬ (y : Int) < 0 := by omega
      have hy1 : (y : Int) < M := by omega
      have hlt2 : (i : Int) < n := by omega
      by_cases hfree : t.getD y 0 = 0
      · have HTA2 := Lib.hid (HTA.out (j + i) (by have := HN.out; omega) HW.out (by rw [hyO]; exact hfree))
        rw [hyO] at HTA2
        replace HTA2 : Hid (turnP O t nd = t.set y nd) := HTA2
        have HFF := Lib.hid (HFN.out y hyM hfree)
        have f1 := HT.out.frozen y
        rw [hfree] at c1
        have d_o : (w.setCell ⟨g, y, none⟩ (.int .i64 nd)).cell? ⟨x + 2, 0, none⟩ = some (.slice (some ⟨q, j, none⟩) n n) := (World.cell?_setCell_far w ⟨g, y, none⟩ ⟨x + 2, 0, none⟩ _ (by show g ≠ x + 2; omega)).trans c_o
        have HW2 := Lib.hid (show ∀ z, z < j + (i + 1) → (t.set y nd).getD (O.getD z 0).toNat 0 ≠ 0 from fun z hz => by
          rw [← HTA2.out]
          by_cases hzi : z = j + i
          · subst hzi
            rw [HTA2.out, hyO]
            have : y < t.length := by rw [HLT.out]; exact hyM
            simp [List.getD, this]
            exact hnd
          · exact turnP_kept hnd _ (HW.out z (by omega)))
        have HT2 := Lib.hid (HT.out.set_ y nd)
        rw [← HTA2.out] at HT2 HW2
        have HTB2 := Lib.hid (HTB.out.far (p := ⟨g, y, none⟩) (by show x ≠ g; omega) (.int .i64 nd))
        have HNB2 := Lib.hid (HNB.out.far (p := ⟨g, y, none⟩) (by show x + 1 ≠ g; omega) (.int .i64 nd))
        have HOB2 := Lib.hid (HOB.out.far (p := ⟨g, y, none⟩) (by show x + 2 ≠ g; omega) (.int .i64 nd))
        have HQ2 : Hid (BlkN (w.setCell ⟨g, y, none⟩ (.int .i64 nd)) 3 q O) := Lib.hid ((Below.heap_setCell w ⟨g, y, none⟩ (.int .i64 nd) q hqg).trans HQ.out)
        have HB2 := Lib.hid ((Below.refl g w).setCell (p := ⟨g, y, none⟩) (Nat.le_refl _) (.int .i64 nd))
        have HR2 := Lib.hid (fun k (hk : k ≠ g) => Below.heap_setCell w ⟨g, y, none⟩ (.int .i64 nd) k hk)
        have f2 : (w.setCell ⟨g, y, none⟩ (.int .i64 nd)).frozen? ⟨x + 2, 0, none⟩ = false := HOB2.out.frozen 0
        have hqx : q ≠ x + 2 := by
          rintro rfl
          have h4 := HQ2.out
          have h5 := HOB2.out
          unfold BlkV at h5
          unfold BlkN at h4
          rw [h5] at h4
          injection h4 with h4
          injection h4 with _ h4 _
          exact ints_apartM h4.symm
        have HFIN : Hid (∀ A2 m, m = n - (i + 1) → (0 < m → A2 = some ⟨q, j + (i + 1), none⟩) → TookI w ((w.setCell ⟨g, y, none⟩ (.int .i64 nd)).setCell ⟨x + 2, 0, none⟩ (.slice A2 m m)) g M t x nd O) := Lib.hid (by
          rintro A2 m rfl hA2
          refine ⟨HT2.out.far (by show g ≠ x + 2; omega) _, ⟨HTB2.out.far (by show x ≠ x + 2; omega) _, HNB2.out.far (by show x + 1 ≠ x + 2; omega) _, q, j + (i + 1), A2, hqg, HQ2.out.far hqx _, by have := HN.out; omega, fun h => hA2 (by have := HN.out; omega), ?_, HW2.out⟩, fun k h1 h2 => (Below.heap_setCell _ ⟨x + 2, 0, none⟩ _ k h2).trans (HR2.out k h1), HB2.out.setCell (p := ⟨x + 2, 0, none⟩) (by show g ≤ x + 2; omega) _, by simp⟩
          have e : M - (j + (i + 1)) = n - (i + 1) := by have := HN.out; omega
          rw [e]
          exact HOB2.out.set_ 0 _)
        clear hfree HTN HTA HFN HFY HOX HW HW2 HT2 HTB2 HNB2 HOB2 HQ2 HB2 HR2 HT HTB HNB HOB HQ hqx
        by_cases hni : n = i + 1
        · subst hni
          go_wp2_with fail
          go_ret
          exact ⟨by rw [HFF.out]; rfl, HFIN.out _ 0 (by omega) (fun h => by omega)⟩
        · have hni2 : ¬ n - (i + 1) = 0 := by omega
          go_wp2_with fail
          go_ret
          exact ⟨by rw [HFF.out]; rfl, HFIN.out _ _ rfl (fun h => rfl)⟩
      · have HW2 := Lib.hid (show ∀ z, z < j + (i + 1) → t.getD (O.getD z 0).toNat 0 ≠ 0 from fun z hz => by
          by_cases hzi : z = j + i
          · subst hzi
            rw [hyO]
            exact hfree
          · exact HW.out z (by omega))
        have hf2 : (t.getD y 0 == 0) = false := by simpa using hfree
        generalize t.getD y 0 = v at hf2 hfree c1
        clear HTN HTA HFN HFY HOX HW
        go_wp2_with fail
        go_round
        case rel => exact ⟨i + 1, by omega, by go_num, HW2⟩
        case measure => simp [intOf]; omega
    · obtain rfl : i = n := by omega
      rw [HN.out] at HW
      have HFF := Lib.hid (HFY.out HW.out)
      have HTE := Lib.hid (HTN.out HW.out)
      clear HTN HTA HFN HFY HOX
      go_wp2_with fail
      go_ret
      rw [HFF.out]
      have e : M - j = i := by have := HN.out; omega
      refine ⟨rfl, ?_⟩
      rw [← HTE.out] at HT HW
      have hTT := HTE.out
      refine ⟨HT.out, ⟨HTB.out, HNB.out, q, j, A, hqg, HQ.out, by have := HN.out; omega, HA.out, by rw [e]; exact HOB.out, fun z hz => HW.out z (by have := HN.out; omega)⟩, fun _ _ _ => rfl, Below.refl _ _, rfl⟩
end Go.Proofs.Ytogmfhofdjiihaa
