/- The walk of PermEach, given what the program's own four functions tell. Conditions: node and size are ints. -/
import Derived.Test.YtnkjijibmblaoaaLawPmT
import Derived.Laws.MakeOwn
set_option maxRecDepth 100000
namespace Go.Proofs.Ytnkjijibmblaoaa
open Go.RowKit
set_option linter.unusedVariables false

/-- which numbers have been seen, after k of them -/
def seenP (M : Nat) (L : List Int) (k : Nat) : List Value := (List.range M).map fun (x : Nat) => Value.bool ((L.take k).contains (x : Int))
theorem seenP_len (M : Nat) (L : List Int) (k : Nat) : (seenP M L k).length = M := by simp [seenP]
theorem seenP_get (M : Nat) (L : List Int) (k x : Nat) (h : x < M) : (seenP M L k)[x]? = some (Value.bool ((L.take k).contains (x : Int))) := by simp [seenP, h]
theorem seenP_zero (M : Nat) (L : List Int) : madeCells #[.bool false] M = (seenP M L 0).toArray := by
  apply Array.ext
  · simp [madeCells, seenP]
  · intro i h1 h2
    simp [madeCells, seenP, Nat.mod_one]
theorem seenP_set (M : Nat) (L : List Int) (k x : Nat) (hk : k < L.length) (hx : x < M) (e : L.getD k 0 = (x : Int)) : (seenP M L k).set x (.bool true) = seenP M L (k + 1) := by
  have ht : L.take (k + 1) = L.take k ++ [(x : Int)] := by
    rw [List.take_succ_eq_append_getElem hk, ← e]
    simp [List.getD, hk]
  apply List.ext_getElem
  · simp [seenP]
  · intro i h1 h2
    have hi : i < M := by simpa [seenP] using h2
    rw [List.getElem_set]
    by_cases hxi : x = i
    · subst hxi
      simp [seenP, ht]
    · rw [if_neg hxi]
      have h3 : ¬ (i : Int) = (x : Int) := by omega
      simp [seenP, ht, h3]
theorem not_seenP {a b node m : Int} (hp : primeB m = true) (hm : m ≤ 1000) {k : Nat} (hk : k < m.toNat) : ((ordP a b node m).take k).contains (atP a b node m.toNat k : Int) = false := by
  have hT : tableB m = true := decide_eq_true ⟨primeB_two hp, hm⟩
  rw [ordP_some hT]
  rw [Bool.eq_false_iff]
  intro h
  rw [List.contains_iff_mem, ← List.map_take, List.mem_map] at h
  obtain ⟨i, hi, e⟩ := h
  have hik : i < k := by
    have := List.mem_take_iff_getElem.1 hi
    obtain ⟨j, hj, e2⟩ := this
    simp at e2 hj
    omega
  exact atP_once hp hm hik hk (by exact_mod_cast e)
theorem info_boolP : (Try.prog.info? 4).map (fun i => (i.zero, i.size, i.bytes)) = some (some (.bool false), 1, 1) := by kernel_rfl

theorem run_index_b {w : World} {b o n c i : Nat} (hi : i < n) :
    (Instr.indexAt 33 (.slice (some ⟨b, o, none⟩) n c) (.int .i64 (i : Int))).run Try.prog w = .ok (.pointer (some ⟨b, o + i, none⟩)) w := by
  have h1 : (i : Int) < n := by omega
  go_simp
theorem wpList_index_b {ops : Array Oper} {rest : List Oper} {o : Oper} {a : Act} {w : World} {Q : Exit → Act → World → Prop} (hw : Region.wanted o (yielded ops a.tmps) = true) (x y : Operand) (ho : o.op = .indexAddr 33 x y)
    (b n c i : Nat) (hx : a.eval x = .slice (some ⟨b, 0, none⟩) n c) (hy : a.eval y = .int .i64 (i : Int)) (hi : i < n) (hk : wpList Try.prog ops Q rest (a.put o.dst (.pointer (some ⟨b, i, none⟩))) w) : wpList Try.prog ops Q (o :: rest) a w :=
  wpList_step fun K hK => by
    simp only [hw, if_true]
    unfold Oper.wp execOp
    have e := run_index_b (w := w) (b := b) (o := 0) (n := n) (c := c) (i := i) hi
    rw [Nat.zero_add] at e
    simp only [ho, hx, hy, Sem.run_bind, e, Result.andThen_ok, Sem.run_pure]
    exact hK _ _ hk

set_option maxHeartbeats 3200000 in
set_option maxRecDepth 100000 in
theorem pme_walk (HP : PmPrimes) (HF : PmOffsets) (HS : PmSkips) (HO : PmOrders) (a b node m : Int) (w : World) (hn : i64ok node) (hm : i64ok m) :
    Calls Try.prog 5 #[keyV a b, .int .i64 node, .int .i64 m] w fun e w' => e = .returned (.bool true) ∧ Low w w' := by
  unfold keyV
  have HML := Lib.hid fun u => pmlives_any HP HS HO u
  have HPP := Lib.hid fun u => HP m u hm
  have HOO := Lib.hid fun u => HO a b node m u hn hm
  clear HP HF HS HO
  by_cases hbig : 1000 < m
  · go_enter Try.func5, Try.ntmps5
    go_wp2_with ((with_reducible refine wpList_box_v rfl _ (.tmp 0) rfl (keyC a b) rfl ?_); intro w1 HK hL hz1; refine Hid.out ?_)
    refine Lib.hid ?_
    clear HK
    go_wp2_with fail
    refine (HML.out w1).mono ?_
    rintro e w2 ⟨rfl, hl⟩
    replace hL := Lib.hid (hL.trans hl)
    clear hl
    go_wp2_with fail
    go_ret
    exact ⟨rfl, hL.out⟩
  · go_enter Try.func5, Try.ntmps5
    go_wp2_with ((with_reducible refine wpList_box_v rfl _ (.tmp 0) rfl (keyC a b) rfl ?_); intro w1 HK hL hz1; refine Hid.out ?_)
    refine Lib.hid ?_
    replace HK := Lib.hid HK
    replace hL := Lib.hid hL
    go_wp2_with fail
    refine (HPP.out w1).mono ?_
    rintro e w2 ⟨rfl, hl⟩
    replace HK := Lib.hid (HK.out.below hl HK.out.lt)
    replace hL := Lib.hid (hL.out.trans hl)
    clear hl hz1
    cases hpr : primeB m with
    | false =>
      clear hpr HK
      go_wp2_with fail
      refine (HML.out w2).mono ?_
      rintro e w3 ⟨rfl, hl⟩
      replace hL := Lib.hid (hL.out.trans hl)
      clear hl
      go_wp2_with fail
      go_ret
      exact ⟨rfl, hL.out⟩
    | true =>
      have h2 := primeB_two hpr
      obtain ⟨M, rfl⟩ : ∃ M : Nat, m = M := ⟨m.toNat, by omega⟩
      have hM : M ≤ 1000 := by omega
      have hT : tableB (M : Int) = true := decide_eq_true ⟨h2, by omega⟩
      have HLN := Lib.hid (show (ordP a b node M).length = M from ordP_len hT)
      have HGT := Lib.hid (show ∀ i, i < M → (ordP a b node M).getD i 0 = (atP a b node M i : Int) from fun i hi => ordP_get hT hi)
      have HRG := Lib.hid (show ∀ i, atP a b node M i < M from fun i => atP_range a b node M i (by omega))
      have HNS := Lib.hid (show ∀ k, k < M → ((ordP a b node M).take k).contains (atP a b node M k : Int) = false from fun k hk => not_seenP (m := (M : Int)) hpr (by omega) hk)
      clear hpr
      go_wp2_with ((refine wpList_load_v rfl 24 (.tmp 3) rfl w.heap.size rfl _ (keyC a b) HK.out _ Try.underlying24 rfl key_size ?_); refine Hid.out ?_)
      refine Lib.hid ?_
      go_wp2_with fail
      refine (HOO.out w2).mono ?_
      rintro e w3 ⟨A7, c7, rfl, _, hN7, _, hl⟩
      rw [HLN.out] at hN7 ⊢
      rw [show decide ((1000 : Int) < (M : Int)) = false from decide_eq_false (by omega)]
      replace hL := Lib.hid (hL.out.trans hl)
      clear hl HK HOO
      obtain ⟨i0, hi, hz0, hz1, hz2⟩ := info_partsK info_boolP
      have hmk : ∀ u : World, (Instr.makeSlice 33 (.int .i64 (M : Int)) (.int .i64 (M : Int))).run Try.prog u = .ok (.slice (some ⟨u.heap.size, 0, none⟩) M M) (u.alloc (.cells (madeCells #[.bool false] M) 4)) := fun u => by
        have h := run_make (P := Try.prog) u 33 4 i0 (.bool false) Try.underlying33 hi hz0 .i64 .i64 (M : Int) (M : Int) (by omega) (Int.le_refl _) (by rw [hz2]; omega) (by omega)
        simpa [hz1, Value.cells] using h
      rw [seenP_zero M (ordP a b node M)] at hmk
      have HB := Lib.hid (show BlkV (w3.alloc (.cells (seenP M (ordP a b node M) 0).toArray 4)) 4 w3.heap.size (seenP M (ordP a b node M) 0) from BlkV.new _ _ _)
      have hlA := Low.alloc w3 (.cells (seenP M (ordP a b node M) 0).toArray 4)
      have HN7 := Lib.hid (hN7.below hlA)
      have hsw0 := hL.out.size
      replace hL := Lib.hid (hL.out.trans hlA)
      have hsw := hL.out.size
      clear hi hz0 hz1 hz2 hlA hN7
      go_wp2_with fail
      generalize w3.alloc (.cells (seenP M (ordP a b node M) 0).toArray 4) = w4 at *
      obtain ⟨g, hg⟩ : ∃ g, g = w3.heap.size := ⟨_, rfl⟩
      clear hmk
      rw [← hg] at HB HN7 ⊢
      have hwg : w.heap.size ≤ g := by rw [hg]; exact Nat.le_trans hsw0 (Nat.le_refl _)
      clear hg hsw
      go_loopw [9] (fun v wr => ∃ k : Nat, k ≤ M ∧ v = .int .i64 k ∧ Hid (Ns wr g A7 M (ordP a b node M)) ∧ Hid (BlkV wr 4 g (seenP M (ordP a b node M) k)) ∧ Hid (Low w wr)) (fun v _ => M - (intOf v).toNat)
      case atStart => exact ⟨0, by omega, rfl, HN7, HB, hL⟩
      case round =>
        clear HN7 HB hL
        obtain ⟨k, hk, rfl, HN7, HB, hL⟩ := hrel
        by_cases hlt : k < M
        · obtain ⟨b7, o7, rfl, hb7, h7⟩ := HN7.out.at_ hlt
          have d7 := h7 k hlt
          have hx := HRG.out k
          have d8 : wr.cell? ⟨g, atP a b node M k, none⟩ = some (.bool false) := by
            rw [BlkV.cell HB.out, seenP_get _ _ _ _ hx, HNS.out k hlt]
          have f8 := BlkV.frozen HB.out (atP a b node M k)
          have HB2 := Lib.hid (HB.out.set_ (atP a b node M k) (.bool true))
          rw [seenP_set M _ k _ (by rw [HLN.out]; exact hlt) hx (HGT.out k hlt)] at HB2
          have HL2 := Lib.hid (show Low w (wr.setCell ⟨g, atP a b node M k, none⟩ (.bool true)) from Below.setCell hL.out hwg _)
          have HN2 := Lib.hid (HN7.out.below (Below.setCell (Below.refl g wr) (Nat.le_refl _) (p := ⟨g, atP a b node M k, none⟩) (.bool true)))
          rw [HGT.out k hlt] at d7
          clear h7 HB hL HN7
          generalize atP a b node M k = x at *
          have hx0 : ¬ (x : Int) < 0 := by omega
          have hx1 : (x : Int) < M := by omega
          have hx2 : ¬ M ≤ x := by omega
          have hx3 : decide (M ≤ x) = false := decide_eq_false hx2
          have hx4 : x < M := by omega
          go_wp2_with (with_reducible refine wpList_index_b rfl _ _ rfl g M M x rfl rfl hx4 ?_)
          go_roundw
          case rel => exact ⟨k + 1, by omega, by go_num, HN2, HB2, HL2⟩
          case measure => simp [intOf]; omega
        · obtain rfl : k = M := by omega
          go_wp2_with fail
          refine (HML.out wr).mono ?_
          rintro e w5 ⟨rfl, hl⟩
          replace hL := Lib.hid (hL.out.trans hl)
          clear hl
          go_wp2_with fail
          go_ret
          exact ⟨rfl, hL.out⟩
end Go.Proofs.Ytnkjijibmblaoaa
