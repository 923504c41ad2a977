/- detour.segments: by which segments a packet goes. Condition: 1 to 9 others. -/
import Derived.Test.YtpaomhgdpncdoaaDtI
namespace Go.Proofs.Ytpaomhgdpncdoaa
open Go.RowKit
set_option linter.unusedVariables false

theorem OwnA.lowerD {t : TypeId} {w : World} {base base' n c : Nat} {A : Option Addr} {l : List (List Int)} (h : OwnA t w base A n c l) (hb : base' ≤ base) : OwnA t w base' A n c l :=
  ⟨⟨h.1.1, h.1.2.imp id fun ⟨a, b, cc, d, e, f⟩ => ⟨a, b, cc, d, by omega, f⟩⟩, h.2⟩
theorem wp_one_addrD {o : Oper} {a : Act} {w : World} {K : Act → World → Prop} {Q : Exit → Act → World → Prop} (x : Operand) (ho : o.op = .buildSlice 23 1 #[(0, x)]) (s : List Int) (hx : a.eval x = .agg (cellsB s).toArray) (hs : s.length = 16)
    (hk : K (a.put o.dst (.slice (some ⟨w.heap.size, 0, none⟩) 1 1)) (w.alloc (.cells (cellsB s).toArray 39))) : o.wp Try.prog a w K Q := by
  unfold Oper.wp execOp
  have h := run_one_addr s hs w
  rw [← hx] at h
  simp only [ho, Sem.run_bind, Sem.run_pure, Result.andThen_ok, List.map_toArray, List.map_cons, List.map_nil, h]
  exact hk
set_option maxRecDepth 100000 in
set_option maxHeartbeats 3200000 in
theorem segments_of (d : List Int) (ad : Addr) (m c : Nat) (l : List (List Int)) (w : World) (hd : d.length = 16) (vd : AllB d) (hm : 0 < m) (hm9 : m ≤ 9) (hb : As w w.heap.size (some ad) m l) : Calls Try.prog 39 #[addrV d, .slice (some ad) m c] w fun e w' => ∃ A' c', e = .returned (.slice A' (m + 1) c') ∧ OwnA 39 w' w.heap.size A' (m + 1) c' (l ++ [d]).reverse ∧ Low w w' := by
  obtain ⟨i0, hi, hz0, hz1, hz2⟩ := info_parts info_addrR
  have HI := Lib.hid (And.intro hi (And.intro hz0 (And.intro hz1 hz2)))
  have HD := Lib.hid hd
  clear hi hz0 hz1 hz2 hd
  unfold addrV
  go_enter Try.func39, Try.ntmps39
  go_wp2_with ((with_reducible refine wpList_box_v rfl 39 (.tmp 0) rfl (cellsB d) rfl ?_); intro w1 HA0 hL0 hz0; refine Hid.out ?_)
  refine Lib.hid ?_
  replace HA0 : Hid (Blk w1 39 w.heap.size d) := Lib.hid HA0
  clear hz0
  replace hL0 : Low w w1 := hL0
  have hb1 := hb.below' hL0 hL0.size
  clear hb
  go_wp2_with fail
  refine wp_region_planN (fun y => Blk y 39 w.heap.size d) (.rd 0 (.rd 2 (.fork 1 (.act 3 (.act 4 (.rd 5 (.done)))) 3 (.act 1 (.act 4 (.rd 5 (.done)))))))
    (by kernel_rfl) (by kernel_rfl) (by kernel_rfl) HA0.out ?_
  replace HA0 : Hid (Blk w1.drew 39 w.heap.size d) := HA0
  replace hL0 : Low w w1.drew := Below.drew hL0
  replace hb1 : As w1.drew w1.drew.heap.size (some ad) m l := hb1.keep fun _ _ => rfl
  generalize w1.drew = w2 at *
  have hlt0 := HA0.out.lt
  iterate 2 (refine walkS_read (v := _) rfl (by rfl) (by intro y hy; first | exact exec_load_addr rfl hy HD.out | (go_simp; try rfl)) ?_; simp only [Act.put, List.setIfInBounds_toArray, List.set_cons_zero, List.set_cons_succ])
  refine walkS_forkD ?fa ?fb
  case' fb =>
    refine walkS_act rfl (by rfl) (fun K hK => ?_)
    refine wp_one_addrD (.tmp 8) rfl d rfl HD.out ?_
    have hl := Low.alloc w2 (.cells (cellsB d).toArray 39)
    have hone := As.one_ w2 39 d HD.out vd (B := (w2.alloc (.cells (cellsB d).toArray 39)).heap.size) (by simp)
    have HA3 := HA0.out.below hl hlt0
    refine hK _ _ HA3 ?_
    clear hK K
    simp only [Act.put, List.setIfInBounds_toArray, List.set_cons_zero, List.set_cons_succ]
    obtain ⟨gd, hgd⟩ : ∃ g, g = w2.heap.size := ⟨_, rfl⟩
    have hgd2 := Lib.hid hgd
    rw [← hgd] at hone ⊢
    replace hb1 := hb1.below' hl hl.size
    have hLB : Below w2.heap.size w2 (w2.alloc (.cells (cellsB d).toArray 39)) := hl
    clear hl hgd
    generalize w2.alloc (.cells (cellsB d).toArray 39) = w3 at *
    refine walkS_act rfl (by rfl) (fun K hK => ?_)
    go_simp
    refine (cloneA_any ad m c l w3 (by omega) hb1).mono ?_
    rintro e w4 ⟨A4, c4, rfl, ho4, hl4⟩
    go_simp
    have HA4 := HA3.below hl4 HA3.lt
    have HOW : Hid (OwnA 39 w4 w2.heap.size A4 m c4 l) := Lib.hid (ho4.lowerD hLB.size)
    have HON := Lib.hid (hone.below' hl4 hl4.size)
    have HLL : Hid (Below w2.heap.size w2 w4) := Lib.hid (Low.trans hLB hl4)
    clear ho4 hone hLB HA3 hl4
  case' fa =>
    refine walkS_act rfl (by rfl) (fun K hK => ?_)
    go_simp
    refine (cloneA_any ad m c l w2 (by omega) hb1).mono ?_
    rintro e w3 ⟨A4, c4, rfl, ho3, hl3⟩
    go_simp
    have HA3 := HA0.out.below hl3 hlt0
    refine hK _ _ HA3 ?_
    clear hK K
    refine walkS_act rfl (by rfl) (fun K hK => ?_)
    refine wp_one_addrD (.tmp 8) rfl d rfl HD.out ?_
    have hl := Low.alloc w3 (.cells (cellsB d).toArray 39)
    have hone := As.one_ w3 39 d HD.out vd (B := (w3.alloc (.cells (cellsB d).toArray 39)).heap.size) (by simp)
    have HA4 := HA3.below hl HA3.lt
    have HOW : Hid (OwnA 39 (w3.alloc (.cells (cellsB d).toArray 39)) w2.heap.size A4 m c4 l) := Lib.hid (ho3.below hl)
    have HLL : Hid (Below w2.heap.size w2 (w3.alloc (.cells (cellsB d).toArray 39))) := Lib.hid (Low.trans hl3 hl)
    simp only [Act.put, List.setIfInBounds_toArray, List.set_cons_zero, List.set_cons_succ]
    obtain ⟨gd, hgd⟩ : ∃ g, g = w3.heap.size := ⟨_, rfl⟩
    have hgd2 := Lib.hid hgd
    rw [← hgd] at hone ⊢
    have HON := Lib.hid hone
    clear hl hgd hl3 ho3 HA3 hone
    generalize w3.alloc (.cells (cellsB d).toArray 39) = w4 at *
  all_goals
    refine hK _ _ HA4 ?_
    clear hK K HA4
    refine walkS_act rfl (by rfl) (fun K hK => ?_)
    obtain ⟨hi, hz0, hz1, hz2⟩ := HI.out
    have hsz4 := HLL.out.size
    refine wp_append_as (.tmp 7) (.tmp 9) 23 rfl w2.heap.size 39 i0 Try.underlying23 hi hz0 hz1 hz2 A4 m c4 l rfl HOW.out (some ⟨gd, 0, none⟩) 1 1 w4.heap.size [d] rfl HON.out (by omega) hsz4 ?_
    intro A5 c5 w5 ho5 hgr hob
    have hlt := HOW.out.lt
    have hL5 : Below w2.heap.size w2 w5 := HLL.out.grown hgr hsz4 (fun k e => (hlt k e).1)
    refine hK _ _ (HA0.out.below hL5 hlt0) ?_
    clear hK K hi hz0 hz1 hz2 hgr hob hlt
    simp only [Act.put, List.setIfInBounds_toArray, List.set_cons_zero, List.set_cons_succ]
    refine walkS_read (v := _) rfl (by rfl) (by intro y hy; go_simp; try rfl) ?_
    simp only [Act.put, List.setIfInBounds_toArray, List.set_cons_zero, List.set_cons_succ]
    refine walkS_done ?_
    obtain ⟨g5, rfl, hge, hglt⟩ := ho5.form (by omega)
    have HO5 := Lib.hid ho5
    have HL5 := Lib.hid hL5
    clear ho5 hL5 HOW HON HLL hsz4
    go_wp2_with fail
    refine (reverseA_any g5 (m + 1) c5 w2.heap.size (l ++ [d]) w5 (by omega) (by omega) HL5.out.size HO5.out).mono ?_
    rintro e w6 ⟨rfl, ho6, hB6⟩
    have HO6 := Lib.hid (ho6.lowerD hL0.size)
    have HL6 : Hid (Low w w6) := Lib.hid (hL0.trans (HL5.out.trans hB6))
    clear ho6 hB6 HO5 HL5
    go_wp2_with fail
    go_ret
    exact ⟨_, _, rfl, HO6.out, HL6.out⟩
end Go.Proofs.Ytpaomhgdpncdoaa
