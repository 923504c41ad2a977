/- What flow.Right and flow.Bytes tell. Conditions: addresses are 16 bytes, ports are ints. -/
import Derived.Test.YtjafjapnmffohaaDoorFlE
import Derived.Test.YtjafjapnmffohaaDoorFlD
import Derived.Test.YtjafjapnmffohaaDoorJCk
set_option maxRecDepth 100000
namespace Go.Proofs.YtjafjapnmffohaaDoor
open Go.RowKit
set_option linter.unusedVariables false

def portB (n : Int) : Bool := decide (0 ≤ n ∧ n ≤ 65535)
theorem rightF_ports (f : Fw) : rightF f = (portB f.sp && portB f.dp) := by
  unfold rightF portB
  rw [Bool.eq_iff_iff]
  simp only [Bool.and_eq_true, decide_eq_true_eq]
  omega
set_option maxRecDepth 100000 in
theorem isport_any (n : Int) (w : World) : Calls Tryd.prog 24 #[.int .i64 n] w fun e w' => e = .returned (.bool (portB n)) ∧ w = w' := by
  by_cases h : 0 ≤ n
  · have HE := Lib.hid (show portB n = decide (n ≤ 65535) by unfold portB; rw [Bool.eq_iff_iff]; simp only [decide_eq_true_eq]; omega)
    go_enter Tryd.func24, Tryd.ntmps24
    go_wp2_with fail
    go_ret
    exact ⟨by rw [HE.out]; rfl, rfl⟩
  · have HE := Lib.hid (show portB n = false by unfold portB; exact decide_eq_false (by omega))
    go_enter Tryd.func24, Tryd.ntmps24
    go_wp2_with fail
    go_ret
    exact ⟨by rw [HE.out]; rfl, rfl⟩
set_option maxRecDepth 100000 in
theorem right_any (f : Fw) (w : World) (hf : f.ok) : Calls Tryd.prog 12 #[fwV f] w fun e w' => e = .returned (.bool (rightF f)) ∧ Below w.heap.size w w' := by
  unfold fwV
  have HS := Lib.hid hf.s
  have HD := Lib.hid hf.d
  clear hf
  have HE := Lib.hid (rightF_ports f)
  generalize rightF f = r at *
  go_enter Tryd.func12, Tryd.ntmps12
  go_wp2_with ((with_reducible refine wpList_box_fw rfl (.tmp 0) rfl f rfl ?_); intro w1 HB hL hz1; refine Hid.out ?_)
  refine Lib.hid ?_
  have c16 := BlkF.sp HB HS.out
  have c33 := BlkF.dp HB HS.out HD.out
  clear HB hz1
  go_wp2_with fail
  refine (isport_any f.sp w1).mono ?_
  rintro e w2 ⟨rfl, rfl⟩
  obtain ⟨q, hq⟩ : ∃ q, q = portB f.sp := ⟨_, rfl⟩
  rw [← hq] at HE ⊢
  clear hq
  cases q
  · go_wp2_with fail
    go_ret
    exact ⟨by rw [HE.out]; rfl, hL⟩
  · go_wp2_with fail
    refine (isport_any f.dp w1).mono ?_
    rintro e w2 ⟨rfl, rfl⟩
    go_wp2_with fail
    go_ret
    exact ⟨by rw [HE.out]; rfl, hL⟩

/-- the two addresses in a flow's block, as bytes -/
theorem BlkF.bsrc {w : World} {g : Nat} {f : Fw} (hb : BlkF w g f) (hk : f.ok) {B : Nat} (hg : g < B) : Bs w B (some ⟨g, 0, none⟩) 16 f.s :=
  ⟨hk.s, hk.vs, fun _ => ⟨g, 0, rfl, hg, fun i hi => by
    rw [BlkV.cell hb, Nat.zero_add]
    exact fwC_at_s hk.s hi⟩⟩
theorem BlkF.bdst {w : World} {g : Nat} {f : Fw} (hb : BlkF w g f) (hk : f.ok) {B : Nat} (hg : g < B) : Bs w B (some ⟨g, 17, none⟩) 16 f.d :=
  ⟨hk.d, hk.vd, fun _ => ⟨g, 17, rfl, hg, fun i hi => by
    rw [BlkV.cell hb]
    exact fwC_at_d hk.s hk.d hi⟩⟩

set_option maxHeartbeats 1600000 in
set_option maxRecDepth 100000 in
theorem fbytes_any (f : Fw) (w : World) (hf : f.ok) :
    Calls Tryd.prog 6 #[fwV f] w fun e w' => ∃ v, e = .returned v ∧ NewB 5 w 36 (bytesF f) v w' := by
  unfold fwV
  have HO := Lib.hid hf
  have HLn := Lib.hid (bytesF_len hf)
  have HA := Lib.hid (bytesF_all hf)
  have HE := Lib.hid (show [f.s, two f.sp, f.d, two f.dp].flatten = bytesF f by unfold bytesF; simp)
  clear hf
  go_enter Tryd.func6, Tryd.ntmps6
  go_wp2_with ((with_reducible refine wpList_box_fw rfl (.tmp 0) rfl f rfl ?_); intro w1 HB hL hz1; refine Hid.out ?_)
  refine Lib.hid ?_
  replace HB := Lib.hid HB
  clear hz1
  go_wp2_with fail
  refine wp_region_plan (.rd 0 (.rd 1 (.rd 2 (.rd 3 (.rd 5 (.rd 6 (.rd 7 (.rd 8 (.act 4 (.act 9 (.act 10 (.act 11 (.rd 12 (.done))))))))))))))
    (by kernel_rfl) (by kernel_rfl) (fun _ _ d _ _ h => by cases d <;> exact h) (by kernel_rfl) ?_
  replace hL : Low w w1.drew := hL.trans (Below.drew (Below.refl _ _))
  replace HB : Hid (BlkF w1.drew w.heap.size f) := HB
  generalize w1.drew = w5 at *
  have c16 := BlkF.sp HB.out HO.out.s
  have c33 := BlkF.dp HB.out HO.out.s HO.out.d
  have hgs := HB.out.lt
  have HS := Lib.hid (BlkF.bsrc HB.out HO.out hgs)
  have HD := Lib.hid (BlkF.bdst HB.out HO.out hgs)
  clear HB
  generalize w.heap.size = gs at c16 c33 HS HD hgs ⊢
  iterate 8 (refine walkP_read (v := _) rfl (by rfl) (by intro y hy; have e3 := (hy.cell (p := ⟨gs, 16, none⟩) hgs).trans c16; have e4 := (hy.cell (p := ⟨gs, 33, none⟩) hgs).trans c33; go_simp; try rfl) ?_; simp only [Act.put, List.setIfInBounds_toArray, List.set_cons_zero, List.set_cons_succ])
  clear c16 c33 hgs
  refine walkP_act rfl (by rfl) (fun K hK => ?_)
  go_simp
  refine (put16_any none 0 0 f.sp [] w5 (by omega) HO.out.sp (Bs.nil _ _ _)).mono ?_
  rintro e w6 ⟨v, rfl, g3, rfl, hg3, hk3, hl3, ha3, hl⟩
  replace hk3 : Blk w6 5 g3 (two f.sp) := hk3
  have hb3 := hk3.bs (n := 2) ha3 hk3.lt hl3
  go_simp
  refine hK _ _ hl ?_
  clear hK K
  replace hL := hL.trans hl
  replace HS := Lib.hid (HS.out.below' hl hl.size)
  replace HD := Lib.hid (HD.out.below' hl hl.size)
  clear hl hk3 ha3 hl3 hg3
  refine walkP_act rfl (by rfl) (fun K hK => ?_)
  go_simp
  refine (put16_any none 0 0 f.dp [] w6 (by omega) HO.out.dp (Bs.nil _ _ _)).mono ?_
  rintro e w7 ⟨v, rfl, g4, rfl, hg4, hk4, hl4, ha4, hl⟩
  replace hk4 : Blk w7 5 g4 (two f.dp) := hk4
  have hb4 := hk4.bs (n := 2) ha4 hk4.lt hl4
  go_simp
  refine hK _ _ hl ?_
  clear hK K
  replace hL := hL.trans hl
  replace HS := Lib.hid (HS.out.below' hl hl.size)
  replace HD := Lib.hid (HD.out.below' hl hl.size)
  replace hb3 := hb3.below' hl hl.size
  clear hl hk4 ha4 hl4 hg4
  refine walkP_act rfl (by rfl) (fun K hK => ?_)
  go_simp
  refine hK _ _ (Low.alloc _ _) ?_
  clear hK K
  have hl := Low.alloc w7 (.cells #[.slice (some ⟨gs, 0, none⟩) 16 16, .slice (some ⟨g3, 0, none⟩) 2 2, .slice (some ⟨gs, 17, none⟩) 16 16, .slice (some ⟨g4, 0, none⟩) 2 2] 26)
  have hrow := heap_alloc_new w7 (.cells #[.slice (some ⟨gs, 0, none⟩) 16 16, .slice (some ⟨g3, 0, none⟩) 2 2, .slice (some ⟨gs, 17, none⟩) 16 16, .slice (some ⟨g4, 0, none⟩) 2 2] 26 (0, 0))
  replace hL := hL.trans hl
  replace hb3 := hb3.below' hl hl.size
  replace hb4 := hb4.below' hl hl.size
  replace HS := Lib.hid (HS.out.below' hl hl.size)
  replace HD := Lib.hid (HD.out.below' hl hl.size)
  clear hl
  generalize w7.alloc (.cells #[.slice (some ⟨gs, 0, none⟩) 16 16, .slice (some ⟨g3, 0, none⟩) 2 2, .slice (some ⟨gs, 17, none⟩) 16 16, .slice (some ⟨g4, 0, none⟩) 2 2] 26) = w8 at *
  generalize w7.heap.size = g7 at *
  have hR := Row.four hrow HS.out hb3 HD.out hb4
  clear hb3 hb4 HS HD hrow
  refine walkP_act rfl (by rfl) (fun K hK => ?_)
  go_simp
  refine (join_any _ 4 4 _ _ 36 w8 rfl (by omega) hR (by rw [HE.out, HLn.out]) (by omega)).mono ?_
  rintro e w9 ⟨rfl, hk8, hl⟩
  rw [HE.out] at hk8
  have hN2 : NewB 5 w 36 (bytesF f) (.slice (some ⟨w8.heap.size, 0, none⟩) 36 36) w9 := ⟨_, rfl, hL.size, hk8, HLn.out, HA.out, hL.trans hl⟩
  go_simp
  refine hK _ _ hl ?_
  clear hK K hR hk8 hl
  iterate 1 (refine walkP_read (v := _) rfl (by rfl) (by intro y hy; go_simp; try rfl) ?_; simp only [Act.put, List.setIfInBounds_toArray, List.set_cons_zero, List.set_cons_succ])
  unfold walkP
  go_wp2
  go_ret
  exact ⟨_, rfl, hN2⟩
end Go.Proofs.YtjafjapnmffohaaDoor
