/- The walk of harrierlaw08.IcmpPuts: it answers true. Condition: the body is at most 2^47 - 4096 bytes long. -/
import Derived.Test.YtheagbgojdlfaaaIcI
namespace Go.Proofs.Ytheagbgojdlfaaa
open Go.RowKit
set_option linter.unusedVariables false

set_option maxRecDepth 100000 in
set_option maxHeartbeats 3200000 in
theorem ic_puts_walk (s d : List Int) (m : Mg) (w : World) (hs : s.length = 16) (hd : d.length = 16) (vs : AllB s) (vd : AllB d) (hm : m.ok w w.heap.size) :
    Calls Try.prog 3 #[.agg (cellsB (s ++ d)).toArray, msgV m] w fun e w' => e = .returned (.bool true) ∧ Below w.heap.size w w' := by
  unfold msgV
  have HM := Lib.hid hm
  have HS := Lib.hid hs
  have HD := Lib.hid hd
  have VS := Lib.hid vs
  have VD := Lib.hid vd
  have HE := Lib.hid (Blk.new w 25 (s ++ d))
  have hl0 := Low.alloc w (.cells (cellsB (s ++ d)).toArray 25)
  have hz0 : (w.alloc (.cells (cellsB (s ++ d)).toArray 25)).heap.size = w.heap.size + 1 := by simp
  clear hm hs hd vs vd
  rcases Nat.lt_or_ge 3000 m.bm with hlen | hlen
  case' inr => have dq : ¬ (3000 : Int) < m.bm := by omega
  case' inl => have dq : (3000 : Int) < m.bm := by omega
  all_goals
    have HQ := Lib.hid hlen
    clear hlen
    go_enter Try.func3, Try.ntmps3
    go_wp2_with ((with_reducible refine wpList_box_msg rfl (.tmp 1) rfl m rfl ?_); intro w1 HK hl1 hz1; refine Hid.out ?_)
    refine Lib.hid ?_
    generalize w.alloc (.cells (cellsB (s ++ d)).toArray 25) = w0 at *
    rw [hz0] at HK hz1
    replace HE := Lib.hid (HE.out.below hl1 HE.out.lt)
    have hL : Low w w1 := hl0.trans hl1
    have c3 := (BlkM.cells HK).2.2.2
    replace HK := Lib.hid HK
    clear hl0 hl1 hz0 hz1
  · go_wp2_with fail
    refine (iclives_any _).mono ?_
    rintro e w3 ⟨rfl, hB3⟩
    replace hL := hL.trans hB3
    clear hB3
    go_wp2_with fail
    go_ret
    exact ⟨rfl, hL⟩
  go_wp2_with fail
  refine wp_region_plan (.rd 0 (.rd 1 (.rd 2 (.rd 3 (.rd 4 (.rd 7 (.rd 8 (.rd 9 (.rd 10 (.rd 11 (.act 5 (.rd 6 (.act 12 (.rd 13 (.rd 14 (.rd 15 (.act 16 (.rd 17 (.rd 18 (.done)))))))))))))))))))) (by kernel_rfl) (by kernel_rfl) (fun _ _ d _ _ h => by cases d <;> exact h) (by kernel_rfl) ?_
  replace hL := hL.trans (Below.drew (Below.refl w1.heap.size w1))
  replace HE : Hid (Blk w1.drew 25 w.heap.size (s ++ d)) := HE
  replace HK : Hid (BlkM w1.drew (w.heap.size + 1) m) := HK
  clear c3
  generalize w1.drew = w2 at *
  iterate 10 (refine walkP_read (v := _) rfl (by rfl) (by
    intro y hy
    first
      | exact exec_half1 rfl (HE.out.below hy HE.out.lt) HS.out
      | exact exec_half2 rfl (HE.out.below hy HE.out.lt) HS.out HD.out
      | exact exec_load_msg rfl (HK.out.below hy HK.out.lt)
      | (go_simp; try rfl)) ?_; simp only [Act.put, List.setIfInBounds_toArray, List.set_cons_zero, List.set_cons_succ])
  clear HE HK
  refine walkP_act rfl (by rfl) (fun K hK => ?_)
  go_simp
  refine (icput_any s d m w2 HS.out HD.out VS.out VD.out (HM.out.low hL) (by have := HQ.out; omega)).mono ?_
  rintro e w3 ⟨A3, c3, rfl, hb3, -, hl⟩
  go_simp
  refine hK _ _ hl ?_
  clear hK K
  replace hL := hL.trans hl
  have HB3 := Lib.hid hb3
  have HX := Lib.hid (show putM s d m.v = putM s d m.v from rfl)
  obtain ⟨xs, hxs⟩ : ∃ xs, xs = putM s d m.v := ⟨_, rfl⟩
  have HXS := Lib.hid hxs
  rw [← hxs] at HB3 ⊢
  clear hl hb3 hxs HX
  obtain ⟨q, hq⟩ : ∃ q, q = xs.length := ⟨_, rfl⟩
  have HQ2 := Lib.hid hq
  rw [← hq] at HB3 ⊢
  clear hq
  refine walkP_read (v := .string (strOfNums xs)) rfl (by rfl) (by intro y hy; have cv := conv_bs (c := c3) (HB3.out.below' hy hy.size); go_simp; try rfl) ?_
  simp only [Act.put, List.setIfInBounds_toArray, List.set_cons_zero, List.set_cons_succ]
  refine walkP_act rfl (by rfl) (fun K hK => ?_)
  go_simp
  refine (ricput_any s d m w3 HS.out HD.out VS.out VD.out (HM.out.low hL) (by have := HQ.out; omega)).mono ?_
  rintro e w4 ⟨A4, c4, rfl, hb4, -, hl⟩
  rw [← HXS.out, ← HQ2.out] at hb4 ⊢
  go_simp
  refine hK _ _ hl ?_
  clear hK K HB3
  replace hL := hL.trans hl
  have HB4 := Lib.hid hb4
  clear hl hb4
  refine walkP_read (v := .string (strOfNums xs)) rfl (by rfl) (by intro y hy; have cv := conv_bs (c := c4) (HB4.out.below' hy hy.size); go_simp; try rfl) ?_
  simp only [Act.put, List.setIfInBounds_toArray, List.set_cons_zero, List.set_cons_succ]
  clear HB4 HXS HQ2
  generalize strOfNums xs = sx at *
  refine walkP_read (v := .bool true) rfl (by rfl) (by intro y hy; go_simp; try rfl) ?_
  simp only [Act.put, List.setIfInBounds_toArray, List.set_cons_zero, List.set_cons_succ]
  iterate 1 (refine walkP_read (v := _) rfl (by rfl) (by intro y hy; go_simp; try rfl) ?_; simp only [Act.put, List.setIfInBounds_toArray, List.set_cons_zero, List.set_cons_succ])
  refine walkP_act rfl (by rfl) (fun K hK => ?_)
  go_simp
  refine (iclives_any _).mono ?_
  rintro e w5 ⟨rfl, hl⟩
  go_simp
  refine hK _ _ hl ?_
  clear hK K
  replace hL := hL.trans hl
  clear hl
  iterate 2 (refine walkP_read (v := _) rfl (by rfl) (by intro y hy; go_simp; try rfl) ?_; simp only [Act.put, List.setIfInBounds_toArray, List.set_cons_zero, List.set_cons_succ])
  unfold walkP
  go_wp2
  go_ret
  exact ⟨rfl, hL⟩
end Go.Proofs.Ytheagbgojdlfaaa
