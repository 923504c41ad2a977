/- Stage 15: the hash of two numbers, the program's own and the document's. No condition. -/
import Derived.Test.YtogmfhofdjiihaaKdI
import Derived.Test.YtogmfhofdjiihaaKdH
import Derived.Test.YtogmfhofdjiihaaJReg
import Derived.Test.YtogmfhofdjiihaaJOct
set_option maxRecDepth 100000
namespace Go.Proofs.Ytogmfhofdjiihaa
open Go.RowKit
set_option linter.unusedVariables false

set_option maxHeartbeats 1600000 in
set_option maxRecDepth 100000 in
theorem kpair_any (a b p q : Int) (w : World) :
    Calls Try.prog 52 #[keyV a b, .int .i64 p, .int .i64 q] w fun e w' => e = .returned (.int .u64 (sumK a b (four (p % 4294967296) ++ four (q % 4294967296)))) ∧ Low w w' := by
  have hp : IntKind.u32.wrap p = p % 4294967296 := by rw [IntKind.wrap_u32]
  have hq : IntKind.u32.wrap q = q % 4294967296 := by rw [IntKind.wrap_u32]
  have hp0 : 0 ≤ p % 4294967296 ∧ p % 4294967296 < 4294967296 := by omega
  have hq0 : 0 ≤ q % 4294967296 ∧ q % 4294967296 < 4294967296 := by omega
  generalize p % 4294967296 = x at *
  generalize q % 4294967296 = z at *
  unfold keyV
  go_enter Try.func52, Try.ntmps52
  go_wp2_with ((with_reducible refine wpList_box_v rfl _ (.tmp 0) rfl (keyC a b) rfl ?_); intro w2 HK hL2 hz1; refine Hid.out ?_)
  refine Lib.hid ?_
  go_wp2_with fail
  refine wp_region_planS (fun y => BlkV y 24 w.heap.size (keyC a b)) (.rd 0 (.rd 1 (.rd 2 (.rd 4 (.rd 5 (.act 3 (.act 6 (.act 7 (.rd 8 (.done))))))))))
    (by kernel_rfl) (by kernel_rfl) (fun _ _ d _ _ h => by cases d <;> exact h) (by kernel_rfl) HK ?_
  replace HK : Hid (BlkV w2.drew 24 w.heap.size (keyC a b)) := HK
  replace hL2 : Hid (Low w w2.drew) := Lib.hid (Below.drew hL2)
  generalize w2.drew = w3 at *
  iterate 5 (refine walkS_read (v := _) rfl (by rfl) (by intro y hy; first | exact exec_load_v rfl hy _ Try.underlying24 rfl key_size | (go_simp; try rfl)) ?_; simp only [Act.put, List.setIfInBounds_toArray, List.set_cons_zero, List.set_cons_succ])
  refine walkS_act rfl (by rfl) (fun K hK => ?_)
  go_simp
  refine (put32_any none 0 0 x [] w3 (by omega) hp0 (Bs.nil _ _ _)).mono ?_
  rintro e w4 ⟨v, rfl, g, rfl, hg, hk, hl, ha, hb⟩
  have hBS := hk.bs (n := 4) ha hk.lt hl
  go_simp
  refine hK _ _ (HK.out.below hb HK.out.lt) ?_
  clear hK K
  have hK4 := HK.out.below hb HK.out.lt
  replace hL2 := Lib.hid (hL2.out.trans (show Low w3 w4 from hb))
  clear HK hb hk hl ha hg
  refine walkS_act rfl (by rfl) (fun K hK => ?_)
  go_simp
  refine (put32_any _ 4 4 z _ w4 (by omega) hq0 hBS).mono ?_
  rintro e w5 ⟨v, rfl, g2, rfl, hg, hk, hl, ha, hb⟩
  have hBS2 := hk.bs (n := 8) ha hk.lt hl
  go_simp
  refine hK _ _ (hK4.below hb hK4.lt) ?_
  clear hK K
  have hK5 := hK4.below hb hK4.lt
  replace hL2 := Lib.hid (hL2.out.trans (show Low w4 w5 from hb))
  clear hK4 hb hk hl ha hg hBS
  refine walkS_act rfl (by rfl) (fun K hK => ?_)
  go_simp
  refine (ksum_any a b _ 8 8 _ w5 (by omega) (by omega) hBS2).mono ?_
  rintro e w6 ⟨rfl, hl⟩
  go_simp
  refine hK _ _ (hK5.below hl hK5.lt) ?_
  clear hK K
  replace hL2 := Lib.hid (hL2.out.trans hl)
  iterate 1 (refine walkS_read (v := _) rfl (by rfl) (by intro y hy; go_simp; try rfl) ?_; simp only [Act.put, List.setIfInBounds_toArray, List.set_cons_zero, List.set_cons_succ])
  unfold walkS
  go_wp2_with fail
  go_ret
  exact ⟨rfl, hL2.out⟩

set_option maxHeartbeats 400000 in
theorem rfour_ownK (x : Int) (w : World) (hx : 0 ≤ x ∧ x < 4294967296) :
    Calls Try.prog 54 #[.int .u32 x] w fun e w' => ∃ A c, e = .returned (.slice A 4 c) ∧ OwnB 5 w' w.heap.size A 4 c (four x) ∧ Below w.heap.size w w' := by
  obtain ⟨i0, hi, hz0, hz1, hz2⟩ := info_parts info5
  have HI := Lib.hid hi
  have HZ0 := Lib.hid hz0
  have HZ1 := Lib.hid hz1
  have HZ2 := Lib.hid hz2
  clear hi hz0 hz1 hz2
  go_enter Try.func54, Try.ntmps54
  go_wp2_with fail
  refine (rtwo_any (x / 65536) w (by unfold i64ok; omega)).mono ?_
  rintro e w1 ⟨v, rfl, g1, rfl, hg1, hk1, hl1, ha1, hB1⟩
  go_wp2_with fail
  refine (rtwo_any (x % 65536) w1 (by unfold i64ok; omega)).mono ?_
  rintro e w2 ⟨v, rfl, g2, rfl, hg2, hk2, hl2, ha2, hB2⟩
  have hB := hB1.trans (hB2.mono hB1.size)
  have hO := OwnB.ofBlk (base := w.heap.size) (hk1.below hB2 hk1.lt) ha1 hg1 hl1 (by simp only [maxLen]; omega)
  have hs := hk2.bs ha2 hk2.lt hl2
  clear hB1 hB2 hk1 hk2 hg1 hg2 hl1 hl2
  go_wp2_with (at_builtin; refine wpList_append_bs rfl (.tmp 6) (.tmp 10) _ rfl w.heap.size 5 i0 Try.underlying80 HI.out HZ0.out HZ1.out HZ2.out _ 2 2 (two (x / 65536)) rfl hO _ 2 2 w2.heap.size (two (x % 65536)) rfl hs (by omega) hB.size ?_; intro A3 c3 w3 hO3 hg3 hb3)
  go_ret
  refine ⟨A3, c3, rfl, ?_, hB.grown hg3 hB.size (fun k hk => (hO.lt k hk).1)⟩
  rw [← four_two x hx]
  exact hO3

set_option maxHeartbeats 1600000 in
set_option maxRecDepth 100000 in
theorem rkpair_any (a b p q : Int) (w : World) :
    Calls Try.prog 39 #[keyV a b, .int .i64 p, .int .i64 q] w fun e w' => e = .returned (.int .u64 (sumK a b (four (p % 4294967296) ++ four (q % 4294967296)))) ∧ Low w w' := by
  have hp : IntKind.u32.wrap p = p % 4294967296 := by rw [IntKind.wrap_u32]
  have hq : IntKind.u32.wrap q = q % 4294967296 := by rw [IntKind.wrap_u32]
  have hp0 : 0 ≤ p % 4294967296 ∧ p % 4294967296 < 4294967296 := by omega
  have hq0 : 0 ≤ q % 4294967296 ∧ q % 4294967296 < 4294967296 := by omega
  generalize p % 4294967296 = x at *
  generalize q % 4294967296 = z at *
  obtain ⟨i0, hi, hz0, hz1, hz2⟩ := info_parts info5
  have HI := Lib.hid hi
  have HZ0 := Lib.hid hz0
  have HZ1 := Lib.hid hz1
  have HZ2 := Lib.hid hz2
  clear hi hz0 hz1 hz2
  unfold keyV
  go_enter Try.func39, Try.ntmps39
  go_wp2_with ((with_reducible refine wpList_box_v rfl _ (.tmp 0) rfl (keyC a b) rfl ?_); intro w2 HK hL2 hz1; refine Hid.out ?_)
  refine Lib.hid ?_
  go_wp2_with fail
  refine wp_region_planS (fun y => BlkV y 32 w.heap.size (keyC a b)) (.rd 0 (.rd 1 (.rd 2 (.rd 4 (.rd 5 (.act 3 (.act 6 (.act 7 (.act 8 (.rd 9 (.done)))))))))))
    (by kernel_rfl) (by kernel_rfl) (fun _ _ d _ _ h => by cases d <;> exact h) (by kernel_rfl) HK ?_
  replace HK : Hid (BlkV w2.drew 32 w.heap.size (keyC a b)) := HK
  replace hL2 : Hid (Low w w2.drew) := Lib.hid (Below.drew hL2)
  generalize w2.drew = w3 at *
  iterate 5 (refine walkS_read (v := _) rfl (by rfl) (by intro y hy; first | exact exec_load_v rfl hy _ Try.underlying32 rfl rkey_size | (go_simp; try rfl)) ?_; simp only [Act.put, List.setIfInBounds_toArray, List.set_cons_zero, List.set_cons_succ])
  refine walkS_act rfl (by rfl) (fun K hK => ?_)
  go_simp
  refine (rfour_ownK x w3 hp0).mono ?_
  rintro e w4 ⟨A4, c4, rfl, hO4, hb⟩
  have hgk := HK.out.lt
  have hK4 := HK.out.below hb HK.out.lt
  go_simp
  refine hK _ _ hK4 ?_
  clear hK K
  replace hL2 := Lib.hid (hL2.out.trans (show Low w3 w4 from hb))
  have hz4 := hb.size
  clear HK hb
  refine walkS_act rfl (by rfl) (fun K hK => ?_)
  go_simp
  refine (rfour_ownK z w4 hq0).mono ?_
  rintro e w5 ⟨A5, c5, rfl, hO5, hb⟩
  have hK5 := hK4.below hb hK4.lt
  have hO45 := hO4.below hb
  have hbs5 := hO5.bs (Nat.le_refl _)
  go_simp
  refine hK _ _ hK5 ?_
  clear hK K
  replace hL2 := Lib.hid (hL2.out.trans (show Low w4 w5 from hb))
  have hz5 := hb.size
  clear hK4 hb hO4 hO5
  refine walkS_act rfl (by rfl) (fun K hK => ?_)
  refine wp_append_bs (.tmp 10) (.tmp 13) 80 rfl w3.heap.size 5 i0 Try.underlying80 HI.out HZ0.out HZ1.out HZ2.out A4 4 c4 (four x) rfl hO45 A5 4 c5 w5.heap.size (four z) rfl hbs5 (by omega) (by omega) ?_
  intro A6 c6 w6 ho6 hgr hob
  have hlt := hO45.lt
  have hK6 : BlkV w6 32 w.heap.size (keyC a b) := by
    refine (hgr.block w.heap.size hK5.lt (fun e => ?_)).trans hK5
    have := (hlt w.heap.size e.symm).1
    omega
  refine hK _ _ hK6 ?_
  clear hK K
  replace hL2 := Lib.hid (show Low w w6 from Below.grown hL2.out hgr hL2.out.size (fun k e => by have := (hlt k e).1; omega))
  have hbs6 := ho6.bs (Nat.le_refl _)
  clear hgr hob hlt hK5 hO45 hbs5 ho6
  refine walkS_act rfl (by rfl) (fun K hK => ?_)
  go_simp
  refine (rsumK_any a b A6 8 c6 _ w6 (by omega) hbs6).mono ?_
  rintro e w7 ⟨rfl, hl⟩
  go_simp
  refine hK _ _ (hK6.below hl hK6.lt) ?_
  clear hK K
  replace hL2 := Lib.hid (hL2.out.trans hl)
  iterate 1 (refine walkS_read (v := _) rfl (by rfl) (by intro y hy; go_simp; try rfl) ?_; simp only [Act.put, List.setIfInBounds_toArray, List.set_cons_zero, List.set_cons_succ])
  unfold walkS
  go_wp2_with fail
  go_ret
  exact ⟨rfl, hL2.out⟩
end Go.Proofs.Ytogmfhofdjiihaa
