/- lives and plain of layer 11. No condition. -/
import Derived.Test.YtpaomhgdpncdoaaDtK
import Derived.Test.YtpaomhgdpncdoaaJOct
import Derived.Test.YtpaomhgdpncdoaaJReg
namespace Go.Proofs.Ytpaomhgdpncdoaa
open Go.RowKit
set_option linter.unusedVariables false

def seven16 : List Int := [0, 0, 0, 0, 0, 0, 0, 0, 0, 0, 0, 0, 0, 0, 0, 7]
def unit16 : List Int := [0, 0, 0, 0, 0, 0, 0, 0, 0, 0, 0, 0, 0, 0, 0, 1]
def plainH : Hd := ⟨0, 0, 3, 6, 9, zero16, seven16⟩
def plainL : List Int := headL plainH ++ [1, 2, 3]
theorem plainH_ok : plainH.ok := ⟨by unfold i64ok; decide, by unfold i64ok; decide, by unfold i64ok; decide, by unfold i64ok; decide, by unfold i64ok; decide, rfl, rfl, zero_all, fun x hx => by simp [plainH, seven16] at hx; omega⟩
theorem plain_put : putL plainH = headL plainH := by decide +kernel
theorem plain_ins : insE plainL [unit16] [] = 0 := by decide +kernel
theorem plain_len : (insL plainL [unit16] []).length = 83 := by decide +kernel
theorem plain_rem : hdrE (insL plainL [unit16] []) = 0 ∧ remL (insL plainL [unit16] []) = plainL := by decide +kernel
theorem plain_hdr : hdrE plainL = 7 ∧ hdrN plainL = 0 := by decide +kernel
theorem unit_all : AllA [unit16] := .cons rfl (fun x hx => by simp [unit16] at hx; omega) .nil
theorem plain_length : plainL.length = 43 := by decide +kernel

set_option maxRecDepth 100000 in
set_option maxHeartbeats 1600000 in
theorem plain_any (w : World) : Calls Try.prog 35 #[] w fun e w' => ∃ A c, e = .returned (.slice A 43 c) ∧ OwnB 5 w' w.heap.size A 43 c plainL ∧ Low w w' := by
  obtain ⟨i0, hi, hz0, hz1, hz2⟩ := info_parts info5
  have HP := Lib.hid (put_any none 0 0 [] plainH w plainH_ok (by omega) (Bs.nil _ _ _))
  rw [plain_put] at HP
  go_enter Try.func35, Try.ntmps35
  go_wp2_with fail
  refine HP.out.mono ?_
  rintro e w1 ⟨v, rfl, g1, rfl, hg1, hk1, hl1, ha1, hL⟩
  replace hL : Low w w1 := hL
  rw [List.nil_append] at hk1 hl1 ha1
  rw [show 0 + (headL plainH).length = 40 from rfl]
  have ho := OwnB.ofBlk hk1 ha1 hg1 rfl (n := 40) (by simp only [maxLen]; omega)
  have hl := Low.alloc w1 (.cells #[.int .u8 1, .int .u8 2, .int .u8 3] 5)
  have hb3 : Bs (w1.alloc (.cells #[.int .u8 1, .int .u8 2, .int .u8 3] 5)) (w1.alloc (.cells #[.int .u8 1, .int .u8 2, .int .u8 3] 5)).heap.size (some ⟨w1.heap.size, 0, none⟩) 3 [1, 2, 3] :=
    (Blk.new w1 5 [1, 2, 3]).bs (fun x hx => by simp at hx; omega) (by simp) rfl
  have HO := Lib.hid (ho.below hl)
  have hge : w.heap.size ≤ (w1.alloc (.cells #[.int .u8 1, .int .u8 2, .int .u8 3] 5)).heap.size := Nat.le_trans hL.size hl.size
  have HL := Lib.hid (hL.trans hl)
  have HB3 := Lib.hid hb3
  clear HP hk1 hl1 ha1 hg1 ho hl hb3 hL
  go_wp2_with (at_builtin; refine wpList_append_bs rfl _ _ 22 rfl w.heap.size 5 i0 Try.underlying22 hi hz0 hz1 hz2 (some ⟨g1, 0, none⟩) 40 40 (headL plainH) rfl HO.out (some ⟨w1.heap.size, 0, none⟩) 3 3 _ [1, 2, 3] rfl HB3.out (by omega) hge ?_; intro A5 c5 w5 hown5 hgr5 hob; refine Hid.out ?_)
  refine Lib.hid ?_
  have hlt2 := HO.out.lt
  have hL5 := HL.out.grown hgr5 hge fun k e => (hlt2 k e).1
  have HO5 : Hid (OwnB 5 w5 w.heap.size A5 43 c5 plainL) := Lib.hid hown5
  clear hgr5 hob hown5 hlt2
  go_wp2_with fail
  go_ret
  exact ⟨_, _, rfl, HO5.out, hL5⟩

set_option maxRecDepth 100000 in
set_option maxHeartbeats 3200000 in
theorem dlives_any (w : World) : Calls Try.prog 14 #[] w fun e w' => e = .returned (.bool true) ∧ Low w w' := by
  go_enter Try.func14, Try.ntmps14
  go_wp2_with fail
  refine (plain_any w).mono ?_
  rintro e w1 ⟨A1, c1, rfl, ho1, hL⟩
  have hcap1 := ho1.cap
  simp only [maxLen] at hcap1
  have HB1 := Lib.hid (ho1.bs (Nat.le_refl _))
  clear ho1
  have hl2 := Low.alloc w1 (.cells (cellsB unit16).toArray 39)
  have hv := As.one_ w1 39 unit16 rfl (unit_all unit16 (by simp)).2 (B := (w1.alloc (.cells (cellsB unit16).toArray 39)).heap.size) (by simp)
  have HI := Lib.hid (insert_any A1 43 c1 plainL (some ⟨w1.heap.size, 0, none⟩) 1 1 [unit16] none 0 0 [] (w1.alloc (.cells (cellsB unit16).toArray 39)) (by omega) hcap1.1 (by omega) (HB1.out.below' hl2 hl2.size) (by omega) hv (by omega) (Os.nil _ _ _))
  rw [List.map_nil, plain_ins, plain_len] at HI
  have hL2 := hL.trans hl2
  have HL2 := Lib.hid plain_len
  have HR2 := Lib.hid plain_rem
  clear hl2 hv HB1 hL
  go_wp2_with fail
  refine HI.out.mono ?_
  rintro e w2 ⟨A2, c2, rfl, hn2, hc2, hb2, hB2⟩
  have hL3 := hL2.trans hB2
  have HB2 := Lib.hid hb2
  clear HI hb2 hB2 hL2 hcap1
  generalize insL plainL [unit16] [] = L2 at *
  go_wp2_with fail
  refine (remove_any A2 83 c2 L2 w2 (by omega) hn2 hc2 HB2.out).mono ?_
  rintro e w3 ⟨A3, c3, rfl, hn3, hc3, hb3, hB3⟩
  rw [HR2.out.1, HR2.out.2, plain_length]
  rw [HR2.out.2, plain_length] at hb3 hn3
  have hL4 := hL3.trans hB3
  have HB3 := Lib.hid hb3
  clear hb3 hB3 hL3 HB2 hc2
  go_wp2_with fail
  refine (plain_any w3).mono ?_
  rintro e w4 ⟨A4, c4, rfl, ho4, hl4⟩
  have hcap4 := ho4.cap
  simp only [maxLen] at hcap4
  have HB4 := Lib.hid (ho4.bs (Nat.le_refl _))
  have hL5 := hL4.trans hl4
  replace HB3 := Lib.hid (HB3.out.below' hl4 hl4.size)
  clear ho4 hl4 hL4
  go_wp2_with fail
  refine (header_any A4 43 c4 plainL w4 (by omega) hcap4.1 (by omega) HB4.out).mono ?_
  rintro e w5 ⟨s, rfl, hv5, hk5, hf5, hl5⟩
  rw [plain_hdr.1, plain_hdr.2]
  replace HB3 := Lib.hid (HB3.out.below' hl5 hl5.size)
  have hL6 := hL5.trans hl5
  clear hv5 hk5 hf5 hl5 HB4 hcap4 hL5
  unfold srV
  go_wp2_with ((with_reducible refine wpList_alloc_sr rfl rfl ?_); intro w6 HZ hl6 hz6; refine Hid.out ?_)
  refine Lib.hid ?_
  replace HZ := Lib.hid HZ
  go_wp2_with ((refine wpList_store_sr rfl (.tmp 5) (.tmp 23) rfl w5.heap.size rfl s rfl zeroSr HZ.out ?_); intro w7 HG hb7 ho7 hz7; refine Hid.out ?_)
  refine Lib.hid ?_
  have hl7 : Low w5 w7 := Below.trans hl6 hb7
  replace HB3 := Lib.hid (HB3.out.below' hl7 hl7.size)
  have hL7 := hL6.trans hl7
  clear hl7 hb7 ho7 hz7 HG HZ hl6 hz6 hL6
  go_wp2_with fail
  refine wp_region_plan (.rd 0 (.rd 1 (.rd 2 (.rd 3 (.rd 4 (.rd 5 (.rd 6 (.rd 7 (.rd 8 (.rd 9 (.rd 10 (.rd 11 (.rd 12 (.rd 13 (.rd 14 (.rd 15 (.rd 16 (.rd 17 (.rd 18 (.act 19 (.rd 20 (.rd 21 (.rd 22 (.rd 23 (.rd 24 (.rd 25 (.rd 26 (.rd 27 (.done)))))))))))))))))))))))))))))
    (by kernel_rfl) (by kernel_rfl) (fun _ _ d _ _ h => by cases d <;> exact h) (by kernel_rfl) ?_
  replace hL7 : Low w w7.drew := Below.drew hL7
  replace HB3 : Hid (Bs w7.drew w7.drew.heap.size A3 43 plainL) := Lib.hid HB3.out.drew
  generalize w7.drew = w8 at *
  have HP := Lib.hid plain_any
  obtain ⟨pl, hpl⟩ : ∃ pl, pl = plainL := ⟨_, rfl⟩
  rw [← hpl] at HB3
  have HPL := Lib.hid hpl
  clear hpl
  obtain ⟨st, hst⟩ : ∃ st, st = strOfNums pl := ⟨_, rfl⟩
  have HST := Lib.hid hst
  clear hst
  iterate 19 (refine walkP_read (v := _) rfl (by rfl) (by intro y hy; have cv := conv_bs (c := c3) (HB3.out.below hy); rw [← HST.out] at cv; go_simp; try rfl) ?_; simp only [Act.put, List.setIfInBounds_toArray, List.set_cons_zero, List.set_cons_succ])
  refine walkP_act rfl (by rfl) (fun K hK => ?_)
  go_simp
  refine (plain_any w8).mono ?_
  rintro e w9 ⟨A5, c5, rfl, ho5, hl5⟩
  go_simp
  refine hK _ _ hl5 ?_
  clear hK K
  rw [← HPL.out] at ho5
  have HB5 := Lib.hid (ho5.bs (Nat.le_refl _))
  have hL9 := hL7.trans hl5
  clear ho5 hl5 HB3 hL7
  iterate 8 (refine walkP_read (v := _) rfl (by rfl) (by intro y hy; have cv := conv_bs (c := c5) (HB5.out.below hy); rw [← HST.out] at cv; go_simp; try rfl) ?_; simp only [Act.put, List.setIfInBounds_toArray, List.set_cons_zero, List.set_cons_succ])
  unfold walkP
  go_wp2
  go_ret
  exact ⟨rfl, hL9⟩
end Go.Proofs.Ytpaomhgdpncdoaa
