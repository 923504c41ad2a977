/- What the document's own With, Nearer, To and Sized tell of any bytes. Condition: at most 2^47 bytes. -/
import Derived.Test.YtpaikenchbeenaaSxK
import Derived.Test.YtpaikenchbeenaaSxE
import Derived.Test.YtpaikenchbeenaaSxG
namespace Go.Proofs.Ytpaikenchbeenaa
open Go.RowKit
set_option linter.unusedVariables false

set_option maxHeartbeats 1600000 in
set_option maxRecDepth 100000 in
theorem with_any (h : Hd) (A : Option Addr) (n c : Nat) (xs : List Int) (w : World) (hk : h.ok) (hn : n ≤ 140737488355328) (hc : n ≤ c) (hc2 : c ≤ 9223372036854775807) (h40 : 40 ≤ n) (hb : Bs w w.heap.size A n xs) :
    Calls Try.prog 29 #[.slice A n c, headV h] w fun e w' => ∃ A' c', e = .returned (.slice A' ((putL h).length + (n - 40)) c') ∧ (putL h).length + (n - 40) ≤ c' ∧ c' ≤ 9223372036854775807 ∧ Bs w' w'.heap.size A' ((putL h).length + (n - 40)) (putL h ++ xs.drop 40) ∧ Below w.heap.size w w' := by
  obtain ⟨i0, hi, hz0, hz1, hz2⟩ := info_parts info5
  have HI := Lib.hid hi
  have HZ0 := Lib.hid hz0
  have HZ1 := Lib.hid hz1
  have HZ2 := Lib.hid hz2
  clear hi hz0 hz1 hz2
  unfold headV
  have HO := Lib.hid hk
  have HS := Lib.hid hk.s
  have HD := Lib.hid hk.d
  clear hk
  go_enter Try.func29, Try.ntmps29
  go_wp2_with ((with_reducible refine wpList_box_v rfl 25 (.tmp 1) rfl (headC h) rfl ?_); intro w1 HB hL hz1; refine Hid.out ?_)
  refine Lib.hid ?_
  replace HB := Lib.hid HB
  replace hb := hb.below' hL hL.size
  clear hz1
  go_wp2_with fail
  refine wp_region_planS (fun y => Below w1.heap.size w1 y) (.rd 0 (.rd 2 (.rd 3 (.act 1 (.act 4 (.rd 5 (.done)))))))
    (by kernel_rfl) (by kernel_rfl) (fun _ _ d _ _ h => by cases d <;> exact h) (by kernel_rfl) (Below.drew (Below.refl _ _)) ?_
  have hD0 : Low w1 w1.drew := Below.drew (Below.refl _ _)
  have n40 : (40 : Int) ≤ n := by omega
  iterate 3 (refine walkS_read (v := _) rfl (by rfl) (by intro y hy; first | exact exec_load_head rfl (HB.out.below hy HB.out.lt) HS.out HD.out | (go_simp; try rfl)) ?_; simp only [Act.put, List.setIfInBounds_toArray, List.set_cons_zero, List.set_cons_succ])
  generalize hA40 : (if c = 40 then A else Option.map (fun x : Addr => (⟨x.block, x.off + 40, none⟩ : Addr)) A) = A40
  have hb2 : Bs w1 w1.heap.size A40 (n - 40) (xs.drop 40) := Bs.cut40 c hb h40 A40 (fun hne b o e => by rw [← hA40, if_neg (by omega), e]; rfl)
  clear hA40 hb
  refine walkS_act rfl (by rfl) (fun K hK => ?_)
  go_simp
  refine (rput_any h w1.drew HO.out).mono ?_
  rintro e w2 ⟨v, rfl, A2, c2, rfl, hO, hl⟩
  replace hO : OwnB 5 w2 w1.heap.size A2 (putL h).length c2 (putL h) := hO
  have hl2 : Below w1.heap.size w1 w2 := hD0.trans hl
  go_simp
  refine hK _ _ hl2 ?_
  clear hK K hl hD0
  have HM : Hid ((putL h).length ≤ 40) := Lib.hid (by unfold putL; split; exact Nat.le_of_eq (headL_length HO.out); simp)
  obtain ⟨m, hm⟩ : ∃ m, m = (putL h).length := ⟨_, rfl⟩
  have HMq := Lib.hid hm
  rw [← hm] at hO HM ⊢
  clear hm
  have HM2 := HM.out
  replace hb2 := hb2.below hl2
  refine walkS_act rfl (by rfl) (fun K hK => ?_)
  refine wp_append_bs (.tmp 6) (.tmp 8) 26 rfl w1.heap.size 5 i0 Try.underlying26 HI.out HZ0.out HZ1.out HZ2.out A2 m c2 _ rfl hO A40 (n - 40) _ w1.heap.size (xs.drop 40) rfl hb2 (by omega) hl2.size ?_
  intro A3 c3 w3 hO3 hg3 hb3
  have hB3 : Below w1.heap.size w1 w3 := hl2.grown hg3 hl2.size (fun k hk => (hO.lt k hk).1)
  refine hK _ _ hB3 ?_
  clear hK K hb2 hO hg3 hb3 hl2
  have hcap := hO3.cap
  have hb4 := hO3.bs (Nat.le_refl _)
  clear hO3
  simp only [Act.put, List.setIfInBounds_toArray, List.set_cons_zero, List.set_cons_succ]
  refine walkS_read (v := _) rfl (by rfl) (by intro y hy; go_simp; try rfl) ?_
  simp only [Act.put, List.setIfInBounds_toArray, List.set_cons_zero, List.set_cons_succ]
  unfold walkS
  go_wp2
  go_ret
  refine ⟨A3, c3, by rw [← HMq.out]; rfl, by rw [← HMq.out]; exact hcap.1, by simpa [maxLen] using hcap.2, by rw [← HMq.out]; exact hb4, Low.trans hL hB3⟩
section
variable (A : Option Addr) (n c : Nat) (xs : List Int) (w : World) (hn : n ≤ 140737488355328) (hb : Bs w w.heap.size A n xs) (h : Hd) (hh : getH xs = h)
include hn hb hh
set_option maxHeartbeats 1600000 in
set_option maxRecDepth 100000 in
theorem rnearer_err (er : Int) (her : getE xs = er) (he : ¬ er = 0) : Calls Try.prog 15 #[.slice A n c] w fun e w' => GivesR w 0 [] er e w' := by
  have HB := Lib.hid hb
  have HO := Lib.hid (getH_ok hb.all)
  rw [hh] at HO
  have HE := Lib.hid her
  have HH := Lib.hid hh
  have HS := Lib.hid HO.out.s
  have HD := Lib.hid HO.out.d
  clear hb her hh
  go_enter Try.func15, Try.ntmps15
  go_wp2_with fail
  refine (rget_any A n c xs w hn HB.out).mono ?_
  rintro e w1 ⟨rfl, hl1⟩
  rw [HE.out, HH.out]
  unfold headV
  go_wp2_with ((with_reducible refine wpList_alloc_v rfl 25 rfl (headC zeroH) (by kernel_rfl) ?_); intro w2 HZ hl2 hz2; refine Hid.out ?_)
  refine Lib.hid ?_
  replace HZ := Lib.hid HZ
  have HLa : Hid (Low w w1) := Lib.hid hl1
  clear hl1 hz2
  go_wp2_with ((with_reducible refine wpList_store_head rfl (.tmp 4) (.tmp 9) rfl w1.heap.size rfl h rfl zeroH HZ.out rfl rfl HS.out HD.out ?_); intro w8 HG8 hb8 hz8; refine Hid.out ?_)
  refine Lib.hid ?_
  have hl8 : Low w1 w8 := Below.trans hl2 hb8
  replace HG8 := Lib.hid HG8
  have hL : Low w w8 := HLa.out.trans hl8
  clear HZ hb8 hz8 hl2
  go_wp2
  go_ret2
  exact ⟨none, 0, rfl, Nat.le_refl _, by omega, Bs.nil _ _ _, hL⟩
set_option maxHeartbeats 1600000 in
set_option maxRecDepth 100000 in
theorem rnearer_hop (her : getE xs = 0) (hp : h.hp < 2) : Calls Try.prog 15 #[.slice A n c] w fun e w' => GivesR w 0 [] 13 e w' := by
  have HB := Lib.hid hb
  have HO := Lib.hid (getH_ok hb.all)
  rw [hh] at HO
  have HE := Lib.hid her
  have HH := Lib.hid hh
  have HS := Lib.hid HO.out.s
  have HD := Lib.hid HO.out.d
  clear hb her hh
  go_enter Try.func15, Try.ntmps15
  go_wp2_with fail
  refine (rget_any A n c xs w hn HB.out).mono ?_
  rintro e w1 ⟨rfl, hl1⟩
  rw [HE.out, HH.out]
  unfold headV
  go_wp2_with ((with_reducible refine wpList_alloc_v rfl 25 rfl (headC zeroH) (by kernel_rfl) ?_); intro w2 HZ hl2 hz2; refine Hid.out ?_)
  refine Lib.hid ?_
  replace HZ := Lib.hid HZ
  have HLa : Hid (Low w w1) := Lib.hid hl1
  clear hl1 hz2
  go_wp2_with ((with_reducible refine wpList_store_head rfl (.tmp 4) (.tmp 9) rfl w1.heap.size rfl h rfl zeroH HZ.out rfl rfl HS.out HD.out ?_); intro w8 HG8 hb8 hz8; refine Hid.out ?_)
  refine Lib.hid ?_
  have hl8 : Low w1 w8 := Below.trans hl2 hb8
  replace HG8 := Lib.hid HG8
  have hL : Low w w8 := HLa.out.trans hl8
  clear HZ hb8 hz8 hl2
  have c4 := HG8.out.cell 4
  replace c4 : _ = some (Value.int .i64 h.hp) := c4
  go_wp2
  go_ret2
  exact ⟨none, 0, rfl, Nat.le_refl _, by omega, Bs.nil _ _ _, hL⟩
set_option maxHeartbeats 1600000 in
set_option maxRecDepth 100000 in
theorem rnearer_ok (hc : n ≤ c) (hc2 : c ≤ 9223372036854775807) (her : getE xs = 0) (h40 : 40 ≤ n) (hp : ¬ h.hp < 2) : Calls Try.prog 15 #[.slice A n c] w fun e w' => GivesR w ((putL (nearH h)).length + (n - 40)) (putL (nearH h) ++ xs.drop 40) 0 e w' := by
  have HB := Lib.hid hb
  have HO := Lib.hid (getH_ok hb.all)
  rw [hh] at HO
  have HE := Lib.hid her
  have HH := Lib.hid hh
  have HS := Lib.hid HO.out.s
  have HD := Lib.hid HO.out.d
  clear hb her hh
  go_enter Try.func15, Try.ntmps15
  go_wp2_with fail
  refine (rget_any A n c xs w hn HB.out).mono ?_
  rintro e w1 ⟨rfl, hl1⟩
  rw [HE.out, HH.out]
  unfold headV
  go_wp2_with ((with_reducible refine wpList_alloc_v rfl 25 rfl (headC zeroH) (by kernel_rfl) ?_); intro w2 HZ hl2 hz2; refine Hid.out ?_)
  refine Lib.hid ?_
  replace HZ := Lib.hid HZ
  have HLa : Hid (Low w w1) := Lib.hid hl1
  clear hl1 hz2
  go_wp2_with ((with_reducible refine wpList_store_head rfl (.tmp 4) (.tmp 9) rfl w1.heap.size rfl h rfl zeroH HZ.out rfl rfl HS.out HD.out ?_); intro w8 HG8 hb8 hz8; refine Hid.out ?_)
  refine Lib.hid ?_
  have hl8 : Low w1 w8 := Below.trans hl2 hb8
  replace HG8 := Lib.hid HG8
  have hL : Low w w8 := HLa.out.trans hl8
  clear HZ hb8 hz8 hl2
  have c4 := HG8.out.cell 4
  have f4 := HG8.out.frozen 4
  replace c4 : _ = some (Value.int .i64 h.hp) := c4
  have hr := HO.out.hp
  unfold i64ok at hr
  have HB2 : Hid (BlkH (w8.setCell ⟨w1.heap.size, 4, none⟩ (.int .i64 (h.hp - 1))) w1.heap.size (nearH h)) := Lib.hid (BlkV.set_ HG8.out 4 (.int .i64 (h.hp - 1)))
  have hl9 : Low w1 (w8.setCell ⟨w1.heap.size, 4, none⟩ (.int .i64 (h.hp - 1))) := Below.setCell (p := ⟨w1.heap.size, 4, none⟩) hl8 (Nat.le_refl _) (.int .i64 (h.hp - 1))
  have hL9 := HLa.out.trans hl9
  have hb9 := Lib.hid (HB.out.below' hL9 hL9.size)
  have HS2 : Hid ((nearH h).s.length = 16) := Lib.hid HO.out.s
  have HD2 : Hid ((nearH h).d.length = 16) := Lib.hid HO.out.d
  have HO2 := Lib.hid (nearH_ok HO.out (by omega))
  go_wp2_with (with_reducible refine wpList_load_head rfl (.tmp 4) rfl w1.heap.size rfl (nearH h) HB2.out HS2.out HD2.out ?_)
  refine (with_any (nearH h) A n c xs _ HO2.out hn hc hc2 h40 hb9.out).mono ?_
  rintro e w10 ⟨A1, c1, rfl, hn1, hc1, hb1, hl⟩
  have hR : GivesR w ((putL (nearH h)).length + (n - 40)) (putL (nearH h) ++ xs.drop 40) 0 (.returned (.tuple #[.slice A1 ((putL (nearH h)).length + (n - 40)) c1, .int .i64 0])) w10 := ⟨A1, c1, rfl, hn1, hc1, hb1, hL9.trans hl⟩
  clear hn1 hc1 hb1 hl hL9 hb9 hl9 HB2
  replace hR := Lib.hid hR
  go_wp2
  go_ret2
  exact hR.out
set_option maxHeartbeats 1600000 in
set_option maxRecDepth 100000 in
theorem rto_err (d : List Int) (er : Int) (her : getE xs = er) (he : ¬ er = 0) : Calls Try.prog 17 #[.slice A n c, addrV d] w fun e w' => GivesR w 0 [] er e w' := by
  unfold addrV
  have HB := Lib.hid hb
  have HO := Lib.hid (getH_ok hb.all)
  rw [hh] at HO
  have HE := Lib.hid her
  have HH := Lib.hid hh
  have HS := Lib.hid HO.out.s
  have HD := Lib.hid HO.out.d
  clear hb her hh
  go_enter Try.func17, Try.ntmps17
  go_wp2_with ((with_reducible refine wpList_box_v rfl 23 (.tmp 1) rfl (cellsB d) rfl ?_); intro w0 HA0 hL0 hz0; refine Hid.out ?_)
  refine Lib.hid ?_
  have HB0 := Lib.hid (HB.out.below' hL0 hL0.size)
  have HA : Hid (Blk w0 23 w.heap.size d) := Lib.hid HA0
  clear HA0 hz0
  go_wp2_with fail
  refine (rget_any A n c xs w0 hn HB0.out).mono ?_
  rintro e w1 ⟨rfl, hl1⟩
  rw [HE.out, HH.out]
  unfold headV
  go_wp2_with ((with_reducible refine wpList_alloc_v rfl 25 rfl (headC zeroH) (by kernel_rfl) ?_); intro w2 HZ hl2 hz2; refine Hid.out ?_)
  refine Lib.hid ?_
  replace HZ := Lib.hid HZ
  have HLa : Hid (Low w w1) := Lib.hid (hL0.trans hl1)
  have HLw : Hid (Low w0 w1) := Lib.hid hl1
  clear hl1 hz2
  go_wp2_with ((with_reducible refine wpList_store_head rfl (.tmp 6) (.tmp 11) rfl w1.heap.size rfl h rfl zeroH HZ.out rfl rfl HS.out HD.out ?_); intro w8 HG8 hb8 hz8; refine Hid.out ?_)
  refine Lib.hid ?_
  have hl8 : Low w1 w8 := Below.trans hl2 hb8
  replace HG8 := Lib.hid HG8
  have hL : Low w w8 := HLa.out.trans hl8
  clear HZ hb8 hz8 hl2
  go_wp2
  go_ret2
  exact ⟨none, 0, rfl, Nat.le_refl _, by omega, Bs.nil _ _ _, hL⟩
set_option maxHeartbeats 1600000 in
set_option maxRecDepth 100000 in
theorem rto_ok (d : List Int) (hc : n ≤ c) (hc2 : c ≤ 9223372036854775807) (her : getE xs = 0) (h40 : 40 ≤ n) (hd : d.length = 16) (vd : AllB d) : Calls Try.prog 17 #[.slice A n c, addrV d] w fun e w' => GivesR w ((putL (toH d h)).length + (n - 40)) (putL (toH d h) ++ xs.drop 40) 0 e w' := by
  unfold addrV
  have HB := Lib.hid hb
  have HO := Lib.hid (getH_ok hb.all)
  rw [hh] at HO
  have HE := Lib.hid her
  have HH := Lib.hid hh
  have HS := Lib.hid HO.out.s
  have HD := Lib.hid HO.out.d
  clear hb her hh
  have HDn := Lib.hid hd
  clear hd
  go_enter Try.func17, Try.ntmps17
  go_wp2_with ((with_reducible refine wpList_box_v rfl 23 (.tmp 1) rfl (cellsB d) rfl ?_); intro w0 HA0 hL0 hz0; refine Hid.out ?_)
  refine Lib.hid ?_
  have HB0 := Lib.hid (HB.out.below' hL0 hL0.size)
  have HA : Hid (Blk w0 23 w.heap.size d) := Lib.hid HA0
  clear HA0 hz0
  go_wp2_with fail
  refine (rget_any A n c xs w0 hn HB0.out).mono ?_
  rintro e w1 ⟨rfl, hl1⟩
  rw [HE.out, HH.out]
  unfold headV
  go_wp2_with ((with_reducible refine wpList_alloc_v rfl 25 rfl (headC zeroH) (by kernel_rfl) ?_); intro w2 HZ hl2 hz2; refine Hid.out ?_)
  refine Lib.hid ?_
  replace HZ := Lib.hid HZ
  have HLa : Hid (Low w w1) := Lib.hid (hL0.trans hl1)
  have HLw : Hid (Low w0 w1) := Lib.hid hl1
  clear hl1 hz2
  go_wp2_with ((with_reducible refine wpList_store_head rfl (.tmp 6) (.tmp 11) rfl w1.heap.size rfl h rfl zeroH HZ.out rfl rfl HS.out HD.out ?_); intro w8 HG8 hb8 hz8; refine Hid.out ?_)
  refine Lib.hid ?_
  have hl8 : Low w1 w8 := Below.trans hl2 hb8
  replace HG8 := Lib.hid HG8
  have hL : Low w w8 := HLa.out.trans hl8
  clear HZ hb8 hz8 hl2
  have HA8 := Lib.hid (HA.out.below (Low.trans (HLw.out) hl8) HA.out.lt)
  go_wp2_with (first
    | (with_reducible refine wpList_load_addr rfl (.tmp 3) rfl w.heap.size rfl _ d HA8.out HDn.out ?_)
    | ((with_reducible refine wpList_store_dst rfl (.tmp 17) (.tmp 16) rfl w1.heap.size rfl d rfl h HG8.out HS.out HD.out HDn.out ?_); intro HB2; refine Hid.out ?_))
  refine Lib.hid ?_
  replace HB2 := Lib.hid HB2
  have hl9 : Low w1 _ := low_setMid (g := w1.heap.size) (Nat.le_refl _) (cellsB d) 21 _ _ hl8
  generalize w8.setCells w1.heap.size 21 (cellsB d) = w9 at *
  have hL9 := HLa.out.trans hl9
  have hb9 := Lib.hid (HB.out.below' hL9 hL9.size)
  have HS2 : Hid ((toH d h).s.length = 16) := Lib.hid HO.out.s
  have HD2 : Hid ((toH d h).d.length = 16) := Lib.hid HDn.out
  have HO2 := Lib.hid (toH_ok HO.out HDn.out vd)
  go_wp2_with (with_reducible refine wpList_load_head rfl (.tmp 6) rfl w1.heap.size rfl (toH d h) HB2.out HS2.out HD2.out ?_)
  refine (with_any (toH d h) A n c xs _ HO2.out hn hc hc2 h40 hb9.out).mono ?_
  rintro e w10 ⟨A1, c1, rfl, hn1, hc1, hb1, hl⟩
  have hR : GivesR w ((putL (toH d h)).length + (n - 40)) (putL (toH d h) ++ xs.drop 40) 0 (.returned (.tuple #[.slice A1 ((putL (toH d h)).length + (n - 40)) c1, .int .i64 0])) w10 := ⟨A1, c1, rfl, hn1, hc1, hb1, hL9.trans hl⟩
  clear hn1 hc1 hb1 hl hL9 hb9 hl9 HB2
  replace hR := Lib.hid hR
  go_wp2
  go_ret2
  exact hR.out
set_option maxHeartbeats 1600000 in
set_option maxRecDepth 100000 in
theorem rsized_err (er : Int) (her : getE xs = er) (he : ¬ er = 0) : Calls Try.prog 19 #[.slice A n c] w fun e w' => GivesR w 0 [] er e w' := by
  have HB := Lib.hid hb
  have HO := Lib.hid (getH_ok hb.all)
  rw [hh] at HO
  have HE := Lib.hid her
  have HH := Lib.hid hh
  have HS := Lib.hid HO.out.s
  have HD := Lib.hid HO.out.d
  clear hb her hh
  go_enter Try.func19, Try.ntmps19
  go_wp2_with fail
  refine (rget_any A n c xs w hn HB.out).mono ?_
  rintro e w1 ⟨rfl, hl1⟩
  rw [HE.out, HH.out]
  unfold headV
  go_wp2_with ((with_reducible refine wpList_alloc_v rfl 25 rfl (headC zeroH) (by kernel_rfl) ?_); intro w2 HZ hl2 hz2; refine Hid.out ?_)
  refine Lib.hid ?_
  replace HZ := Lib.hid HZ
  have HLa : Hid (Low w w1) := Lib.hid hl1
  clear hl1 hz2
  go_wp2_with ((with_reducible refine wpList_store_head rfl (.tmp 4) (.tmp 9) rfl w1.heap.size rfl h rfl zeroH HZ.out rfl rfl HS.out HD.out ?_); intro w8 HG8 hb8 hz8; refine Hid.out ?_)
  refine Lib.hid ?_
  have hl8 : Low w1 w8 := Below.trans hl2 hb8
  replace HG8 := Lib.hid HG8
  have hL : Low w w8 := HLa.out.trans hl8
  clear HZ hb8 hz8 hl2
  go_wp2
  go_ret2
  exact ⟨none, 0, rfl, Nat.le_refl _, by omega, Bs.nil _ _ _, hL⟩
set_option maxHeartbeats 1600000 in
set_option maxRecDepth 100000 in
theorem rsized_long (her : getE xs = 0) (hp : 65535 < (n : Int) - 40) : Calls Try.prog 19 #[.slice A n c] w fun e w' => GivesR w 0 [] 4 e w' := by
  have HB := Lib.hid hb
  have HO := Lib.hid (getH_ok hb.all)
  rw [hh] at HO
  have HE := Lib.hid her
  have HH := Lib.hid hh
  have HS := Lib.hid HO.out.s
  have HD := Lib.hid HO.out.d
  clear hb her hh
  go_enter Try.func19, Try.ntmps19
  go_wp2_with fail
  refine (rget_any A n c xs w hn HB.out).mono ?_
  rintro e w1 ⟨rfl, hl1⟩
  rw [HE.out, HH.out]
  unfold headV
  go_wp2_with ((with_reducible refine wpList_alloc_v rfl 25 rfl (headC zeroH) (by kernel_rfl) ?_); intro w2 HZ hl2 hz2; refine Hid.out ?_)
  refine Lib.hid ?_
  replace HZ := Lib.hid HZ
  have HLa : Hid (Low w w1) := Lib.hid hl1
  clear hl1 hz2
  go_wp2_with ((with_reducible refine wpList_store_head rfl (.tmp 4) (.tmp 9) rfl w1.heap.size rfl h rfl zeroH HZ.out rfl rfl HS.out HD.out ?_); intro w8 HG8 hb8 hz8; refine Hid.out ?_)
  refine Lib.hid ?_
  have hl8 : Low w1 w8 := Below.trans hl2 hb8
  replace HG8 := Lib.hid HG8
  have hL : Low w w8 := HLa.out.trans hl8
  clear HZ hb8 hz8 hl2
  have c2 := HG8.out.cell 2
  have f2 := HG8.out.frozen 2
  replace c2 : _ = some (Value.int .i64 h.ln) := c2
  have HB2 : Hid (BlkH (w8.setCell ⟨w1.heap.size, 2, none⟩ (.int .i64 ((n : Int) - 40))) w1.heap.size (sizedH ((n : Int) - 40) h)) := Lib.hid (BlkV.set_ HG8.out 2 (.int .i64 ((n : Int) - 40)))
  have hl9 : Low w1 (w8.setCell ⟨w1.heap.size, 2, none⟩ (.int .i64 ((n : Int) - 40))) := Below.setCell (p := ⟨w1.heap.size, 2, none⟩) hl8 (Nat.le_refl _) (.int .i64 ((n : Int) - 40))
  have hL9 := HLa.out.trans hl9
  go_wp2
  go_ret2
  exact ⟨none, 0, rfl, Nat.le_refl _, by omega, Bs.nil _ _ _, hL9⟩
set_option maxHeartbeats 1600000 in
set_option maxRecDepth 100000 in
theorem rsized_ok (hc : n ≤ c) (hc2 : c ≤ 9223372036854775807) (her : getE xs = 0) (h40 : 40 ≤ n) (hp : ¬ 65535 < (n : Int) - 40) : Calls Try.prog 19 #[.slice A n c] w fun e w' => GivesR w ((putL (sizedH ((n : Int) - 40) h)).length + (n - 40)) (putL (sizedH ((n : Int) - 40) h) ++ xs.drop 40) 0 e w' := by
  have HB := Lib.hid hb
  have HO := Lib.hid (getH_ok hb.all)
  rw [hh] at HO
  have HE := Lib.hid her
  have HH := Lib.hid hh
  have HS := Lib.hid HO.out.s
  have HD := Lib.hid HO.out.d
  clear hb her hh
  go_enter Try.func19, Try.ntmps19
  go_wp2_with fail
  refine (rget_any A n c xs w hn HB.out).mono ?_
  rintro e w1 ⟨rfl, hl1⟩
  rw [HE.out, HH.out]
  unfold headV
  go_wp2_with ((with_reducible refine wpList_alloc_v rfl 25 rfl (headC zeroH) (by kernel_rfl) ?_); intro w2 HZ hl2 hz2; refine Hid.out ?_)
  refine Lib.hid ?_
  replace HZ := Lib.hid HZ
  have HLa : Hid (Low w w1) := Lib.hid hl1
  clear hl1 hz2
  go_wp2_with ((with_reducible refine wpList_store_head rfl (.tmp 4) (.tmp 9) rfl w1.heap.size rfl h rfl zeroH HZ.out rfl rfl HS.out HD.out ?_); intro w8 HG8 hb8 hz8; refine Hid.out ?_)
  refine Lib.hid ?_
  have hl8 : Low w1 w8 := Below.trans hl2 hb8
  replace HG8 := Lib.hid HG8
  have hL : Low w w8 := HLa.out.trans hl8
  clear HZ hb8 hz8 hl2
  have c2 := HG8.out.cell 2
  have f2 := HG8.out.frozen 2
  replace c2 : _ = some (Value.int .i64 h.ln) := c2
  have HB2 : Hid (BlkH (w8.setCell ⟨w1.heap.size, 2, none⟩ (.int .i64 ((n : Int) - 40))) w1.heap.size (sizedH ((n : Int) - 40) h)) := Lib.hid (BlkV.set_ HG8.out 2 (.int .i64 ((n : Int) - 40)))
  have hl9 : Low w1 (w8.setCell ⟨w1.heap.size, 2, none⟩ (.int .i64 ((n : Int) - 40))) := Below.setCell (p := ⟨w1.heap.size, 2, none⟩) hl8 (Nat.le_refl _) (.int .i64 ((n : Int) - 40))
  have hL9 := HLa.out.trans hl9
  have hb9 := Lib.hid (HB.out.below' hL9 hL9.size)
  have HS2 : Hid ((sizedH ((n : Int) - 40) h).s.length = 16) := Lib.hid HO.out.s
  have HD2 : Hid ((sizedH ((n : Int) - 40) h).d.length = 16) := Lib.hid HO.out.d
  have HO2 := Lib.hid (sizedH_ok (m := (n : Int) - 40) HO.out (by unfold i64ok; omega))
  go_wp2_with (with_reducible refine wpList_load_head rfl (.tmp 4) rfl w1.heap.size rfl (sizedH ((n : Int) - 40) h) HB2.out HS2.out HD2.out ?_)
  refine (with_any (sizedH ((n : Int) - 40) h) A n c xs _ HO2.out hn hc hc2 h40 hb9.out).mono ?_
  rintro e w10 ⟨A1, c1, rfl, hn1, hc1, hb1, hl⟩
  have hR : GivesR w ((putL (sizedH ((n : Int) - 40) h)).length + (n - 40)) (putL (sizedH ((n : Int) - 40) h) ++ xs.drop 40) 0 (.returned (.tuple #[.slice A1 ((putL (sizedH ((n : Int) - 40) h)).length + (n - 40)) c1, .int .i64 0])) w10 := ⟨A1, c1, rfl, hn1, hc1, hb1, hL9.trans hl⟩
  clear hn1 hc1 hb1 hl hL9 hb9 hl9 HB2
  replace hR := Lib.hid hR
  go_wp2
  go_ret2
  exact hR.out
end
end Go.Proofs.Ytpaikenchbeenaa
