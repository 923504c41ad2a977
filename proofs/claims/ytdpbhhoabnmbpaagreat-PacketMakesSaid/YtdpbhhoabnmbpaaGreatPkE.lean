/- What the document's own Seal of segments, and its Tcp, Icmp and Reason of packets tell. Conditions: addresses are 16 bytes; what is handed in is at most 2^47 bytes long. -/
import Derived.Test.YtdpbhhoabnmbpaaGreatPkD
import Derived.Test.YtdpbhhoabnmbpaaGreatJTc
import Derived.Test.YtdpbhhoabnmbpaaGreatJTd
import Derived.Test.YtdpbhhoabnmbpaaGreatJIc
import Derived.Test.YtdpbhhoabnmbpaaGreatJCk
import Derived.Test.YtdpbhhoabnmbpaaGreatJSx
set_option maxRecDepth 100000
namespace Go.Proofs.YtdpbhhoabnmbpaaGreat
open Go.RowKit
set_option linter.unusedVariables false

set_option maxRecDepth 100000 in
set_option maxHeartbeats 1600000 in
theorem trcseal_any (s d : List Int) (t : Sg) (w : World) (hs : s.length = 16) (hd : d.length = 16) (vs : AllB s) (vd : AllB d) (ht : t.ok w w.heap.size) :
    Calls Tryz.prog 36 #[addrV s, addrV d, segV t] w fun e w' => e = .returned (segV (sealG s d t)) ∧ Below w.heap.size w w' := by
  unfold addrV segV
  have HT := Lib.hid ht
  have HS := Lib.hid hs
  have HD := Lib.hid hd
  have HB0 := Lib.hid (box_first w s d 24 24)
  have HB1 := Lib.hid (box_second w s d 24 24)
  have hL := low2 w s d 24 24
  have hz2 : ((w.alloc (.cells (cellsB s).toArray 24)).alloc (.cells (cellsB d).toArray 24)).heap.size = w.heap.size + 2 := by simp
  clear hs hd ht
  go_enter Tryz.func36, Tryz.ntmps36
  go_wp2_with (first
    | ((with_reducible refine wpList_box_seg rfl (.tmp 2) rfl t rfl ?_); intro w3 HK hl3 hz3)
    | ((with_reducible refine wpList_alloc_seg rfl rfl ?_); intro w4 HZ hl4 hz4; refine Hid.out ?_))
  refine Lib.hid ?_
  rw [hz2] at HK hz3
  rw [hz3] at HZ hz4
  have hl34 := hl3.trans hl4
  replace HB0 := Lib.hid (HB0.out.below hl34 HB0.out.lt)
  replace HB1 := Lib.hid (HB1.out.below hl34 HB1.out.lt)
  replace hL := hL.trans hl34
  replace HK := Lib.hid (HK.below hl4 HK.lt)
  replace HZ := Lib.hid HZ
  clear hl3 hl4 hl34 hz2 hz3 hz4
  go_wp2_with (with_reducible refine wpList_load_seg rfl (.tmp 5) rfl (w.heap.size + 2) rfl t HK.out ?_)
  refine (trccan_any t w4 (HT.out.low hL)).mono ?_
  rintro e w5 ⟨rfl, hB5⟩
  replace HB0 := Lib.hid (HB0.out.below hB5 HB0.out.lt)
  replace HB1 := Lib.hid (HB1.out.below hB5 HB1.out.lt)
  replace HK := Lib.hid (HK.out.below hB5 HK.out.lt)
  replace HZ := Lib.hid (HZ.out.below hB5 HZ.out.lt)
  replace hL := Low.trans hL hB5
  clear hB5
  by_cases hcan : canS t.v = 0
  · have HG := Lib.hid (show sealG s d t = { t with su := sumS s d t.v } by unfold sealG; rw [if_pos hcan])
    have HCZ := Lib.hid (canS_su hcan 0 (by omega) (by omega))
    rw [hcan]
    clear hcan
    have f6 := HK.out.frozen 6
    have c6 := (BlkS.cells HK.out).2.2.2.2.2.2.1
    have HK0 : Hid (BlkS (w5.setCell ⟨w.heap.size + 2, 6, none⟩ (.int .i64 0)) (w.heap.size + 2) { t with su := 0 }) := Lib.hid (HK.out.set_ 6 (.int .i64 0))
    replace HB0 : Hid (Blk (w5.setCell ⟨w.heap.size + 2, 6, none⟩ (.int .i64 0)) 24 w.heap.size s) := Lib.hid (HB0.out.far (by show w.heap.size ≠ w.heap.size + 2; omega) _)
    replace HB1 : Hid (Blk (w5.setCell ⟨w.heap.size + 2, 6, none⟩ (.int .i64 0)) 24 (w.heap.size + 1) d) := Lib.hid (HB1.out.far (by show w.heap.size + 1 ≠ w.heap.size + 2; omega) _)
    replace HZ : Hid (BlkS (w5.setCell ⟨w.heap.size + 2, 6, none⟩ (.int .i64 0)) (w.heap.size + 2 + 1) zeroS) := Lib.hid (HZ.out.far (by show w.heap.size + 2 + 1 ≠ w.heap.size + 2; omega) _)
    have hL6 : Low w (w5.setCell ⟨w.heap.size + 2, 6, none⟩ (.int .i64 0)) := hL.setCell (by show w.heap.size ≤ w.heap.size + 2; omega) _
    clear hL HK
    go_wp2_with (with_reducible refine wpList_load_seg rfl (.tmp 5) rfl (w.heap.size + 2) rfl { t with su := 0 } HK0.out (Hid.out ?_))
    refine Lib.hid ?_
    clear f6 c6
    generalize w5.setCell ⟨w.heap.size + 2, 6, none⟩ (.int .i64 0) = w6 at *
    go_wp2_with fail
    have hok0 : Sg.ok w6 w6.heap.size { t with su := 0 } := by
      have h := HT.out.low hL6
      exact ⟨h.sp, h.dp, h.sq, h.ak, h.fl, h.wi, by unfold i64ok; dsimp only; omega, h.ur, h.om, h.os, h.pm, h.ps⟩
    refine (trcput_any { t with su := 0 } w6 hok0).mono ?_
    rintro e w7 ⟨A7, c7, rfl, hb7, -, hB7⟩
    have hp7 := putS_len { t.v with su := 0 }
    have HSU := Lib.hid (show sumS s d t.v = nt (chk s d 6 (putS { t.v with su := 0 })) from rfl)
    change Bs w7 w7.heap.size A7 (putS { t.v with su := 0 }).length (putS { t.v with su := 0 }) at hb7
    change Hid (canS { t.v with su := 0 } = 0) at HCZ
    have hce : canS (Sg.v { t with su := 0 }) = 0 := HCZ.out
    rw [hce]
    replace hb7 : Bs w7 w7.heap.size A7 (putS (Sg.v { t with su := 0 })).length (putS (Sg.v { t with su := 0 })) := hb7
    replace hp7 : (putS (Sg.v { t with su := 0 })).length ≤ 65535 := hp7
    replace HSU : Hid (sumS s d t.v = nt (chk s d 6 (putS (Sg.v { t with su := 0 })))) := HSU
    generalize putS (Sg.v { t with su := 0 }) = xs at *
    replace HB0 := Lib.hid (HB0.out.below hB7 HB0.out.lt)
    replace HB1 := Lib.hid (HB1.out.below hB7 HB1.out.lt)
    replace HK0 := Lib.hid (HK0.out.below hB7 HK0.out.lt)
    replace HZ := Lib.hid (HZ.out.below hB7 HZ.out.lt)
    replace hL6 := Low.trans hL6 hB7
    have HB7 := Lib.hid hb7
    clear hb7 hB7 hok0 hce HCZ
    obtain ⟨q, hq⟩ : ∃ q, q = xs.length := ⟨_, rfl⟩
    rw [← hq] at hp7 HB7 ⊢
    clear hq
    go_wp2_with (first
      | (with_reducible refine wpList_load_addr rfl (.tmp 3) rfl w.heap.size rfl _ s HB0.out HS.out ?_)
      | (with_reducible refine wpList_load_addr rfl (.tmp 4) rfl (w.heap.size + 1) rfl _ d HB1.out HD.out ?_))
    refine (rcheck_any s d 6 A7 q c7 xs w7 HS.out HD.out vs vd (by unfold i64ok; omega) (by omega) HB7.out).mono ?_
    rintro e w8 ⟨rfl, hB8⟩
    rw [← HSU.out]
    have hzr := sumS_range s d t.v
    obtain ⟨z, hz⟩ : ∃ z, z = sumS s d t.v := ⟨_, rfl⟩
    rw [← hz] at HG hzr ⊢
    replace HK0 := Lib.hid (HK0.out.below hB8 HK0.out.lt)
    replace HZ := Lib.hid (HZ.out.below hB8 HZ.out.lt)
    replace hL6 := Low.trans hL6 hB8
    clear hz hB8 HB7 HB0 HB1 HSU
    have f6 := HK0.out.frozen 6
    have c6 := (BlkS.cells HK0.out).2.2.2.2.2.2.1
    have HK9 : Hid (BlkS (w8.setCell ⟨w.heap.size + 2, 6, none⟩ (.int .i64 z)) (w.heap.size + 2) { t with su := z }) := Lib.hid (HK0.out.set_ 6 (.int .i64 z))
    replace HZ : Hid (BlkS (w8.setCell ⟨w.heap.size + 2, 6, none⟩ (.int .i64 z)) (w.heap.size + 2 + 1) zeroS) := Lib.hid (HZ.out.far (by show w.heap.size + 2 + 1 ≠ w.heap.size + 2; omega) _)
    have hL9 : Low w (w8.setCell ⟨w.heap.size + 2, 6, none⟩ (.int .i64 z)) := hL6.setCell (by show w.heap.size ≤ w.heap.size + 2; omega) _
    clear hL6 HK0
    go_wp2_with (with_reducible refine wpList_load_seg rfl (.tmp 5) rfl (w.heap.size + 2) rfl { t with su := z } HK9.out (Hid.out ?_))
    refine Lib.hid ?_
    clear f6 c6
    generalize w8.setCell ⟨w.heap.size + 2, 6, none⟩ (.int .i64 z) = w9 at *
    go_wp2_with ((refine wpList_store_seg rfl (.tmp 6) (.tmp 24) rfl (w.heap.size + 2 + 1) rfl { t with su := z } rfl zeroS HZ.out ?_); intro w10 HR hb10 hz10)
    refine bodyPost_ret (v := segV { t with su := z }) (results_cell_row Tryz.results36 _ _ (w.heap.size + 2 + 1) _ _ _ _ rfl HR Tryz.underlying34 rfl (by rw [seg_size]; rfl)) rfl ⟨by rw [HG.out]; rfl, Below.trans hL9 (hb10.mono (by omega))⟩
  · have HG := Lib.hid (show sealG s d t = t by unfold sealG; rw [if_neg hcan])
    generalize canS t.v = x at *
    go_wp2_with (first
      | (with_reducible refine wpList_load_seg rfl (.tmp 5) rfl (w.heap.size + 2) rfl t HK.out ?_)
      | ((refine wpList_store_seg rfl (.tmp 6) (.tmp 12) rfl (w.heap.size + 2 + 1) rfl t rfl zeroS HZ.out ?_); intro w6 HR hb6 hz6))
    refine bodyPost_ret (v := segV t) (results_cell_row Tryz.results36 _ _ (w.heap.size + 2 + 1) _ _ _ _ rfl HR Tryz.underlying34 rfl (by rw [seg_size]; rfl)) rfl ⟨by rw [HG.out]; rfl, Below.trans hL (hb6.mono (by omega))⟩

theorem run_build_madeK (c e f s0 s1 s2 s3 s4 s5 s6 s7 s8 s9 s10 s11 s12 s13 s14 s15 d0 d1 d2 d3 d4 d5 d6 d7 d8 d9 d10 d11 d12 d13 d14 d15 : Int) (w : World) :
    (Instr.build 26 #[(2, .int .i64 c), (3, .int .i64 e), (4, .int .i64 f), (5, .agg (cellsB [s0, s1, s2, s3, s4, s5, s6, s7, s8, s9, s10, s11, s12, s13, s14, s15]).toArray), (6, .agg (cellsB [d0, d1, d2, d3, d4, d5, d6, d7, d8, d9, d10, d11, d12, d13, d14, d15]).toArray)]).run Tryz.prog w = .ok (.agg (headC ⟨0, 0, c, e, f, [s0, s1, s2, s3, s4, s5, s6, s7, s8, s9, s10, s11, s12, s13, s14, s15], [d0, d1, d2, d3, d4, d5, d6, d7, d8, d9, d10, d11, d12, d13, d14, d15]⟩).toArray) w := by kernel_rfl
theorem run_build_made (n : Nat) (s d : List Int) (k : Int) (hs : s.length = 16) (hd : d.length = 16) (w : World) :
    (Instr.build 26 #[(2, .int .i64 (n : Int)), (3, .int .i64 k), (4, .int .i64 64), (5, .agg (cellsB s).toArray), (6, .agg (cellsB d).toArray)]).run Tryz.prog w = .ok (.agg (headC (madeH n s d k)).toArray) w := by
  obtain ⟨s0, s1, s2, s3, s4, s5, s6, s7, s8, s9, s10, s11, s12, s13, s14, s15, rfl⟩ := list16 s hs
  obtain ⟨d0, d1, d2, d3, d4, d5, d6, d7, d8, d9, d10, d11, d12, d13, d14, d15, rfl⟩ := list16 d hd
  exact run_build_madeK _ _ _ _ _ _ _ _ _ _ _ _ _ _ _ _ _ _ _ _ _ _ _ _ _ _ _ _ _ _ _ _ _ _ _ w

theorem wpList_build_made {ops : Array Oper} {rest : List Oper} {o : Oper} {a : Act} {w : World} {Q : Exit → Act → World → Prop} (hgd : o.guard = none) (x0 x1 x2 x3 x4 : Operand) (ho : o.op = .build 26 #[(2, x0), (3, x1), (4, x2), (5, x3), (6, x4)])
    (n : Nat) (s d : List Int) (k : Int) (e0 : a.eval x0 = .int .i64 (n : Int)) (e1 : a.eval x1 = .int .i64 k) (e2 : a.eval x2 = .int .i64 64) (e3 : a.eval x3 = .agg (cellsB s).toArray) (e4 : a.eval x4 = .agg (cellsB d).toArray) (hs : s.length = 16) (hd : d.length = 16)
    (hk : wpList Tryz.prog ops Q rest (a.put o.dst (.agg (headC (madeH n s d k)).toArray)) w) : wpList Tryz.prog ops Q (o :: rest) a w :=
  wpList_plain hgd fun K hK => by
    unfold Oper.wp execOp
    simp only [ho, List.map_toArray, List.map_cons, List.map_nil, e0, e1, e2, e3, e4, Sem.run_bind, run_build_made n s d k hs hd, Result.andThen_ok, Sem.run_pure]
    exact hK _ _ hk

theorem sealG_v (s d : List Int) (t : Sg) : (sealG s d t).v = sealB s d t.v := by
  unfold sealG sealB
  by_cases h : canS t.v = 0
  · rw [if_pos h, if_pos h]; rfl
  · rw [if_neg h, if_neg h]

set_option maxRecDepth 100000 in
set_option maxHeartbeats 3200000 in
theorem rmade_any (s d : List Int) (k : Int) (A : Option Addr) (n c : Nat) (xs : List Int) (w : World) (hs : s.length = 16) (hd : d.length = 16) (vs : AllB s) (vd : AllB d) (hk : 0 ≤ k ∧ k ≤ 255) (hn : n ≤ 140737488351232) (hb : Bs w w.heap.size A n xs) :
    Calls Tryz.prog 37 #[addrV s, addrV d, .int .i64 k, .slice A n c] w (GivesBE w (madeL s d k xs) (madeE xs)) := by
  unfold addrV
  have HS := Lib.hid hs
  have HD := Lib.hid hd
  have HB := Lib.hid hb
  have HL := Lib.hid hb.len
  have HB0 := Lib.hid (box_first w s d 24 24)
  have HB1 := Lib.hid (box_second w s d 24 24)
  have hL := low2 w s d 24 24
  by_cases h : 1460 < n
  · have HE := Lib.hid (show madeE xs = 4 ∧ madeL s d k xs = [] by unfold madeL madeE; rw [if_pos (by rw [HL.out]; exact h)]; exact ⟨rfl, rfl⟩)
    have d1 : decide (1460 < (n : Int)) = true := by simp; omega
    clear hs hd vs vd hb
    go_enter Tryz.func37, Tryz.ntmps37
    go_wp2_with fail
    go_ret2
    exact GivesBE.of HE.out.2 HE.out.1 (Bs.nil _ _ _) (Nat.le_refl _) (by omega) hL
  · have hlen : n ≤ 1460 := by omega
    obtain ⟨k1, k2⟩ := madeH_ok (n := n) (k := k) (by omega) hs hd vs vd hk
    have HE := Lib.hid (show madeE xs = 0 ∧ madeL s d k xs = headL (madeH n s d k) ++ xs by
      have e : madeE xs = 0 := by unfold madeE; rw [if_neg (by rw [HL.out]; exact h)]
      exact ⟨e, by rw [madeL_yes e, HL.out]⟩)
    have HH := Lib.hid k1
    have HPL := Lib.hid (show putL (madeH n s d k) = headL (madeH n s d k) by unfold putL; rw [k2]; rfl)
    have HHL := Lib.hid (headL_length k1)
    obtain ⟨i0, hi, hz0, hz1, hz2⟩ := info_parts info5
    have HI := Lib.hid hi
    have HZ0 := Lib.hid hz0
    have HZ1 := Lib.hid hz1
    have HZ2 := Lib.hid hz2
    clear hs hd vs vd hb hi hz0 hz1 hz2 k1 k2 h hk
    go_enter Tryz.func37, Tryz.ntmps37
    go_wp2_with (first
      | (with_reducible refine wpList_load_addr rfl (.tmp 4) rfl w.heap.size rfl _ s HB0.out HS.out ?_)
      | (with_reducible refine wpList_load_addr rfl (.tmp 5) rfl (w.heap.size + 1) rfl _ d HB1.out HD.out ?_)
      | (refine wpList_build_made rfl (.tmp 14) (.tmp 15) _ (.tmp 16) (.tmp 17) rfl n s d k rfl rfl rfl rfl rfl HS.out HD.out ?_))
    refine (rput_any (madeH n s d k) _ HH.out).mono ?_
    rintro e w4 ⟨v, rfl, A4, c4, rfl, hO4, hB4⟩
    rw [HPL.out] at hO4 ⊢
    obtain ⟨z, hz⟩ : ∃ z, z = headL (madeH n s d k) := ⟨_, rfl⟩
    rw [← hz] at hO4 HHL HE ⊢
    rw [HHL.out] at hO4 ⊢
    have hL4 := Low.trans hL hB4
    have hsz : w.heap.size + 2 ≤ w4.heap.size := by
      have := hB4.size
      simp at this
      omega
    have HB4 := Lib.hid (HB.out.below' hL4 hL4.size)
    have HO4 := Lib.hid (hO4.lower (base' := w.heap.size) (by simp; omega))
    clear hz hB4 HB0 HB1 hO4
    go_wp2_with (at_builtin; refine wpList_append_bs rfl (.tmp 19) (.tmp 20) _ rfl w.heap.size 5 i0 Tryz.underlying22 HI.out HZ0.out HZ1.out HZ2.out _ 40 c4 z rfl HO4.out _ n c w4.heap.size xs rfl HB4.out (by omega) hL4.size ?_; intro A5 c5 w5 hO5 hg5 hx5)
    have hL5 : Low w w5 := hL4.grown hg5 hL4.size (fun k hk => (HO4.out.lt k hk).1)
    have hb5 := hO5.bs (Nat.le_refl _)
    have hc5 := hO5.cap
    go_ret2
    exact GivesBE.of HE.out.2 HE.out.1 hb5 hc5.1 (by have := hc5.2; simp only [maxLen] at this; omega) hL5

theorem two_stay {w w1 w2 : World} {s d : List Int} (h0 : Hid (Blk w1 24 w.heap.size s)) (h1 : Hid (Blk w1 24 (w.heap.size + 1) d)) (hl : Low w1 w2) :
    Hid (Blk w2 24 w.heap.size s) ∧ Hid (Blk w2 24 (w.heap.size + 1) d) := ⟨Lib.hid (h0.out.below hl h0.out.lt), Lib.hid (h1.out.below hl h1.out.lt)⟩

set_option maxRecDepth 100000 in
set_option maxHeartbeats 3200000 in
theorem rpktcp_any (s d : List Int) (t : Sg) (w : World) (hs : s.length = 16) (hd : d.length = 16) (vs : AllB s) (vd : AllB d) (ht : t.ok w w.heap.size) :
    Calls Tryz.prog 14 #[addrV s, addrV d, segV t] w (GivesBE w (tcpL s d t.v) (tcpE s d t.v)) := by
  unfold addrV segV
  have HT := Lib.hid ht
  have HS := Lib.hid hs
  have HD := Lib.hid hd
  have HB0 := Lib.hid (box_first w s d 24 24)
  have HB1 := Lib.hid (box_second w s d 24 24)
  have hL := low2 w s d 24 24
  have hz2 : ((w.alloc (.cells (cellsB s).toArray 24)).alloc (.cells (cellsB d).toArray 24)).heap.size = w.heap.size + 2 := by simp
  clear hs hd ht
  go_enter Tryz.func14, Tryz.ntmps14
  go_wp2_with ((with_reducible refine wpList_box_seg rfl (.tmp 2) rfl t rfl ?_); intro w3 HK hl3 hz3; refine Hid.out ?_)
  refine Lib.hid ?_
  rw [hz2] at HK hz3
  obtain ⟨HB0, HB1⟩ := two_stay HB0 HB1 hl3
  replace hL := hL.trans hl3
  replace HK := Lib.hid HK
  clear hl3 hz2 hz3
  go_wp2_with (first
    | (with_reducible refine wpList_load_addr rfl (.tmp 3) rfl w.heap.size rfl _ s HB0.out HS.out ?_)
    | (with_reducible refine wpList_load_addr rfl (.tmp 4) rfl (w.heap.size + 1) rfl _ d HB1.out HD.out ?_)
    | (with_reducible refine wpList_load_seg rfl (.tmp 5) rfl (w.heap.size + 2) rfl t HK.out ?_))
  refine (trcseal_any s d t w3 HS.out HD.out vs vd (HT.out.low hL)).mono ?_
  rintro e w4 ⟨rfl, hB4⟩
  obtain ⟨HB0, HB1⟩ := two_stay HB0 HB1 hB4
  replace hL := Low.trans hL hB4
  have HOK := Lib.hid (sealG_ok (HT.out.low hL) s d)
  have HV := Lib.hid (sealG_v s d t)
  generalize sealG s d t = y at *
  clear HK hB4
  go_wp2_with fail
  refine (trcput_any y w4 HOK.out).mono ?_
  rintro e w5 ⟨A5, c5, rfl, hb5, hc5, hB5⟩
  rw [HV.out] at hb5 hc5 ⊢
  obtain ⟨HB0, HB1⟩ := two_stay HB0 HB1 hB5
  replace hL := Low.trans hL hB5
  clear hB5 HOK
  by_cases hcan : canS t.v = 0
  · have e2 := (sealB_yes (s := s) (d := d) hcan).2
    have HE := Lib.hid (show tcpE s d t.v = madeE (putS (sealB s d t.v)) ∧ tcpL s d t.v = madeL s d 6 (putS (sealB s d t.v)) by unfold tcpE tcpL; rw [if_pos hcan, if_pos hcan]; exact ⟨rfl, rfl⟩)
    rw [e2]
    have hp := putS_len (sealB s d t.v)
    generalize putS (sealB s d t.v) = xs at *
    obtain ⟨q, hq⟩ : ∃ q, q = xs.length := ⟨_, rfl⟩
    rw [← hq] at hb5 hc5 hp ⊢
    have HB5 := Lib.hid hb5
    clear hq hb5 hcan e2
    go_wp2_with (first
      | (with_reducible refine wpList_load_addr rfl (.tmp 3) rfl w.heap.size rfl _ s HB0.out HS.out ?_)
      | (with_reducible refine wpList_load_addr rfl (.tmp 4) rfl (w.heap.size + 1) rfl _ d HB1.out HD.out ?_))
    refine (rmade_any s d 6 A5 q c5 xs w5 HS.out HD.out vs vd (by omega) (by omega) HB5.out).mono ?_
    rintro e w6 ⟨A6, c6, rfl, hb6, hc6, hB6⟩
    have HB6 := Lib.hid hb6
    have HC6 := Lib.hid hc6
    replace hL := Low.trans hL hB6
    generalize madeE xs = er at *
    generalize madeL s d 6 xs = ys at *
    obtain ⟨q, hq⟩ : ∃ q, q = ys.length := ⟨_, rfl⟩
    rw [← hq] at HB6 HC6 ⊢
    clear hq hb6 hc6 hB6
    go_wp2_with fail
    go_ret2
    exact GivesBE.of HE.out.2 HE.out.1 HB6.out HC6.out.1 HC6.out.2 hL
  · have HE := Lib.hid (show tcpE s d t.v = canS t.v ∧ tcpL s d t.v = [] by unfold tcpE tcpL; rw [if_neg hcan, if_neg hcan]; exact ⟨rfl, rfl⟩)
    have es : sealB s d t.v = t.v := by unfold sealB; rw [if_neg hcan]
    rw [es]
    generalize canS t.v = er at *
    have hne : (er == 0) = false := by simpa using hcan
    go_wp2_with fail
    go_ret2
    exact GivesBE.of HE.out.2 HE.out.1 (Bs.nil _ _ _) (Nat.le_refl _) (by omega) hL

set_option maxRecDepth 100000 in
set_option maxHeartbeats 3200000 in
theorem rpkicmp_any (s d : List Int) (m : Mg) (w : World) (hs : s.length = 16) (hd : d.length = 16) (vs : AllB s) (vd : AllB d) (hm : m.ok w w.heap.size) (hbm : m.bm ≤ 140737488347136) :
    Calls Tryz.prog 16 #[addrV s, addrV d, msgV m] w (GivesBE w (icmpL s d m.v) (icmpE s d m.v)) := by
  unfold addrV msgV
  have HM := Lib.hid hm
  have HS := Lib.hid hs
  have HD := Lib.hid hd
  have HB0 := Lib.hid (box_first w s d 24 24)
  have HB1 := Lib.hid (box_second w s d 24 24)
  have hL := low2 w s d 24 24
  have hz2 : ((w.alloc (.cells (cellsB s).toArray 24)).alloc (.cells (cellsB d).toArray 24)).heap.size = w.heap.size + 2 := by simp
  clear hs hd hm
  go_enter Tryz.func16, Tryz.ntmps16
  go_wp2_with ((with_reducible refine wpList_box_msg rfl (.tmp 2) rfl m rfl ?_); intro w3 HK hl3 hz3; refine Hid.out ?_)
  refine Lib.hid ?_
  rw [hz2] at HK hz3
  obtain ⟨HB0, HB1⟩ := two_stay HB0 HB1 hl3
  replace hL := hL.trans hl3
  replace HK := Lib.hid HK
  clear hl3 hz2 hz3
  go_wp2_with (first
    | (with_reducible refine wpList_load_addr rfl (.tmp 3) rfl w.heap.size rfl _ s HB0.out HS.out ?_)
    | (with_reducible refine wpList_load_addr rfl (.tmp 4) rfl (w.heap.size + 1) rfl _ d HB1.out HD.out ?_)
    | (with_reducible refine wpList_load_msg rfl (.tmp 5) rfl (w.heap.size + 2) rfl m HK.out ?_))
  refine (ricput_any s d m w3 HS.out HD.out vs vd (HM.out.low hL) hbm).mono ?_
  rintro e w5 ⟨A5, c5, rfl, hb5, hc5, hB5⟩
  obtain ⟨HB0, HB1⟩ := two_stay HB0 HB1 hB5
  replace hL := Low.trans hL hB5
  clear hB5 HK
  cases hcan : okM m.v
  · have HE := Lib.hid (show icmpE s d m.v = 2 ∧ icmpL s d m.v = [] by unfold icmpE icmpL; rw [hcan]; exact ⟨rfl, rfl⟩)
    have e0 : putM s d m.v = [] := by unfold putM; rw [hcan]; rfl
    rw [e0]
    dsimp only [List.length_nil]
    clear hcan e0 hb5 hc5
    go_wp2_with fail
    go_ret2
    exact GivesBE.of HE.out.2 HE.out.1 (Bs.nil _ _ _) (Nat.le_refl _) (by omega) hL
  · have HE := Lib.hid (show icmpE s d m.v = madeE (putM s d m.v) ∧ icmpL s d m.v = madeL s d 58 (putM s d m.v) by unfold icmpE icmpL; rw [hcan]; exact ⟨rfl, rfl⟩)
    have hp := putM_len (s := s) (d := d) hcan
    have hbl : m.v.bs.length ≤ 140737488347136 := by
      have := HM.out.bs.len
      show m.bs.length ≤ _
      omega
    generalize putM s d m.v = xs at *
    obtain ⟨q, hq⟩ : ∃ q, q = xs.length := ⟨_, rfl⟩
    rw [← hq] at hb5 hc5 hp ⊢
    have HB5 := Lib.hid hb5
    have hq0 : 0 < q := by omega
    have hq1 : q ≤ 140737488351232 := by omega
    have hz : (q : Int) ≠ 0 := by omega
    have hz' : ((q : Int) == 0) = false := by simpa using hz
    clear hq hb5 hcan hp hbl hz
    go_wp2_with (first
      | (with_reducible refine wpList_load_addr rfl (.tmp 3) rfl w.heap.size rfl _ s HB0.out HS.out ?_)
      | (with_reducible refine wpList_load_addr rfl (.tmp 4) rfl (w.heap.size + 1) rfl _ d HB1.out HD.out ?_))
    refine (rmade_any s d 58 A5 q c5 xs w5 HS.out HD.out vs vd (by omega) hq1 HB5.out).mono ?_
    rintro e w6 ⟨A6, c6, rfl, hb6, hc6, hB6⟩
    have HB6 := Lib.hid hb6
    have HC6 := Lib.hid hc6
    replace hL := Low.trans hL hB6
    generalize madeE xs = er at *
    generalize madeL s d 58 xs = ys at *
    obtain ⟨q2, hq2⟩ : ∃ q, q = ys.length := ⟨_, rfl⟩
    rw [← hq2] at HB6 HC6 ⊢
    clear hq2 hb6 hc6 hB6
    go_wp2_with fail
    go_ret2
    exact GivesBE.of HE.out.2 HE.out.1 HB6.out HC6.out.1 HC6.out.2 hL
end Go.Proofs.YtdpbhhoabnmbpaaGreat
