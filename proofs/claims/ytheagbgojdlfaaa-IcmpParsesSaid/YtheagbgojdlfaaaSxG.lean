/- What the document's own Get tells of any bytes. Condition: at most 2^47 bytes. -/
import Derived.Test.YtheagbgojdlfaaaSxF
import Derived.Test.YtheagbgojdlfaaaSxD
namespace Go.Proofs.Ytheagbgojdlfaaa
open Go.RowKit
set_option linter.unusedVariables false

set_option maxHeartbeats 1600000 in
set_option maxRecDepth 100000 in
theorem rget_short (A : Option Addr) (n c : Nat) (xs : List Int) (w : World) (hn : n ≤ 140737488355328) (h1 : n < 40) (hb : Bs w w.heap.size A n xs) :
    Calls Try.prog 32 #[.slice A n c] w fun e w' => GivesH w zeroH 3 e w' := by
  go_enter Try.func32, Try.ntmps32
  go_wp2_with ((with_reducible refine wpList_alloc_v rfl 58 rfl (headC zeroH) (by kernel_rfl) ?_); intro w1 HZ hL hz1; refine Hid.out ?_)
  refine Lib.hid ?_
  replace HZ := Lib.hid HZ
  go_wp2_with ((refine wpList_store_head rfl (.tmp 2) (.tmp 9) rfl w.heap.size rfl zeroH rfl zeroH HZ.out rfl rfl rfl rfl ?_); intro w4 HG hb4 hz4)
  exact ret_head Try.results32 rfl rfl HG rfl rfl ⟨rfl, Below.trans hL hb4⟩ rfl

set_option maxHeartbeats 1600000 in
set_option maxRecDepth 100000 in
theorem rget_form (A : Option Addr) (n c : Nat) (xs : List Int) (w : World) (hn : n ≤ 140737488355328) (h1 : 40 ≤ n) (h2 : ¬ xs.getD 0 0 / 16 = 6) (hb : Bs w w.heap.size A n xs) :
    Calls Try.prog 32 #[.slice A n c] w fun e w' => GivesH w zeroH 5 e w' := by
  have r0 := hb.nonneg 0
  go_enter Try.func32, Try.ntmps32
  go_wp2_with ((with_reducible refine wpList_alloc_v rfl 58 rfl (headC zeroH) (by kernel_rfl) ?_); intro w1 HZ hL hz1; refine Hid.out ?_)
  refine Lib.hid ?_
  replace HZ := Lib.hid HZ
  replace hb := hb.below' hL hL.size
  obtain ⟨b, o, rfl, hbl, hcell⟩ := hb.mem (by omega)
  have c0 := hcell 0 (by omega)
  rw [Nat.add_zero] at c0
  clear hcell hb
  generalize xs.getD 0 0 = x0 at *
  have n0 : (0 : Int) < n := by omega
  go_wp2_with ((refine wpList_store_head rfl (.tmp 2) (.tmp 15) rfl w.heap.size rfl zeroH rfl zeroH HZ.out rfl rfl rfl rfl ?_); intro w4 HG hb4 hz4)
  exact ret_head Try.results32 rfl rfl HG rfl rfl ⟨rfl, Below.trans hL hb4⟩ rfl

theorem run_build_five (a b c d e : Int) (w : World) :
    (Instr.build 58 #[(0, .int .i64 a), (1, .int .i64 b), (2, .int .i64 c), (3, .int .i64 d), (4, .int .i64 e)]).run Try.prog w = .ok (.agg (headC ⟨a, b, c, d, e, zero16, zero16⟩).toArray) w := by kernel_rfl
theorem exec_build_five {f : Operand → Value} {dd : Option Tmp} {x0 x1 x2 x3 x4 : Operand} {ty : TypeId} {pos : String} {gd : Option (Nat × Bool)} {w : World} (a b c d e : Int)
    (e0 : f x0 = .int .i64 a) (e1 : f x1 = .int .i64 b) (e2 : f x2 = .int .i64 c) (e3 : f x3 = .int .i64 d) (e4 : f x4 = .int .i64 e) :
    (execOp f ⟨dd, .build 58 #[(0, x0), (1, x1), (2, x2), (3, x3), (4, x4)], ty, pos, #[], gd⟩).run Try.prog w = .ok (.value (.agg (headC ⟨a, b, c, d, e, zero16, zero16⟩).toArray)) w := by
  unfold execOp
  simp only [List.map_toArray, List.map_cons, List.map_nil, e0, e1, e2, e3, e4, Sem.run_bind, run_build_five, Result.andThen_ok, Sem.run_pure]
theorem headC_set_s (h : Hd) (k : Nat) (x : Int) (hs : h.s.length = 16) (hk : k < 16) : (headC h).set (5 + k) (.int .u8 x) = headC { h with s := h.s.set k x } := by
  unfold headC
  rw [show 5 + k = k + 1 + 1 + 1 + 1 + 1 by omega]
  simp only [List.set_cons_succ]
  rw [List.set_append_left _ _ (by rw [cellsB_length, hs]; exact hk)]
  simp [cellsB, List.map_set]
theorem headC_set_d (h : Hd) (k : Nat) (x : Int) (hs : h.s.length = 16) (hk : k < 16) : (headC h).set (21 + k) (.int .u8 x) = headC { h with d := h.d.set k x } := by
  unfold headC
  rw [show 21 + k = (16 + k) + 1 + 1 + 1 + 1 + 1 by omega]
  simp only [List.set_cons_succ]
  rw [List.set_append_right _ _ (by rw [cellsB_length, hs]; omega), cellsB_length, hs, Nat.add_sub_cancel_left]
  simp [cellsB, List.map_set]

set_option maxHeartbeats 3200000 in
set_option maxRecDepth 100000 in
theorem rget_yes (A : Option Addr) (n c : Nat) (xs : List Int) (w : World) (hn : n ≤ 140737488355328) (h1 : 40 ≤ n) (h2 : xs.getD 0 0 / 16 = 6) (hb : Bs w w.heap.size A n xs) :
    Calls Try.prog 32 #[.slice A n c] w fun e w' => GivesH w (getL xs) 0 e w' := by
  have r0 := hb.nonneg 0
  have r1 := hb.nonneg 1
  have r2 := hb.nonneg 2
  have r3 := hb.nonneg 3
  have r4 := hb.nonneg 4
  have r5 := hb.nonneg 5
  have r6 := hb.nonneg 6
  have r7 := hb.nonneg 7
  have HA := Lib.hid hb.all
  have HLn := Lib.hid hb.len
  have HOk := Lib.hid (getL_ok hb.all (by rw [hb.len]; exact h1))
  obtain ⟨b, o, rfl, hbl, hcell⟩ := hb.mem (by omega)
  have HCell := Lib.hid hcell
  have c0 := hcell 0 (by omega)
  have c1 := hcell 1 (by omega)
  have c2 := hcell 2 (by omega)
  have c3 := hcell 3 (by omega)
  have c4 := hcell 4 (by omega)
  have c5 := hcell 5 (by omega)
  have c6 := hcell 6 (by omega)
  have c7 := hcell 7 (by omega)
  rw [Nat.add_zero] at c0
  clear hb hcell
  have HG := Lib.hid (show getL xs = ⟨xs.getD 0 0 % 16 * 16 + xs.getD 1 0 / 16, xs.getD 1 0 % 16 * 65536 + xs.getD 2 0 * 256 + xs.getD 3 0, xs.getD 4 0 * 256 + xs.getD 5 0, xs.getD 6 0, xs.getD 7 0, (xs.drop 8).take 16, (xs.drop 24).take 16⟩ from rfl)
  generalize xs.getD 0 0 = x0 at *
  generalize xs.getD 1 0 = x1 at *
  generalize xs.getD 2 0 = x2 at *
  generalize xs.getD 3 0 = x3 at *
  generalize xs.getD 4 0 = x4 at *
  generalize xs.getD 5 0 = x5 at *
  generalize xs.getD 6 0 = x6 at *
  generalize xs.getD 7 0 = x7 at *
  have n0 : (0 : Int) < n := by omega
  have n1 : (1 : Int) < n := by omega
  have n2 : (2 : Int) < n := by omega
  have n3 : (3 : Int) < n := by omega
  have n4 : (4 : Int) < n := by omega
  have n5 : (5 : Int) < n := by omega
  have n6 : (6 : Int) < n := by omega
  have n7 : (7 : Int) < n := by omega
  go_enter Try.func32, Try.ntmps32
  go_wp2_with ((with_reducible refine wpList_alloc_v rfl 58 rfl (headC zeroH) (by kernel_rfl) ?_); intro w1 HZ hL hz1; refine Hid.out ?_)
  refine Lib.hid ?_
  replace HZ := Lib.hid HZ
  have d0 := (hL.cell (p := ⟨b, o, none⟩) hbl).trans c0
  go_wp2_with fail
  clear d0
  refine wp_region_planS (fun y => Below w.heap.size w y) (.rd 0 (.rd 1 (.rd 2 (.rd 3 (.rd 4 (.rd 5 (.rd 6 (.rd 7 (.rd 8 (.rd 9 (.rd 10 (.rd 11 (.rd 12 (.rd 13 (.rd 14 (.rd 15 (.rd 16 (.rd 17 (.rd 18 (.rd 19 (.rd 20 (.rd 21 (.rd 22 (.rd 23 (.rd 24 (.rd 25 (.rd 26 (.rd 27 (.rd 28 (.rd 29 (.rd 30 (.rd 31 (.rd 32 (.rd 33 (.rd 34 (.rd 35 (.rd 36 (.rd 37 (.rd 38 (.rd 39 (.rd 40 (.rd 41 (.rd 42 (.rd 43 (.rd 44 (.rd 45 (.rd 46 (.rd 47 (.act 48 (.act 49 (.done)))))))))))))))))))))))))))))))))))))))))))))))))))
    (by kernel_rfl) (by kernel_rfl) (fun _ _ d _ _ h => by cases d <;> exact h) (by kernel_rfl) (Below.drew hL) ?_
  replace HZ : Hid (BlkH w1.drew w.heap.size zeroH) := HZ
  replace hL := Below.drew hL
  replace hz1 : w1.drew.heap.size = w.heap.size + 1 := hz1
  generalize w1.drew = w2 at *
  have n0' : 0 < n := by omega
  have k0 : IntKind.i64.wrap (x0 % 16) = x0 % 16 := wraps_i64 _ (by omega) (by omega)
  have k1 : IntKind.i64.wrap (x0 % 16 * 16) = x0 % 16 * 16 := wraps_i64 _ (by omega) (by omega)
  have k2 : IntKind.i64.wrap (x1 / 16) = x1 / 16 := wraps_i64 _ (by omega) (by omega)
  have k3 : IntKind.i64.wrap (x0 % 16 * 16 + x1 / 16) = x0 % 16 * 16 + x1 / 16 := wraps_i64 _ (by omega) (by omega)
  have k4 : IntKind.i64.wrap (x1 % 16) = x1 % 16 := wraps_i64 _ (by omega) (by omega)
  have k5 : IntKind.i64.wrap (x1 % 16 * 65536) = x1 % 16 * 65536 := wraps_i64 _ (by omega) (by omega)
  have k6 : IntKind.i64.wrap (x2) = x2 := wraps_i64 _ (by omega) (by omega)
  have k7 : IntKind.i64.wrap (x2 * 256) = x2 * 256 := wraps_i64 _ (by omega) (by omega)
  have k8 : IntKind.i64.wrap (x1 % 16 * 65536 + x2 * 256) = x1 % 16 * 65536 + x2 * 256 := wraps_i64 _ (by omega) (by omega)
  have k9 : IntKind.i64.wrap (x3) = x3 := wraps_i64 _ (by omega) (by omega)
  have k10 : IntKind.i64.wrap (x1 % 16 * 65536 + x2 * 256 + x3) = x1 % 16 * 65536 + x2 * 256 + x3 := wraps_i64 _ (by omega) (by omega)
  have k11 : IntKind.i64.wrap (x4) = x4 := wraps_i64 _ (by omega) (by omega)
  have k12 : IntKind.i64.wrap (x4 * 256) = x4 * 256 := wraps_i64 _ (by omega) (by omega)
  have k13 : IntKind.i64.wrap (x5) = x5 := wraps_i64 _ (by omega) (by omega)
  have k14 : IntKind.i64.wrap (x4 * 256 + x5) = x4 * 256 + x5 := wraps_i64 _ (by omega) (by omega)
  have k15 : IntKind.i64.wrap (x6) = x6 := wraps_i64 _ (by omega) (by omega)
  have k16 : IntKind.i64.wrap (x7) = x7 := wraps_i64 _ (by omega) (by omega)
  have t0 : x0.tmod 16 = x0 % 16 := Int.tmod_eq_emod_of_nonneg r0.1
  have t1 : x1.tmod 16 = x1 % 16 := Int.tmod_eq_emod_of_nonneg r1.1
  have t2 : x1.tdiv 16 = x1 / 16 := Int.tdiv_eq_ediv_of_nonneg r1.1
  have t3 : IntKind.u8.wrap (x1 / 16) = x1 / 16 := by simp [IntKind.wrap, IntKind.bits, IntKind.signed]; omega
  iterate 47 (refine walkS_read (v := _) rfl (by rfl) (by
    intro y hy
    have e0 := (hy.cell (p := ⟨b, o, none⟩) hbl).trans c0; have e1 := (hy.cell (p := ⟨b, o + 1, none⟩) hbl).trans c1; have e2 := (hy.cell (p := ⟨b, o + 2, none⟩) hbl).trans c2; have e3 := (hy.cell (p := ⟨b, o + 3, none⟩) hbl).trans c3
    have e4 := (hy.cell (p := ⟨b, o + 4, none⟩) hbl).trans c4; have e5 := (hy.cell (p := ⟨b, o + 5, none⟩) hbl).trans c5; have e6 := (hy.cell (p := ⟨b, o + 6, none⟩) hbl).trans c6; have e7 := (hy.cell (p := ⟨b, o + 7, none⟩) hbl).trans c7
    go_simp; try rfl) ?_; simp only [Act.put, List.setIfInBounds_toArray, List.set_cons_zero, List.set_cons_succ])
  refine walkS_read (v := _) rfl (by rfl) (by intro y hy; exact exec_build_five (x0 % 16 * 16 + x1 / 16) (x1 % 16 * 65536 + x2 * 256 + x3) (x4 * 256 + x5) x6 x7 rfl rfl rfl rfl rfl) ?_
  simp only [Act.put, List.setIfInBounds_toArray, List.set_cons_zero, List.set_cons_succ]
  clear c0 c1 c2 c3 c4 c5 c6 c7 n0 n1 n2 n3 n4 n5 n6 n7 k0 k1 k2 k3 k4 k5 k6 k7 k8 k9 k10 k11 k12 k13 k14 k15 k16
  have HS := Lib.hid HOk.out.s
  have HD := Lib.hid HOk.out.d
  rw [HG.out] at HS HD
  dsimp only at HS HD
  have HOk2 := HOk
  rw [HG.out] at HOk2
  clear t0 t1 t2 t3
  have HI := Lib.hid (show ∀ k, k < 16 → w.cell? ⟨b, o + (8 + k), none⟩ = some (.int .u8 (((xs.drop 8).take 16).getD k 0)) from fun k hk => by rw [HCell.out (8 + k) (by omega)]; simp [List.getD, hk])
  have HJ := Lib.hid (show ∀ k, k < 16 → w.cell? ⟨b, o + (24 + k), none⟩ = some (.int .u8 (((xs.drop 24).take 16).getD k 0)) from fun k hk => by rw [HCell.out (24 + k) (by omega)]; simp [List.getD, hk])
  generalize (xs.drop 8).take 16 = s1 at *
  generalize (xs.drop 24).take 16 = s2 at *
  generalize x0 % 16 * 16 + x1 / 16 = y0 at *
  generalize x1 % 16 * 65536 + x2 * 256 + x3 = y1 at *
  generalize x4 * 256 + x5 = y2 at *
  refine walkS_act rfl (by rfl) (fun K hK => ?_)
  refine wp_alloc_v 58 rfl (headC zeroH) (by kernel_rfl) ?_
  have hlA := Low.alloc w2 (.cells (headC zeroH).toArray 58)
  refine hK _ _ (hL.trans (hlA.mono hL.size)) ?_
  clear hK K
  replace HZ := Lib.hid (HZ.out.below hlA HZ.out.lt)
  have HN := Lib.hid (BlkV.new w2 58 (headC zeroH))
  rw [hz1] at HN
  replace hL := hL.trans (hlA.mono hL.size)
  simp only [Act.put, List.setIfInBounds_toArray, List.set_cons_zero, List.set_cons_succ]
  rw [hz1]
  clear hlA
  generalize w2.alloc (.cells (headC zeroH).toArray 58) = w3 at *
  have hz3 : (Hd.mk y0 y1 y2 x6 x7 zero16 zero16).s.length = 16 := rfl
  have hz4 : (Hd.mk y0 y1 y2 x6 x7 zero16 zero16).d.length = 16 := rfl
  refine walkS_act rfl (by rfl) (fun K hK => ?_)
  refine wp_store_row 58 (.tmp 4) (.tmp 63) rfl (w.heap.size + 1) (headC ⟨y0, y1, y2, x6, x7, zero16, zero16⟩).toArray rfl rfl 58 _ HN.out (by rw [head_size]; simp [headC_length hz3 hz4]) (by simp [headC_length hz3 hz4, headC_length zeroH_ok.s zeroH_ok.d]) (by rw [Array.all_eq_true_iff_forall_mem]; intro v hv; exact headC_one _ v (by simpa using hv)) ?_
  have hlB := low_setRow w3 (w.heap.size + 1) (headC ⟨y0, y1, y2, x6, x7, zero16, zero16⟩).toArray (Nat.le_refl _)
  refine hK _ _ (hL.trans (hlB.mono (by omega))) ?_
  clear hK K
  have HH : Hid (BlkH (w3.setRow (w.heap.size + 1) (headC ⟨y0, y1, y2, x6, x7, zero16, zero16⟩).toArray) (w.heap.size + 1) ⟨y0, y1, y2, x6, x7, zero16, zero16⟩) := Lib.hid (BlkV.setRow HN.out _)
  replace HZ := Lib.hid (HZ.out.below hlB (by omega))
  replace hL := hL.trans (hlB.mono (by omega))
  clear hlB HN
  generalize w3.setRow (w.heap.size + 1) (headC ⟨y0, y1, y2, x6, x7, zero16, zero16⟩).toArray = w4 at *
  unfold walkS
  simp only [Act.put]
  go_wp2_with fail
  go_loopw [5] (fun i wr => ∃ k : Nat, k ≤ 16 ∧ i = .int .i64 k ∧ Hid (BlkH wr (w.heap.size + 1) ⟨y0, y1, y2, x6, x7, s1.take k ++ zero16.drop k, s2.take k ++ zero16.drop k⟩) ∧ Hid (BlkH wr w.heap.size zeroH) ∧ Below w.heap.size w wr) (fun i _ => 16 - (intOf i).toNat)
  case atStart => exact ⟨0, Nat.zero_le _, rfl, HH, HZ, hL⟩
  case round =>
    clear HH HZ hL
    obtain ⟨k, hk, rfl, HH, HZ, hB⟩ := hrel
    have ls : Hid ((s1.take k ++ zero16.drop k).length = 16) := Lib.hid (by simp [HS.out, zero16]; omega)
    have ld : Hid ((s2.take k ++ zero16.drop k).length = 16) := Lib.hid (by simp [HD.out, zero16]; omega)
    by_cases hlt : k < 16
    · have HX1 := Lib.hid (pref_set zero16 s1 k rfl HS.out hlt)
      have HX2 := Lib.hid (pref_set zero16 s2 k rfl HD.out hlt)
      have i1 := HI.out k hlt
      have i2 := HJ.out k hlt
      have q1 : (w.heap.size + 1 : Nat) = w.heap.size + 1 := rfl
      generalize hp1 : s1.take k ++ zero16.drop k = p1 at *
      generalize hp2 : s2.take k ++ zero16.drop k = p2 at *
      generalize s1.getD k 0 = u1 at *
      generalize s2.getD k 0 = u2 at *
      have HK1 : Hid ((Hd.mk y0 y1 y2 x6 x7 p1 p2).ok) := Lib.hid ⟨HOk2.out.cl, HOk2.out.lb, HOk2.out.ln, HOk2.out.nx, HOk2.out.hp, ls.out, ld.out, by rw [← hp1]; exact (HOk2.out.vs.take k).append (zero_all.drop k), by rw [← hp2]; exact (HOk2.out.vd.take k).append (zero_all.drop k)⟩
      have ka : IntKind.i64.wrap (8 + (k : Int)) = 8 + k := wraps_i64 _ (by omega) (by omega)
      have kb : IntKind.i64.wrap (24 + (k : Int)) = 24 + k := wraps_i64 _ (by omega) (by omega)
      have ta : (8 + (k : Int)).toNat = 8 + k := by omega
      have tb : (24 + (k : Int)).toNat = 24 + k := by omega
      have na : 8 + (k : Int) < n := by omega
      have nb : 24 + (k : Int) < n := by omega
      go_wp2_with fail
      refine wp_region_planS (fun y => Below w.heap.size w y) (.rd 0 (.rd 1 (.rd 2 (.rd 3 (.rd 4 (.rd 5 (.rd 6 (.rd 7 (.rd 8 (.rd 9 (.rd 10 (.rd 11 (.rd 12 (.rd 13 (.rd 15 (.act 14 (.rd 16 (.act 17 (.done)))))))))))))))))))
        (by kernel_rfl) (by kernel_rfl) (fun _ _ d _ _ h => by cases d <;> exact h) (by kernel_rfl) (Below.drew hB) ?_
      replace HZ : Hid (BlkH wr.drew w.heap.size zeroH) := HZ
      replace HH : Hid (BlkH wr.drew (w.heap.size + 1) ⟨y0, y1, y2, x6, x7, p1, p2⟩) := HH
      replace hB := Below.drew hB
      generalize wr.drew = w5 at *
      iterate 15 (refine walkS_read (v := _) rfl (by rfl) (by
        intro y hy
        have e1 := (hy.cell (p := ⟨b, o + (8 + k), none⟩) hbl).trans i1; have e2 := (hy.cell (p := ⟨b, o + (24 + k), none⟩) hbl).trans i2
        go_simp; try rfl) ?_; simp only [Act.put, List.setIfInBounds_toArray, List.set_cons_zero, List.set_cons_succ])
      have v1 := (BlkV.src (h := ⟨y0, y1, y2, x6, x7, p1, p2⟩) HH.out HK1.out (B := w5.heap.size) HH.out.lt).mem (by omega)
      have g1 : w5.cell? ⟨w.heap.size + 1, 5 + k, none⟩ = some (.int .u8 (p1.getD k 0)) := by
        obtain ⟨b', o', e, _, hc⟩ := v1
        injection e with e
        injection e with e1 e2
        subst e1 e2
        exact hc k hlt
      have f1 := HH.out.frozen (5 + k)
      refine walkS_act rfl (by rfl) (fun K hK => ?_)
      go_simp
      refine hK _ _ (hB.setCell (Nat.le_succ _) _) ?_
      clear hK K
      replace hB := hB.setCell (p := ⟨w.heap.size + 1, 5 + k, none⟩) (Nat.le_succ _) (.int .u8 u1)
      have HH2 := BlkV.set_ HH.out (5 + k) (.int .u8 u1)
      rw [headC_set_s _ _ _ ls.out hlt] at HH2
      dsimp only at HH2
      rw [HX1.out] at HH2
      replace HZ := Lib.hid (HZ.out.far (p := ⟨w.heap.size + 1, 5 + k, none⟩) (by simp) (.int .u8 u1))
      clear v1 g1 f1 HH
      generalize w5.setCell ⟨w.heap.size + 1, 5 + k, none⟩ (.int .u8 u1) = w6 at *
      replace HH2 := Lib.hid HH2
      have ls2 : Hid ((s1.take (k + 1) ++ zero16.drop (k + 1)).length = 16) := Lib.hid (by simp [HS.out, zero16]; omega)
      have HK2 : Hid ((Hd.mk y0 y1 y2 x6 x7 (s1.take (k + 1) ++ zero16.drop (k + 1)) p2).ok) := Lib.hid ⟨HOk2.out.cl, HOk2.out.lb, HOk2.out.ln, HOk2.out.nx, HOk2.out.hp, ls2.out, ld.out, (HOk2.out.vs.take (k + 1)).append (zero_all.drop (k + 1)), HK1.out.vd⟩
      have v2 := (BlkV.dst HH2.out HK2.out (B := w6.heap.size) HH2.out.lt).mem (by omega)
      have g2 : w6.cell? ⟨w.heap.size + 1, 21 + k, none⟩ = some (.int .u8 (p2.getD k 0)) := by
        obtain ⟨b', o', e, _, hc⟩ := v2
        injection e with e
        injection e with e1 e2
        subst e1 e2
        exact hc k hlt
      have f2 := HH2.out.frozen (21 + k)
      iterate 1 (refine walkS_read (v := _) rfl (by rfl) (by intro y hy; go_simp; try rfl) ?_; simp only [Act.put, List.setIfInBounds_toArray, List.set_cons_zero, List.set_cons_succ])
      refine walkS_act rfl (by rfl) (fun K hK => ?_)
      go_simp
      refine hK _ _ (hB.setCell (Nat.le_succ _) _) ?_
      clear hK K
      replace hB := hB.setCell (p := ⟨w.heap.size + 1, 21 + k, none⟩) (Nat.le_succ _) (.int .u8 u2)
      have HH3 := BlkV.set_ HH2.out (21 + k) (.int .u8 u2)
      rw [headC_set_d _ _ _ ls2.out hlt] at HH3
      dsimp only at HH3
      rw [HX2.out] at HH3
      replace HZ := Lib.hid (HZ.out.far (p := ⟨w.heap.size + 1, 21 + k, none⟩) (by simp) (.int .u8 u2))
      clear v2 g2 f2 HH2
      generalize w6.setCell ⟨w.heap.size + 1, 21 + k, none⟩ (.int .u8 u2) = w7 at *
      unfold walkS
      go_wp2
      go_roundw
      case rel => exact ⟨k + 1, by omega, by go_num, Lib.hid HH3, HZ, hB⟩
      case measure => simp [intOf]; omega
    · obtain rfl : k = 16 := by omega
      have e1 : s1.take 16 ++ zero16.drop 16 = s1 := by rw [List.take_of_length_le (by rw [HS.out]; omega), show zero16.drop 16 = [] from rfl, List.append_nil]
      have e2 : s2.take 16 ++ zero16.drop 16 = s2 := by rw [List.take_of_length_le (by rw [HD.out]; omega), show zero16.drop 16 = [] from rfl, List.append_nil]
      rw [e1, e2, ← HG.out] at HH
      clear e1 e2 ls ld
      have HS2 := Lib.hid HOk.out.s
      have HD2 := Lib.hid HOk.out.d
      go_wp2_with (first
        | (with_reducible refine wpList_load_head rfl (.tmp 4) rfl (w.heap.size + 1) rfl (getL xs) HH.out HS2.out HD2.out ?_)
        | ((with_reducible refine wpList_store_head rfl (.tmp 2) (.tmp 84) rfl w.heap.size rfl (getL xs) rfl zeroH HZ.out rfl rfl HS2.out HD2.out ?_); intro w8 HG8 hb8 hz8))
      exact ret_head Try.results32 rfl rfl HG8 HS2.out HD2.out ⟨rfl, hB.trans hb8⟩ rfl
theorem rget_any (A : Option Addr) (n c : Nat) (xs : List Int) (w : World) (hn : n ≤ 140737488355328) (hb : Bs w w.heap.size A n xs) :
    Calls Try.prog 32 #[.slice A n c] w fun e w' => GivesH w (getH xs) (getE xs) e w' := by
  have hl := hb.len
  rcases getE_cases xs with ⟨h1, e1, e2⟩ | ⟨h1, h2, e1, e2⟩ | ⟨h1, h2, e1, e2⟩
  · rw [e1, e2]; exact rget_short A n c xs w hn (by omega) hb
  · rw [e1, e2]; exact rget_yes A n c xs w hn (by omega) h2 hb
  · rw [e1, e2]; exact rget_form A n c xs w hn (by omega) h2 hb
end Go.Proofs.Ytheagbgojdlfaaa
