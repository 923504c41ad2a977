/- What the program's own Back and Less of flows tell; a world that only draws and grows. Conditions: addresses are 16 bytes, ports are ints. -/
import Derived.Test.YtjafjapnmffohaaDoorFlC
import Derived.Sort.Grow
import Derived.Deep.Draws
set_option maxRecDepth 100000
namespace Go.Proofs.YtjafjapnmffohaaDoor
open Go.RowKit
set_option linter.unusedVariables false

/-- the world has drawn, and has more blocks; nothing else -/
def Ext (w w' : World) : Prop := ∃ (q : Nat) (os : Array Obj), w' = Go.Sort.grow (w.drewN q) os
theorem Ext.refl (w : World) : Ext w w := ⟨0, #[], by rw [World.drewN_zero, Go.Sort.grow_empty]⟩
theorem Ext.drewN {w w' : World} (h : Ext w w') (n : Nat) : Ext w (w'.drewN n) := by
  obtain ⟨q, os, rfl⟩ := h
  exact ⟨q + n, os, by rw [← World.drewN_drewN]; rfl⟩
theorem Ext.grow {w w' : World} (h : Ext w w') (os : Array Obj) : Ext w (Go.Sort.grow w' os) := by
  obtain ⟨q, os', rfl⟩ := h
  exact ⟨q, os' ++ os, Go.Sort.grow_grow _ _ _⟩
theorem Ext.trans {w w' w'' : World} (h : Ext w w') (k : Ext w' w'') : Ext w w'' := by
  obtain ⟨q, os, rfl⟩ := k
  exact (h.drewN q).grow os
theorem Ext.alloc (w : World) (o : Obj) : Ext w (w.alloc o) := by
  rw [Go.Sort.alloc_eq_grow]
  exact (Ext.refl w).grow _
theorem Ext.low {w w' : World} (h : Ext w w') : Low w w' := by
  obtain ⟨q, os, rfl⟩ := h
  exact ⟨rfl, rfl, rfl, by simp [Go.Sort.grow], fun j hj => by simp [Go.Sort.grow, Array.getElem?_append, hj]⟩
theorem ext2 (w : World) (s d : List Int) (t1 t2 : TypeId) : Ext w ((w.alloc (.cells (cellsB s).toArray t1)).alloc (.cells (cellsB d).toArray t2)) := (Ext.alloc w _).trans (Ext.alloc _ _)
theorem wpList_box_fwX {ops : Array Oper} {rest : List Oper} {o : Oper} {a : Act} {w : World} {Q : Exit → Act → World → Prop} (hgd : o.guard = none) (x : Operand) (ho : o.op = .box 25 x) (f : Fw) (hx : a.eval x = .agg (fwC f).toArray)
    (hk : ∀ w', BlkF w' w.heap.size f → Ext w w' → w'.heap.size = w.heap.size + 1 → wpList Tryd.prog ops Q rest (a.put o.dst (.pointer (some ⟨w.heap.size, 0, none⟩))) w') : wpList Tryd.prog ops Q (o :: rest) a w :=
  wpList_plain hgd fun K hK => by
    unfold Oper.wp execOp
    simp only [ho, hx, Instr.box, newVar, newRow, Value.cells, Sem.run_bind, run_newObj, Result.andThen_ok, Sem.run_pure]
    exact hK _ _ (hk _ (BlkV.new w _ (fwC f)) (Ext.alloc w _) (by simp))
set_option maxHeartbeats 800000 in
theorem less_ext (s d : List Int) (w : World) (hs : s.length = 16) (hd : d.length = 16) :
    Calls Tryd.prog 27 #[addrV s, addrV d] w fun e w' => e = .returned (.bool (lessL s d)) ∧ Ext w w' := by
  unfold addrV
  have HS := Lib.hid hs
  have HD := Lib.hid hd
  have HB0 := Lib.hid (box_first w s d 23 23)
  have HB1 := Lib.hid (box_second w s d 23 23)
  have hL := ext2 w s d 23 23
  clear hs hd
  go_enter Tryd.func27, Tryd.ntmps27
  go_wp2_with fail
  generalize (w.alloc (.cells (cellsB s).toArray 23)).alloc (.cells (cellsB d).toArray 23) = w2 at *
  go_loopw [6] (fun i wr => ∃ k : Nat, k ≤ 16 ∧ i = .int .i64 k ∧ Hid (lessL s d = lessL (s.drop k) (d.drop k)) ∧ Ext w2 wr) (fun i _ => 16 - (intOf i).toNat)
  case atStart => exact ⟨0, Nat.zero_le _, rfl, rfl, Ext.refl _⟩
  case round =>
    obtain ⟨k, hk, rfl, HE, hB⟩ := hrel
    by_cases hlt : k < 16
    · have h0 := (HB0.out.below hB.low HB0.out.lt).cell k
      rw [cellsB_get (by rw [HS.out]; exact hlt)] at h0
      have h1 := (HB1.out.below hB.low HB1.out.lt).cell k
      rw [cellsB_get (by rw [HD.out]; exact hlt)] at h1
      have HLs := Lib.hid (less_same (s := s) (d := d) (k := k) (by rw [HS.out]; exact hlt) (by rw [HD.out]; exact hlt))
      have HLo := Lib.hid (less_other (s := s) (d := d) (k := k) (by rw [HS.out]; exact hlt) (by rw [HD.out]; exact hlt))
      obtain ⟨x, hx⟩ : ∃ x, x = s.getD k 0 := ⟨_, rfl⟩
      obtain ⟨y, hy⟩ : ∃ y, y = d.getD k 0 := ⟨_, rfl⟩
      rw [← hx, ← hy] at HLs HLo
      rw [← hx] at h0
      rw [← hy] at h1
      clear hx hy
      by_cases hxy : x = y
      · have HE2 := Lib.hid (HE.out.trans (HLs.out hxy))
        clear HE HLs HLo
        subst hxy
        go_wp2
        go_quiet (fail)
        go_wp2
        go_roundw
        case rel => exact ⟨k + 1, by omega, by go_num, HE2, hB.drewN _⟩
        case measure => simp [intOf]; omega
      · have HE2 := Lib.hid (HE.out.trans (HLo.out hxy))
        clear HE HLs HLo
        have hxy' : (x == y) = false := by simpa using hxy
        have hxy2 : (x != y) = true := by simpa using hxy
        go_wp2
        go_quiet (fail)
        go_wp2
        go_quiet (fail)
        go_wp2
        go_ret
        exact ⟨ret_bool HE2.out.symm, hL.trans ((hB.drewN _).drewN _)⟩
    · obtain rfl : k = 16 := by omega
      have HE2 := Lib.hid (HE.out.trans (less_end (by rw [HS.out]; omega)))
      go_wp2
      go_ret
      exact ⟨ret_bool HE2.out.symm, hL.trans hB⟩

set_option maxRecDepth 100000 in
set_option maxHeartbeats 3200000 in
theorem fless_ext (a b : Fw) (w : World) (ha : a.ok) (hb : b.ok) :
    Calls Tryd.prog 16 #[fwV a, fwV b] w fun e w' => e = .returned (.bool (lessF a b)) ∧ Ext w w' := by
  unfold fwV
  have HAS := Lib.hid ha.s
  have HAD := Lib.hid ha.d
  have HBS := Lib.hid hb.s
  have HBD := Lib.hid hb.d
  clear ha hb
  have HLF := Lib.hid (show lessF a b = if a.s = b.s then (if a.sp = b.sp then (if a.d = b.d then decide (a.dp < b.dp) else lessL a.d b.d) else decide (a.sp < b.sp)) else lessL a.s b.s from rfl)
  generalize lessF a b = r at *
  go_enter Tryd.func16, Tryd.ntmps16
  go_wp2_with (first | ((with_reducible refine wpList_box_fwX rfl (.tmp 0) rfl a rfl ?_); intro w1 HA hL hz1) | ((with_reducible refine wpList_box_fwX rfl (.tmp 1) rfl b rfl ?_); intro w2 HB hl hz2; refine Hid.out ?_))
  refine Lib.hid ?_
  rw [hz1] at HB
  replace HA := Lib.hid (HA.below hl.low HA.lt)
  replace HB := Lib.hid HB
  replace hL := hL.trans hl
  clear hz1 hz2 hl
  have RAS := Lib.hid (BlkF.src HA.out)
  have RAD := Lib.hid (BlkF.dst HA.out HAS.out)
  have RBS := Lib.hid (BlkF.src HB.out)
  have RBD := Lib.hid (BlkF.dst HB.out HBS.out)
  have heq := fun u => eq_addr a.s b.s HAS.out HBS.out u
  obtain ⟨q1, hq1⟩ : ∃ q, q = (a.s == b.s) := ⟨_, rfl⟩
  rw [← hq1] at heq
  replace hq1 := Lib.hid hq1
  cases q1
  · have HE := Lib.hid (show r = lessL a.s b.s by
      have h := hq1.out
      rw [HLF.out, if_neg (by intro e; rw [e] at h; simp at h)])
    go_wp2_with (first
      | (with_reducible refine wpList_load_atF rfl (.tmp 11) rfl w.heap.size 0 rfl a.s HAS.out RAS.out ?_)
      | (with_reducible refine wpList_load_atF rfl (.tmp 13) rfl (w.heap.size + 1) 0 rfl b.s HBS.out RBS.out ?_)
      | (with_reducible refine wpList_load_atF rfl (.tmp 16) rfl w.heap.size 0 rfl a.s HAS.out RAS.out ?_)
      | (with_reducible refine wpList_load_atF rfl (.tmp 18) rfl (w.heap.size + 1) 0 rfl b.s HBS.out RBS.out ?_))
    refine (less_ext a.s b.s w2 HAS.out HBS.out).mono ?_
    rintro e w3 ⟨rfl, hl⟩
    rw [← HE.out]
    have hL3 := Ext.trans hL hl
    clear hl heq
    go_wp2_with fail
    go_ret
    exact ⟨rfl, hL3⟩
  · have HS2 := Lib.hid (show a.s = b.s by
      have h := hq1.out
      simpa using h.symm)
    have ka := BlkF.sp HA.out HAS.out
    have kb := BlkF.sp HB.out HBS.out
    by_cases e2 : a.sp = b.sp
    · have HSP := Lib.hid e2
      have n2 : (a.sp != b.sp) = false := by simpa using e2
      clear e2
      have heq2 := fun u => eq_addr a.d b.d HAD.out HBD.out u
      obtain ⟨q2, hq2⟩ : ∃ q, q = (a.d == b.d) := ⟨_, rfl⟩
      rw [← hq2] at heq2
      replace hq2 := Lib.hid hq2
      cases q2
      · have HE := Lib.hid (show r = lessL a.d b.d by
          have h := hq2.out
          rw [HLF.out, if_pos HS2.out, if_pos HSP.out, if_neg (by intro e; rw [e] at h; simp at h)])
        go_wp2_with (first
          | (with_reducible refine wpList_load_atF rfl (.tmp 11) rfl w.heap.size 0 rfl a.s HAS.out RAS.out ?_)
          | (with_reducible refine wpList_load_atF rfl (.tmp 13) rfl (w.heap.size + 1) 0 rfl b.s HBS.out RBS.out ?_)
          | (with_reducible refine wpList_load_atF rfl (.tmp 33) rfl w.heap.size 17 rfl a.d HAD.out RAD.out ?_)
          | (with_reducible refine wpList_load_atF rfl (.tmp 35) rfl (w.heap.size + 1) 17 rfl b.d HBD.out RBD.out ?_)
          | (with_reducible refine wpList_load_atF rfl (.tmp 38) rfl w.heap.size 17 rfl a.d HAD.out RAD.out ?_)
          | (with_reducible refine wpList_load_atF rfl (.tmp 40) rfl (w.heap.size + 1) 17 rfl b.d HBD.out RBD.out ?_))
        refine (less_ext a.d b.d w2 HAD.out HBD.out).mono ?_
        rintro e w3 ⟨rfl, hl⟩
        rw [← HE.out]
        have hL3 := Ext.trans hL hl
        clear hl heq heq2 ka kb n2
        go_wp2_with fail
        go_ret
        exact ⟨rfl, hL3⟩
      · have HE := Lib.hid (show r = decide (a.dp < b.dp) by
          have h := hq2.out
          rw [HLF.out, if_pos HS2.out, if_pos HSP.out, if_pos (by simpa using h.symm)])
        have la := BlkF.dp HA.out HAS.out HAD.out
        have lb := BlkF.dp HB.out HBS.out HBD.out
        go_wp2_with (first
          | (with_reducible refine wpList_load_atF rfl (.tmp 11) rfl w.heap.size 0 rfl a.s HAS.out RAS.out ?_)
          | (with_reducible refine wpList_load_atF rfl (.tmp 13) rfl (w.heap.size + 1) 0 rfl b.s HBS.out RBS.out ?_)
          | (with_reducible refine wpList_load_atF rfl (.tmp 33) rfl w.heap.size 17 rfl a.d HAD.out RAD.out ?_)
          | (with_reducible refine wpList_load_atF rfl (.tmp 35) rfl (w.heap.size + 1) 17 rfl b.d HBD.out RBD.out ?_))
        go_ret
        exact ⟨by rw [HE.out]; rfl, hL⟩
    · have HSP := Lib.hid e2
      have n2 : (a.sp != b.sp) = true := by simpa using e2
      clear e2
      have HE := Lib.hid (show r = decide (a.sp < b.sp) by rw [HLF.out, if_pos HS2.out, if_neg HSP.out])
      go_wp2_with (first
        | (with_reducible refine wpList_load_atF rfl (.tmp 11) rfl w.heap.size 0 rfl a.s HAS.out RAS.out ?_)
        | (with_reducible refine wpList_load_atF rfl (.tmp 13) rfl (w.heap.size + 1) 0 rfl b.s HBS.out RBS.out ?_))
      go_ret
      exact ⟨by rw [HE.out]; rfl, hL⟩
set_option maxRecDepth 100000 in
set_option maxHeartbeats 1600000 in
theorem fback_any (f : Fw) (w : World) (hf : f.ok) :
    Calls Tryd.prog 10 #[fwV f] w fun e w' => e = .returned (fwV (backF f)) ∧ Below w.heap.size w w' := by
  unfold fwV
  have HS := Lib.hid hf.s
  have HD := Lib.hid hf.d
  clear hf
  go_enter Tryd.func10, Tryd.ntmps10
  go_wp2_with (first | ((with_reducible refine wpList_box_fw rfl (.tmp 0) rfl f rfl ?_); intro w1 HB hL hz1) | ((with_reducible refine wpList_alloc_fw rfl rfl ?_); intro w2 HZ hl hz2; refine Hid.out ?_))
  refine Lib.hid ?_
  rw [hz1] at HZ
  replace HB := Lib.hid (HB.below hl HB.lt)
  replace HZ := Lib.hid HZ
  replace hL := hL.trans hl
  clear hz1 hz2 hl
  have HRS := Lib.hid (BlkF.src HB.out)
  have HRD := Lib.hid (BlkF.dst HB.out HS.out)
  have c16 := BlkF.sp HB.out HS.out
  have c33 := BlkF.dp HB.out HS.out HD.out
  go_wp2_with (first
    | (with_reducible refine wpList_load_atF rfl (.tmp 3) rfl w.heap.size 17 rfl f.d HD.out HRD.out ?_)
    | (with_reducible refine wpList_load_atF rfl (.tmp 7) rfl w.heap.size 0 rfl f.s HS.out HRS.out ?_)
    | ((refine wpList_build_fw rfl (.tmp 4) (.tmp 6) (.tmp 8) (.tmp 10) rfl f.d f.s f.dp f.sp rfl rfl rfl rfl HD.out HS.out ?_); refine Hid.out ?_))
  refine Lib.hid ?_
  clear c16 c33
  go_wp2_with ((refine wpList_store_fw rfl (.tmp 2) (.tmp 11) rfl (w.heap.size + 1) rfl (backF f) rfl zeroF HZ.out rfl rfl HD.out HS.out ?_); intro w3 HG hb3 hz3 ho3; refine Hid.out ?_)
  refine Lib.hid ?_
  have HR := Lib.hid HG
  go_wp2_with fail
  exact ret_fw Tryd.results10 rfl HR.out HD.out HS.out ⟨rfl, Below.trans hL (hb3.mono (by omega))⟩ rfl

end Go.Proofs.YtjafjapnmffohaaDoor
