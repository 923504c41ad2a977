/- What the document's own Back, Less and Bytes of flows tell. Conditions: addresses are 16 bytes, ports are ints. -/
import Derived.Test.YtjafjapnmffohaaDoorFlA
import Derived.Test.YtjafjapnmffohaaDoorJOct
import Derived.Test.YtjafjapnmffohaaDoorJSx
import Derived.Test.YtjafjapnmffohaaDoorApp
set_option maxRecDepth 100000
namespace Go.Proofs.YtjafjapnmffohaaDoor
open Go.RowKit
set_option linter.unusedVariables false

theorem results_cell1F {P : Program} {fn : Func} {p : Tmp} {ty : TypeId} (h : fn.results = #[.cell p ty]) (tmps : Array Value) (w : World) (g : Nat) (t : TypeId) (cs : Array Value) (fr : Nat × Nat) (d : TypeDesc)
    (hp : tmps.getD p undef = .pointer (some ⟨g, 0, none⟩)) (hg : w.heap[g]? = some (.cells cs t fr))
    (hu : P.underlying ty = some d) (hd : (match d with | .struct _ | .array _ _ => true | _ => false) = true) (hi : (P.info? ty).map (·.size) = some cs.size) :
    (results fn tmps).run P w = .ok (.agg cs) w := by
  have hp' : tmps[p]?.getD undef = .pointer (some ⟨g, 0, none⟩) := by simpa using hp
  simp [results, h, hp', asAddr, run_loadVar_row w g t ty cs fr d hg hu hd hi]
theorem ret_fw {fn : Func} {p : Tmp} {R : Ending → World → Prop} {tmps : Array Value} {df : List Deferred} {w : World} {g : Nat} {f : Fw} (hfn : fn.results = #[.cell p 25]) (hp : tmps.getD p undef = .pointer (some ⟨g, 0, none⟩))
    (hb : BlkF w g f) (hs : f.s.length = 16) (hd : f.d.length = 16) (hR : R (.returned (fwV f)) w) (hdf : df = []) : bodyPost Tryd.prog fn R .ret ⟨tmps, df⟩ w :=
  bodyPost_ret (results_cell1F hfn tmps w g _ _ _ _ hp hb Tryd.underlying25 rfl (by rw [flow_size]; simp [fwC_length hs hd])) hdf hR
theorem run_build_fwK (p q s0 s1 s2 s3 s4 s5 s6 s7 s8 s9 s10 s11 s12 s13 s14 s15 d0 d1 d2 d3 d4 d5 d6 d7 d8 d9 d10 d11 d12 d13 d14 d15 : Int) (w : World) :
    (Instr.build 25 #[(0, .agg (cellsB [s0, s1, s2, s3, s4, s5, s6, s7, s8, s9, s10, s11, s12, s13, s14, s15]).toArray), (1, .int .i64 p), (2, .agg (cellsB [d0, d1, d2, d3, d4, d5, d6, d7, d8, d9, d10, d11, d12, d13, d14, d15]).toArray), (3, .int .i64 q)]).run Tryd.prog w = .ok (.agg (fwC ⟨[s0, s1, s2, s3, s4, s5, s6, s7, s8, s9, s10, s11, s12, s13, s14, s15], p, [d0, d1, d2, d3, d4, d5, d6, d7, d8, d9, d10, d11, d12, d13, d14, d15], q⟩).toArray) w := by kernel_rfl
theorem list16F (s : List Int) (h : s.length = 16) : ∃ s0 s1 s2 s3 s4 s5 s6 s7 s8 s9 s10 s11 s12 s13 s14 s15 : Int, s = [s0, s1, s2, s3, s4, s5, s6, s7, s8, s9, s10, s11, s12, s13, s14, s15] := by
  match s, h with
  | [s0, s1, s2, s3, s4, s5, s6, s7, s8, s9, s10, s11, s12, s13, s14, s15], _ => exact ⟨_, _, _, _, _, _, _, _, _, _, _, _, _, _, _, _, rfl⟩
theorem run_build_fw (s d : List Int) (p q : Int) (hs : s.length = 16) (hd : d.length = 16) (w : World) :
    (Instr.build 25 #[(0, .agg (cellsB s).toArray), (1, .int .i64 p), (2, .agg (cellsB d).toArray), (3, .int .i64 q)]).run Tryd.prog w = .ok (.agg (fwC ⟨s, p, d, q⟩).toArray) w := by
  obtain ⟨s0, s1, s2, s3, s4, s5, s6, s7, s8, s9, s10, s11, s12, s13, s14, s15, rfl⟩ := list16F s hs
  obtain ⟨d0, d1, d2, d3, d4, d5, d6, d7, d8, d9, d10, d11, d12, d13, d14, d15, rfl⟩ := list16F d hd
  exact run_build_fwK _ _ _ _ _ _ _ _ _ _ _ _ _ _ _ _ _ _ _ _ _ _ _ _ _ _ _ _ _ _ _ _ _ _ w
theorem wpList_build_fw {ops : Array Oper} {rest : List Oper} {o : Oper} {a : Act} {w : World} {Q : Exit → Act → World → Prop} (hgd : o.guard = none) (x0 x1 x2 x3 : Operand) (ho : o.op = .build 25 #[(0, x0), (1, x1), (2, x2), (3, x3)])
    (s d : List Int) (p q : Int) (e0 : a.eval x0 = .agg (cellsB s).toArray) (e1 : a.eval x1 = .int .i64 p) (e2 : a.eval x2 = .agg (cellsB d).toArray) (e3 : a.eval x3 = .int .i64 q) (hs : s.length = 16) (hd : d.length = 16)
    (hk : wpList Tryd.prog ops Q rest (a.put o.dst (.agg (fwC ⟨s, p, d, q⟩).toArray)) w) : wpList Tryd.prog ops Q (o :: rest) a w :=
  wpList_plain hgd fun K hK => by
    unfold Oper.wp execOp
    simp only [ho, List.map_toArray, List.map_cons, List.map_nil, e0, e1, e2, e3, Sem.run_bind, run_build_fw s d p q hs hd, Result.andThen_ok, Sem.run_pure]
    exact hK _ _ hk
theorem wpList_load_atF {ops : Array Oper} {rest : List Oper} {o : Oper} {a : Act} {w : World} {Q : Exit → Act → World → Prop} (hgd : o.guard = none) (x : Operand) (ho : o.op = .load 23 x) (b p : Nat) (hx : a.eval x = .pointer (some ⟨b, p, none⟩)) (s : List Int) (hs : s.length = 16) (hc : w.rangeAt b p (cellsB s))
    (hk : wpList Tryd.prog ops Q rest (a.put o.dst (.agg (cellsB s).toArray)) w) : wpList Tryd.prog ops Q (o :: rest) a w :=
  wpList_load_mid hgd 23 x ho b p hx (cellsB s) _ hc Tryd.underlying23 rfl (by rw [addr_size]; simp [cellsB_length, hs]) hk

set_option maxRecDepth 100000 in
set_option maxHeartbeats 1600000 in
theorem rfback_any (f : Fw) (w : World) (hf : f.ok) :
    Calls Tryd.prog 11 #[fwV f] w fun e w' => e = .returned (fwV (backF f)) ∧ Below w.heap.size w w' := by
  unfold fwV
  have HS := Lib.hid hf.s
  have HD := Lib.hid hf.d
  clear hf
  go_enter Tryd.func11, Tryd.ntmps11
  go_wp2_with (first | ((with_reducible refine wpList_box_fw rfl (.tmp 0) rfl f rfl ?_); intro w1 HB hL hz1) | ((with_reducible refine wpList_alloc_fw rfl rfl ?_); intro w2 HZ hl hz2; refine Hid.out ?_))
  refine Lib.hid ?_
  rw [hz1] at HZ
  replace HB := Lib.hid (HB.below hl HB.lt)
  replace HZ := Lib.hid HZ
  replace hL := hL.trans hl
  clear hz1 hz2 hl
  have HRS := Lib.hid (BlkF.src HB.out)
  have HRD := Lib.hid (BlkF.dst HB.out HS.out)
  have c16 := BlkF.sp HB.out HS.out
  have c33 := BlkF.dp HB.out HS.out HD.out
  go_wp2_with (first
    | (with_reducible refine wpList_load_atF rfl (.tmp 3) rfl w.heap.size 17 rfl f.d HD.out HRD.out ?_)
    | (with_reducible refine wpList_load_atF rfl (.tmp 7) rfl w.heap.size 0 rfl f.s HS.out HRS.out ?_)
    | ((refine wpList_build_fw rfl (.tmp 4) (.tmp 6) (.tmp 8) (.tmp 10) rfl f.d f.s f.dp f.sp rfl rfl rfl rfl HD.out HS.out ?_); refine Hid.out ?_))
  refine Lib.hid ?_
  clear c16 c33
  go_wp2_with ((refine wpList_store_fw rfl (.tmp 2) (.tmp 11) rfl (w.heap.size + 1) rfl (backF f) rfl zeroF HZ.out rfl rfl HD.out HS.out ?_); intro w3 HG hb3 hz3 ho3; refine Hid.out ?_)
  refine Lib.hid ?_
  have HR := Lib.hid HG
  go_wp2_with fail
  exact ret_fw Tryd.results11 rfl HR.out HD.out HS.out ⟨rfl, Below.trans hL (hb3.mono (by omega))⟩ rfl

set_option maxRecDepth 100000 in
set_option maxHeartbeats 3200000 in
theorem rfless_any (a b : Fw) (w : World) (ha : a.ok) (hb : b.ok) :
    Calls Tryd.prog 17 #[fwV a, fwV b] w fun e w' => e = .returned (.bool (lessF a b)) ∧ Below w.heap.size w w' := by
  unfold fwV
  have HAS := Lib.hid ha.s
  have HAD := Lib.hid ha.d
  have HBS := Lib.hid hb.s
  have HBD := Lib.hid hb.d
  clear ha hb
  have HLF := Lib.hid (show lessF a b = if a.s = b.s then (if a.sp = b.sp then (if a.d = b.d then decide (a.dp < b.dp) else lessL a.d b.d) else decide (a.sp < b.sp)) else lessL a.s b.s from rfl)
  generalize lessF a b = r at *
  go_enter Tryd.func17, Tryd.ntmps17
  go_wp2_with (first | ((with_reducible refine wpList_box_fw rfl (.tmp 0) rfl a rfl ?_); intro w1 HA hL hz1) | ((with_reducible refine wpList_box_fw rfl (.tmp 1) rfl b rfl ?_); intro w2 HB hl hz2; refine Hid.out ?_))
  refine Lib.hid ?_
  rw [hz1] at HB
  replace HA := Lib.hid (HA.below hl HA.lt)
  replace HB := Lib.hid HB
  replace hL := hL.trans hl
  clear hz1 hz2 hl
  have RAS := Lib.hid (BlkF.src HA.out)
  have RAD := Lib.hid (BlkF.dst HA.out HAS.out)
  have RBS := Lib.hid (BlkF.src HB.out)
  have RBD := Lib.hid (BlkF.dst HB.out HBS.out)
  have heq := fun u => eq_addr a.s b.s HAS.out HBS.out u
  obtain ⟨q1, hq1⟩ : ∃ q, q = (a.s == b.s) := ⟨_, rfl⟩
  rw [← hq1] at heq
  replace hq1 := Lib.hid hq1
  cases q1
  · have HE := Lib.hid (show r = lessL a.s b.s by
      have h := hq1.out
      rw [HLF.out, if_neg (by intro e; rw [e] at h; simp at h)])
    go_wp2_with (first
      | (with_reducible refine wpList_load_atF rfl (.tmp 5) rfl w.heap.size 0 rfl a.s HAS.out RAS.out ?_)
      | (with_reducible refine wpList_load_atF rfl (.tmp 7) rfl (w.heap.size + 1) 0 rfl b.s HBS.out RBS.out ?_)
      | (with_reducible refine wpList_load_atF rfl (.tmp 10) rfl w.heap.size 0 rfl a.s HAS.out RAS.out ?_)
      | (with_reducible refine wpList_load_atF rfl (.tmp 12) rfl (w.heap.size + 1) 0 rfl b.s HBS.out RBS.out ?_))
    refine (rless_any a.s b.s w2 HAS.out HBS.out).mono ?_
    rintro e w3 ⟨rfl, hl⟩
    rw [← HE.out]
    have hL3 := Low.trans hL hl
    clear hl heq
    go_wp2_with fail
    go_ret
    exact ⟨rfl, hL3⟩
  · have HS2 := Lib.hid (show a.s = b.s by
      have h := hq1.out
      simpa using h.symm)
    have ka := BlkF.sp HA.out HAS.out
    have kb := BlkF.sp HB.out HBS.out
    by_cases e2 : a.sp = b.sp
    · have HSP := Lib.hid e2
      have n2 : (a.sp != b.sp) = false := by simpa using e2
      clear e2
      have heq2 := fun u => eq_addr a.d b.d HAD.out HBD.out u
      obtain ⟨q2, hq2⟩ : ∃ q, q = (a.d == b.d) := ⟨_, rfl⟩
      rw [← hq2] at heq2
      replace hq2 := Lib.hid hq2
      cases q2
      · have HE := Lib.hid (show r = lessL a.d b.d by
          have h := hq2.out
          rw [HLF.out, if_pos HS2.out, if_pos HSP.out, if_neg (by intro e; rw [e] at h; simp at h)])
        go_wp2_with (first
          | (with_reducible refine wpList_load_atF rfl (.tmp 5) rfl w.heap.size 0 rfl a.s HAS.out RAS.out ?_)
          | (with_reducible refine wpList_load_atF rfl (.tmp 7) rfl (w.heap.size + 1) 0 rfl b.s HBS.out RBS.out ?_)
          | (with_reducible refine wpList_load_atF rfl (.tmp 25) rfl w.heap.size 17 rfl a.d HAD.out RAD.out ?_)
          | (with_reducible refine wpList_load_atF rfl (.tmp 27) rfl (w.heap.size + 1) 17 rfl b.d HBD.out RBD.out ?_)
          | (with_reducible refine wpList_load_atF rfl (.tmp 30) rfl w.heap.size 17 rfl a.d HAD.out RAD.out ?_)
          | (with_reducible refine wpList_load_atF rfl (.tmp 32) rfl (w.heap.size + 1) 17 rfl b.d HBD.out RBD.out ?_))
        refine (rless_any a.d b.d w2 HAD.out HBD.out).mono ?_
        rintro e w3 ⟨rfl, hl⟩
        rw [← HE.out]
        have hL3 := Low.trans hL hl
        clear hl heq heq2 ka kb n2
        go_wp2_with fail
        go_ret
        exact ⟨rfl, hL3⟩
      · have HE := Lib.hid (show r = decide (a.dp < b.dp) by
          have h := hq2.out
          rw [HLF.out, if_pos HS2.out, if_pos HSP.out, if_pos (by simpa using h.symm)])
        have la := BlkF.dp HA.out HAS.out HAD.out
        have lb := BlkF.dp HB.out HBS.out HBD.out
        go_wp2_with (first
          | (with_reducible refine wpList_load_atF rfl (.tmp 5) rfl w.heap.size 0 rfl a.s HAS.out RAS.out ?_)
          | (with_reducible refine wpList_load_atF rfl (.tmp 7) rfl (w.heap.size + 1) 0 rfl b.s HBS.out RBS.out ?_)
          | (with_reducible refine wpList_load_atF rfl (.tmp 25) rfl w.heap.size 17 rfl a.d HAD.out RAD.out ?_)
          | (with_reducible refine wpList_load_atF rfl (.tmp 27) rfl (w.heap.size + 1) 17 rfl b.d HBD.out RBD.out ?_))
        go_ret
        exact ⟨by rw [HE.out]; rfl, hL⟩
    · have HSP := Lib.hid e2
      have n2 : (a.sp != b.sp) = true := by simpa using e2
      clear e2
      have HE := Lib.hid (show r = decide (a.sp < b.sp) by rw [HLF.out, if_pos HS2.out, if_neg HSP.out])
      go_wp2_with (first
        | (with_reducible refine wpList_load_atF rfl (.tmp 5) rfl w.heap.size 0 rfl a.s HAS.out RAS.out ?_)
        | (with_reducible refine wpList_load_atF rfl (.tmp 7) rfl (w.heap.size + 1) 0 rfl b.s HBS.out RBS.out ?_))
      go_ret
      exact ⟨by rw [HE.out]; rfl, hL⟩
end Go.Proofs.YtjafjapnmffohaaDoor
