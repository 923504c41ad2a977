/- What the program's own upper parts tell: their kind, their bytes; the packets made of them. Conditions: addresses are 16 bytes; what is handed in is at most 2^47 bytes long. -/
import Derived.Test.YtdpbhhoabnmbpaaGreatPkE
import Derived.Test.YtdpbhhoabnmbpaaGreatPkK
import Derived.Test.YtdpbhhoabnmbpaaGreatJSx
import Derived.Handy
set_option maxRecDepth 100000
namespace Go.Proofs.YtdpbhhoabnmbpaaGreat
open Go.RowKit
set_option linter.unusedVariables false

theorem sgm_size : (Tryz.prog.info? 91).map (·.size) = some 10 := by kernel_rfl
theorem mgm_size : (Tryz.prog.info? 97).map (·.size) = some 4 := by kernel_rfl
theorem sgm_zero : (Tryz.prog.info? 91).map (·.zero) = some (some (.agg (segC zeroS).toArray)) := by kernel_rfl
theorem mgm_zero : (Tryz.prog.info? 97).map (·.zero) = some (some (.agg (msgC zeroM).toArray)) := by kernel_rfl
theorem exec_load_sgm {f : Operand → Value} {dd : Option Tmp} {x : Operand} {ty : TypeId} {pos : String} {gd : Option (Nat × Bool)} {w : World} {g : Nat} {t : Sg} (hx : f x = .pointer (some ⟨g, 0, none⟩)) (hb : BlkV w 91 g (segC t)) :
    (execOp f ⟨dd, .load 91 x, ty, pos, #[], gd⟩).run Tryz.prog w = .ok (.value (.agg (segC t).toArray)) w := by
  unfold execOp
  simp only [hx, Instr.loadAt, Instr.sureAddr, Sem.run_bind, Sem.run_pure, Result.andThen_ok, run_loadVar_row w g _ 91 (segC t).toArray _ _ hb Tryz.underlying91 rfl (by rw [sgm_size]; rfl)]
theorem exec_load_mgm {f : Operand → Value} {dd : Option Tmp} {x : Operand} {ty : TypeId} {pos : String} {gd : Option (Nat × Bool)} {w : World} {g : Nat} {t : Mg} (hx : f x = .pointer (some ⟨g, 0, none⟩)) (hb : BlkV w 97 g (msgC t)) :
    (execOp f ⟨dd, .load 97 x, ty, pos, #[], gd⟩).run Tryz.prog w = .ok (.value (.agg (msgC t).toArray)) w := by
  unfold execOp
  simp only [hx, Instr.loadAt, Instr.sureAddr, Sem.run_bind, Sem.run_pure, Result.andThen_ok, run_loadVar_row w g _ 97 (msgC t).toArray _ _ hb Tryz.underlying97 rfl (by rw [mgm_size]; rfl)]

theorem exec_build_made {f : Operand → Value} {dd : Option Tmp} {x0 x1 x2 x3 x4 : Operand} {ty : TypeId} {pos : String} {gd : Option (Nat × Bool)} (w : World) {n : Nat} {s d : List Int} {k : Int} (e0 : f x0 = .int .i64 (n : Int)) (e1 : f x1 = .int .i64 k) (e2 : f x2 = .int .i64 64) (e3 : f x3 = .agg (cellsB s).toArray) (e4 : f x4 = .agg (cellsB d).toArray) (hs : s.length = 16) (hd : d.length = 16) :
    (execOp f ⟨dd, .build 26 #[(2, x0), (3, x1), (4, x2), (5, x3), (6, x4)], ty, pos, #[], gd⟩).run Tryz.prog w = .ok (.value (.agg (headC (madeH n s d k)).toArray)) w := by
  unfold execOp
  simp only [List.map_toArray, List.map_cons, List.map_nil, e0, e1, e2, e3, e4, Sem.run_bind, run_build_made n s d k hs hd, Result.andThen_ok, Sem.run_pure]

theorem sealB_can (s d : List Int) (x : Sb) : canS (sealB s d x) = canS x := by
  by_cases h : canS x = 0
  · rw [(sealB_yes (s := s) (d := d) h).2, h]
  · unfold sealB
    rw [if_neg h]
/-- a packet of bytes that may bear an error -/
def mkE (e : Int) (ys : List Int) : Int := if e = 0 then madeE ys else e
def mkL (s d : List Int) (k e : Int) (ys : List Int) : List Int := if e = 0 then madeL s d k ys else []
def okE (x : Mb) : Int := if okM x = true then 0 else 2
theorem tcp_mk (s d : List Int) (x : Sb) : tcpE s d x = mkE (canS x) (putS (sealB s d x)) ∧ tcpL s d x = mkL s d 6 (canS x) (putS (sealB s d x)) := ⟨rfl, rfl⟩
theorem icmp_mk (s d : List Int) (x : Mb) : icmpE s d x = mkE (okE x) (putM s d x) ∧ icmpL s d x = mkL s d 58 (okE x) (putM s d x) := by
  unfold icmpE icmpL mkE mkL okE
  cases okM x
  · exact ⟨rfl, rfl⟩
  · exact ⟨rfl, rfl⟩

theorem segkind_any (v : Value) (w : World) : Calls Tryz.prog 123 #[v] w fun e w' => e = .returned (.int .i64 6) ∧ w' = w := by
  go_enter Tryz.func123, Tryz.ntmps123
  go_wp2
  go_ret
  exact ⟨rfl, rfl⟩
theorem msgkind_any (v : Value) (w : World) : Calls Tryz.prog 159 #[v] w fun e w' => e = .returned (.int .i64 58) ∧ w' = w := by
  go_enter Tryz.func159, Tryz.ntmps159
  go_wp2
  go_ret
  exact ⟨rfl, rfl⟩

set_option maxRecDepth 100000 in
set_option maxHeartbeats 1600000 in
theorem seglay_any (g : Nat) (s d : List Int) (t : Sg) (w : World) (hs : s.length = 16) (hd : d.length = 16) (vs : AllB s) (vd : AllB d) (ht : t.ok w w.heap.size) (hb : BlkV w 91 g (segC t)) :
    Calls Tryz.prog 124 #[.pointer (some ⟨g, 0, none⟩), addrV s, addrV d] w (GivesBE w (putS (sealB s d t.v)) (canS t.v)) := by
  unfold addrV
  have HS := Lib.hid hs
  have HD := Lib.hid hd
  have hL := low2 w s d 24 24
  have HB0 := Lib.hid (box_first w s d 24 24)
  have HB1 := Lib.hid (box_second w s d 24 24)
  have HG := Lib.hid (hb.below hL hb.lt)
  have HT := Lib.hid (ht.low hL)
  clear hs hd ht hb
  go_enter Tryz.func124, Tryz.ntmps124
  go_wp2_with fail
  refine wp_region_plan (.rd 0 (.rd 1 (.rd 2 (.rd 3 (.rd 4 (.act 5 (.act 6 (.rd 7 (.rd 8 (.rd 9 (.rd 10 (.done)))))))))))) (by kernel_rfl) (by kernel_rfl) (fun _ _ d _ _ h => by cases d <;> exact h) (by kernel_rfl) ?_
  generalize (w.alloc (.cells (cellsB s).toArray 24)).alloc (.cells (cellsB d).toArray 24) = w1 at *
  have hdr : Low w1 w1.drew := Below.drew (Below.refl _ _)
  replace hL := hL.trans hdr
  replace HB0 : Hid (Blk w1.drew 24 w.heap.size s) := HB0
  replace HB1 : Hid (Blk w1.drew 24 (w.heap.size + 1) d) := HB1
  replace HG : Hid (BlkV w1.drew 91 g (segC t)) := HG
  replace HT : Hid (t.ok w1.drew w1.drew.heap.size) := Lib.hid (HT.out.low hdr)
  clear hdr
  generalize w1.drew = w2 at *
  iterate 5 (refine walkP_read (v := _) rfl (by rfl) (by
    intro y hy
    first
      | exact exec_load_addr (g := w.heap.size) rfl (HB0.out.below hy HB0.out.lt) HS.out
      | exact exec_load_addr (g := w.heap.size + 1) rfl (HB1.out.below hy HB1.out.lt) HD.out
      | exact exec_load_sgm rfl (HG.out.below hy HG.out.lt)
      | (go_simp; try rfl)) ?_; simp only [Act.put, List.setIfInBounds_toArray, List.set_cons_zero, List.set_cons_succ])
  refine walkP_act rfl (by rfl) (fun K hK => ?_)
  go_simp
  refine (tcseal_any s d t w2 HS.out HD.out vs vd HT.out).mono ?_
  rintro e w3 ⟨rfl, hl⟩
  have HV := Lib.hid (sealG_v s d t)
  have HK := Lib.hid (sealG_ok (HT.out.low hl) s d)
  generalize sealG s d t = y at *
  go_simp
  refine hK _ _ hl ?_
  clear hK K
  replace hL := Low.trans hL hl
  clear hl HB0 HB1 HG HT
  refine walkP_act rfl (by rfl) (fun K hK => ?_)
  go_simp
  refine (tcput_any y w3 HK.out).mono ?_
  rintro e w4 ⟨A, c, rfl, hb4, hc4, hl⟩
  rw [HV.out] at hb4 hc4 ⊢
  rw [sealB_can]
  go_simp
  refine hK _ _ hl ?_
  clear hK K
  replace hL := Low.trans hL hl
  have HB4 := Lib.hid hb4
  have HC4 := Lib.hid hc4
  clear hl HK hb4 hc4
  generalize putS (sealB s d t.v) = ys at *
  generalize canS t.v = er at *
  obtain ⟨q, hq⟩ : ∃ q, q = ys.length := ⟨_, rfl⟩
  rw [← hq] at HB4 HC4 ⊢
  iterate 4 (refine walkP_read (v := _) rfl (by rfl) (by intro y hy; go_simp; try rfl) ?_; simp only [Act.put, List.setIfInBounds_toArray, List.set_cons_zero, List.set_cons_succ])
  unfold walkP
  go_wp2_with fail
  go_ret2
  subst hq
  exact ⟨A, c, rfl, HB4.out, HC4.out, hL⟩

set_option maxRecDepth 100000 in
set_option maxHeartbeats 1600000 in
theorem msglay_any (g : Nat) (s d : List Int) (t : Mg) (w : World) (hs : s.length = 16) (hd : d.length = 16) (vs : AllB s) (vd : AllB d) (ht : t.ok w w.heap.size) (hbm : t.bm ≤ 140737488347136) (hb : BlkV w 97 g (msgC t)) :
    Calls Tryz.prog 160 #[.pointer (some ⟨g, 0, none⟩), addrV s, addrV d] w (GivesBE w (putM s d t.v) (okE t.v)) := by
  unfold addrV
  have HS := Lib.hid hs
  have HD := Lib.hid hd
  have hL := low2 w s d 24 24
  have HB0 := Lib.hid (box_first w s d 24 24)
  have HB1 := Lib.hid (box_second w s d 24 24)
  have HG := Lib.hid (hb.below hL hb.lt)
  have HT := Lib.hid (ht.low hL)
  have HLN := Lib.hid ht.bs.len
  clear hs hd ht hb
  go_enter Tryz.func160, Tryz.ntmps160
  go_wp2_with fail
  refine wp_region_plan (.rd 0 (.rd 1 (.rd 2 (.rd 3 (.rd 4 (.act 5 (.rd 6 (.done)))))))) (by kernel_rfl) (by kernel_rfl) (fun _ _ d _ _ h => by cases d <;> exact h) (by kernel_rfl) ?_
  generalize (w.alloc (.cells (cellsB s).toArray 24)).alloc (.cells (cellsB d).toArray 24) = w1 at *
  have hdr : Low w1 w1.drew := Below.drew (Below.refl _ _)
  replace hL := hL.trans hdr
  replace HB0 : Hid (Blk w1.drew 24 w.heap.size s) := HB0
  replace HB1 : Hid (Blk w1.drew 24 (w.heap.size + 1) d) := HB1
  replace HG : Hid (BlkV w1.drew 97 g (msgC t)) := HG
  replace HT : Hid (t.ok w1.drew w1.drew.heap.size) := Lib.hid (HT.out.low hdr)
  clear hdr
  generalize w1.drew = w2 at *
  iterate 5 (refine walkP_read (v := _) rfl (by rfl) (by
    intro y hy
    first
      | exact exec_load_addr (g := w.heap.size) rfl (HB0.out.below hy HB0.out.lt) HS.out
      | exact exec_load_addr (g := w.heap.size + 1) rfl (HB1.out.below hy HB1.out.lt) HD.out
      | exact exec_load_mgm rfl (HG.out.below hy HG.out.lt)
      | (go_simp; try rfl)) ?_; simp only [Act.put, List.setIfInBounds_toArray, List.set_cons_zero, List.set_cons_succ])
  refine walkP_act rfl (by rfl) (fun K hK => ?_)
  go_simp
  refine (icput_any s d t w2 HS.out HD.out vs vd HT.out hbm).mono ?_
  rintro e w3 ⟨A, c, rfl, hb4, hc4, hl⟩
  go_simp
  refine hK _ _ hl ?_
  clear hK K
  replace hL := Low.trans hL hl
  have HB4 := Lib.hid hb4
  have HC4 := Lib.hid hc4
  clear hl hb4 hc4 HB0 HB1 HG HT
  iterate 1 (refine walkP_read (v := _) rfl (by rfl) (by intro y hy; go_simp; try rfl) ?_; simp only [Act.put, List.setIfInBounds_toArray, List.set_cons_zero, List.set_cons_succ])
  unfold walkP
  cases hcan : okM t.v
  · have e0 : putM s d t.v = [] := by unfold putM; rw [hcan]; rfl
    have eE : okE t.v = 2 := by unfold okE; rw [hcan]; rfl
    have e3 : (putM s d t.v).length = 0 := by rw [e0]; rfl
    rw [e3] at HB4 HC4 ⊢
    go_wp2_with fail
    go_ret2
    exact GivesBE.of e0 eE (Bs.nil _ _ _) (Nat.le_refl _) (by omega) hL
  · have eE : okE t.v = 0 := by unfold okE; rw [hcan]; rfl
    have hp := putM_len (s := s) (d := d) hcan
    generalize putM s d t.v = ys at *
    obtain ⟨q, hq⟩ : ∃ q, q = ys.length := ⟨_, rfl⟩
    rw [← hq] at HB4 HC4 hp ⊢
    have hq0 : 0 < q := by omega
    have hz : (q : Int) ≠ 0 := by omega
    have hz' : ((q : Int) == 0) = false := by simpa using hz
    clear hz hp
    go_wp2_with fail
    go_ret2
    exact GivesBE.of rfl eE HB4.out HC4.out.1 HC4.out.2 hL

set_option maxRecDepth 100000 in
set_option maxHeartbeats 3200000 in
theorem madeseg_any (g : Nat) (s d : List Int) (t : Sg) (w : World) (hs : s.length = 16) (hd : d.length = 16) (vs : AllB s) (vd : AllB d) (ht : t.ok w w.heap.size) (hb : BlkV w 91 g (segC t)) :
    Calls Tryz.prog 34 #[addrV s, addrV d, .iface 93 (.pointer (some ⟨g, 0, none⟩))] w (GivesBE w (mkL s d 6 (canS t.v) (putS (sealB s d t.v))) (mkE (canS t.v) (putS (sealB s d t.v)))) := by
  unfold addrV
  have HS := Lib.hid hs
  have HD := Lib.hid hd
  have hL := low2 w s d 24 24
  have HB0 := Lib.hid (box_first w s d 24 24)
  have HB1 := Lib.hid (box_second w s d 24 24)
  have HG := Lib.hid (hb.below hL hb.lt)
  have HT := Lib.hid (ht.low hL)
  clear hs hd ht hb
  go_enter Tryz.func34, Tryz.ntmps34
  go_wp2_with (first
    | (with_reducible refine wpList_load_addr rfl (.tmp 3) rfl w.heap.size rfl _ s HB0.out HS.out ?_)
    | (with_reducible refine wpList_load_addr rfl (.tmp 4) rfl (w.heap.size + 1) rfl _ d HB1.out HD.out ?_))
  refine (seglay_any g s d t _ HS.out HD.out vs vd HT.out HG.out).mono ?_
  rintro e w2 ⟨A2, c2, rfl, hb2, hc2, hl⟩
  generalize canS t.v = er at *
  have hl2 : Low _ w2 := hl
  replace HB0 := Lib.hid (HB0.out.below hl2 HB0.out.lt)
  replace HB1 := Lib.hid (HB1.out.below hl2 HB1.out.lt)
  replace hL := Low.trans hL hl2
  generalize putS (sealB s d t.v) = xs at *
  obtain ⟨n, hn⟩ : ∃ n, n = xs.length := ⟨_, rfl⟩
  rw [← hn] at hb2 hc2 ⊢
  have HB2 := Lib.hid hb2
  have HL := Lib.hid hb2.len
  have hsz : w.heap.size + 2 ≤ w2.heap.size := by
    have h1 := hl2.size
    simp at h1
    omega
  clear hb2 hl hl2 HG HT hn
  by_cases he : er = 0
  · subst he
    by_cases h : 1460 < n
    · have HE := Lib.hid (show mkE 0 xs = 4 ∧ mkL s d 6 0 xs = [] by unfold mkE mkL; rw [if_pos rfl, if_pos rfl]; unfold madeL madeE; rw [if_pos (by rw [HL.out]; exact h)]; exact ⟨rfl, rfl⟩)
      have d1 : decide (1460 < (n : Int)) = true := by simp; omega
      go_wp2_with fail
      go_ret2
      exact GivesBE.of HE.out.2 HE.out.1 (Bs.nil _ _ _) (Nat.le_refl _) (by omega) hL
    · have hlen : n ≤ 1460 := by omega
      have d1 : decide (1460 < (n : Int)) = false := by simp; omega
      obtain ⟨k1, k2⟩ := madeH_ok (n := n) (k := 6) (by omega) HS.out HD.out vs vd (by omega)
      have HE := Lib.hid (show mkE 0 xs = 0 ∧ mkL s d 6 0 xs = headL (madeH n s d 6) ++ xs by
        have e : madeE xs = 0 := by unfold madeE; rw [if_neg (by rw [HL.out]; exact h)]
        unfold mkE mkL
        rw [if_pos rfl, if_pos rfl]
        exact ⟨e, by rw [madeL_yes e, HL.out]⟩)
      have HH := Lib.hid k1
      have HPL := Lib.hid (show putL (madeH n s d 6) = headL (madeH n s d 6) by unfold putL; rw [k2]; rfl)
      have HHL := Lib.hid (headL_length k1)
      obtain ⟨i0, hi, hz0, hz1, hz2⟩ := info_parts info5
      have HI := Lib.hid hi
      have HZ0 := Lib.hid hz0
      have HZ1 := Lib.hid hz1
      have HZ2 := Lib.hid hz2
      clear hi hz0 hz1 hz2 k1 k2 h
      go_wp2_with fail
      refine wp_region_planN (fun y => Blk y 24 w.heap.size s ∧ Blk y 24 (w.heap.size + 1) d) (.rd 0 (.rd 1 (.rd 2 (.rd 4 (.rd 5 (.fork 3 (.rd 6 (.act 7 (.act 8 (.done)))) 7 (.act 3 (.rd 6 (.act 8 (.done)))))))))) (by kernel_rfl) (by kernel_rfl) (by kernel_rfl) ⟨HB0.out, HB1.out⟩ ?_
      have hdr : Low w2 w2.drew := Below.drew (Below.refl _ _)
      replace hL := hL.trans hdr
      replace HB0 : Hid (Blk w2.drew 24 w.heap.size s) := HB0
      replace HB1 : Hid (Blk w2.drew 24 (w.heap.size + 1) d) := HB1
      replace HB2 : Hid (Bs w2.drew w2.drew.heap.size A2 n xs) := Lib.hid HB2.out.drew
      replace hsz : w.heap.size + 2 ≤ w2.drew.heap.size := hsz
      clear hdr
      generalize w2.drew = w3 at *
      iterate 5 (refine walkS_read (v := _) rfl (by rfl) (by
        rintro y ⟨hy1, hy2⟩
        first
          | exact exec_load_addr (g := w.heap.size) rfl hy1 HS.out
          | exact exec_load_addr (g := w.heap.size + 1) rfl hy2 HD.out
          | (go_simp; try rfl)) ?_; simp only [Act.put, List.setIfInBounds_toArray, List.set_cons_zero, List.set_cons_succ])
      have hl0 := HB0.out.lt
      have hl1 := HB1.out.lt
      refine walkS_forkD ?fa ?fb
      case' fb =>
        refine walkS_act rfl (by rfl) (fun K hK => ?_)
        refine wp_alloc_v 26 rfl (headC zeroH) (by kernel_rfl) ?_
        have hla := Low.alloc w3 (.cells (headC zeroH).toArray 26)
        have hZ := BlkV.new w3 26 (headC zeroH)
        refine hK _ _ ⟨HB0.out.below hla hl0, HB1.out.below hla hl1⟩ ?_
        clear hK K
        simp only [Act.put, List.setIfInBounds_toArray, List.set_cons_zero, List.set_cons_succ]
        refine walkS_act rfl (by rfl) (fun K hK => ?_)
        go_simp
        go_invoke
        go_simp
        refine (segkind_any _ _).mono ?_
        rintro e w4 ⟨rfl, rfl⟩
        go_simp
        refine hK _ _ ⟨HB0.out.below hla hl0, HB1.out.below hla hl1⟩ ?_
        clear hK K
        refine walkS_read (v := _) rfl (by rfl) (by intro y hy; exact exec_build_made y rfl rfl rfl rfl rfl HS.out HD.out) ?_
        simp only [Act.put, List.setIfInBounds_toArray, List.set_cons_zero, List.set_cons_succ]
      case' fa =>
        refine walkS_act rfl (by rfl) (fun K hK => ?_)
        go_simp
        go_invoke
        go_simp
        refine (segkind_any _ _).mono ?_
        rintro e w4 ⟨rfl, h4⟩
        rw [h4]
        clear h4 w4
        go_simp
        refine hK _ _ ⟨HB0.out, HB1.out⟩ ?_
        clear hK K
        refine walkS_read (v := _) rfl (by rfl) (by intro y hy; exact exec_build_made y rfl rfl rfl rfl rfl HS.out HD.out) ?_
        simp only [Act.put, List.setIfInBounds_toArray, List.set_cons_zero, List.set_cons_succ]
        refine walkS_act rfl (by rfl) (fun K hK => ?_)
        refine wp_alloc_v 26 rfl (headC zeroH) (by kernel_rfl) ?_
        have hla := Low.alloc w3 (.cells (headC zeroH).toArray 26)
        have hZ := BlkV.new w3 26 (headC zeroH)
        refine hK _ _ ⟨HB0.out.below hla hl0, HB1.out.below hla hl1⟩ ?_
        clear hK K
        simp only [Act.put, List.setIfInBounds_toArray, List.set_cons_zero, List.set_cons_succ]
      all_goals
        have hs3 : w3.heap.size + 1 ≤ (w3.alloc (.cells (headC zeroH).toArray 26)).heap.size := by simp
        generalize w3.alloc (.cells (headC zeroH).toArray 26) = w4 at *
        refine walkS_act rfl (by rfl) (fun K hK => ?_)
        refine wp_store_head (.tmp 10) (.tmp 30) rfl w3.heap.size rfl (madeH n s d 6) rfl zeroH hZ rfl rfl HS.out HD.out (fun w5 HH5 hb5 hz5 ho5 => ?_)
        refine hK _ _ ⟨(ho5 _ (by omega)).trans (HB0.out.below hla hl0), (ho5 _ (by omega)).trans (HB1.out.below hla hl1)⟩ ?_
        clear hK K HB0 HB1 hl0 hl1
        simp only [Act.put]
        unfold walkS orThrow
        dsimp only
        have hl5 : Low w3 w5 := Below.trans hla hb5
        have HH5' := Lib.hid HH5
        have HMS : Hid ((madeH n s d 6).s.length = 16) := HS
        have HMD : Hid ((madeH n s d 6).d.length = 16) := HD
        have HB5 := Lib.hid (HB2.out.below' hl5 hl5.size)
        have hL5 := hL.trans hl5
        have hsz5 : w.heap.size + 2 ≤ w5.heap.size := by omega
        obtain ⟨g3, hg3⟩ : ∃ g3, g3 = w3.heap.size := ⟨_, rfl⟩
        rw [← hg3] at HH5' ⊢
        clear HH5 hla hZ hs3 hb5 hz5 ho5 hl5 hg3 HB2 hL hsz
        go_wp2_with (with_reducible refine wpList_load_head rfl (.tmp 10) rfl g3 rfl (madeH n s d 6) HH5'.out HMS.out HMD.out ?_)
        refine (put_any none 0 0 [] (madeH n s d 6) w5 HH.out (by omega) (Bs.nil _ _ _)).mono ?_
        rintro e w6 ⟨v, rfl, g6, rfl, hg6, hk6, hl6, ha6, hB6⟩
        rw [HPL.out, List.nil_append] at hk6 hl6 ha6
        rw [HPL.out, HHL.out]
        have HL6 := Lib.hid (show (headL (madeH n s d 6)).length = 0 + 40 by rw [HHL.out])
        obtain ⟨z, hz⟩ : ∃ z, z = headL (madeH n s d 6) := ⟨_, rfl⟩
        rw [← hz] at HHL HL6 HE hk6 ha6
        have HO6 := Lib.hid (OwnB.ofBlk (base := w.heap.size) (n := 0 + 40) hk6 ha6 (by omega) HL6.out (by simp [maxLen]))
        have HB6 := Lib.hid (HB5.out.below' hB6 hB6.size)
        have hL6 := Low.trans hL5 hB6
        clear hk6 hl6 ha6 hB6 HB5 hL5 hz HH5'
        go_wp2_with (at_builtin; refine wpList_append_bs rfl (.tmp 32) (.tmp 33) _ rfl w.heap.size 5 i0 Tryz.underlying22 HI.out HZ0.out HZ1.out HZ2.out _ (0 + 40) _ z rfl HO6.out _ n c2 w6.heap.size xs rfl HB6.out (by omega) hL6.size ?_; intro A7 c7 w7 hO7 hg7 hx7)
        have hL7 : Low w w7 := hL6.grown hg7 hL6.size (fun k hk => (HO6.out.lt k hk).1)
        have hb7 := hO7.bs (Nat.le_refl _)
        have hc7 := hO7.cap
        go_ret2
        exact GivesBE.of HE.out.2 HE.out.1 hb7 hc7.1 (by have := hc7.2; simp only [maxLen] at this; omega) hL7
  · have HE := Lib.hid (show mkE er xs = er ∧ mkL s d 6 er xs = [] by unfold mkE mkL; rw [if_neg he, if_neg he]; exact ⟨rfl, rfl⟩)
    have hne : (er != 0) = true := by simpa using he
    go_wp2_with fail
    go_ret2
    exact GivesBE.of HE.out.2 HE.out.1 (Bs.nil _ _ _) (Nat.le_refl _) (by omega) hL

set_option maxRecDepth 100000 in
set_option maxHeartbeats 3200000 in
theorem mademsg_any (g : Nat) (s d : List Int) (t : Mg) (w : World) (hs : s.length = 16) (hd : d.length = 16) (vs : AllB s) (vd : AllB d) (ht : t.ok w w.heap.size) (hbm : t.bm ≤ 140737488347136) (hb : BlkV w 97 g (msgC t)) :
    Calls Tryz.prog 34 #[addrV s, addrV d, .iface 98 (.pointer (some ⟨g, 0, none⟩))] w (GivesBE w (mkL s d 58 (okE t.v) (putM s d t.v)) (mkE (okE t.v) (putM s d t.v))) := by
  unfold addrV
  have HS := Lib.hid hs
  have HD := Lib.hid hd
  have hL := low2 w s d 24 24
  have HB0 := Lib.hid (box_first w s d 24 24)
  have HB1 := Lib.hid (box_second w s d 24 24)
  have HG := Lib.hid (hb.below hL hb.lt)
  have HT := Lib.hid (ht.low hL)
  clear hs hd ht hb
  go_enter Tryz.func34, Tryz.ntmps34
  go_wp2_with (first
    | (with_reducible refine wpList_load_addr rfl (.tmp 3) rfl w.heap.size rfl _ s HB0.out HS.out ?_)
    | (with_reducible refine wpList_load_addr rfl (.tmp 4) rfl (w.heap.size + 1) rfl _ d HB1.out HD.out ?_))
  refine (msglay_any g s d t _ HS.out HD.out vs vd HT.out hbm HG.out).mono ?_
  rintro e w2 ⟨A2, c2, rfl, hb2, hc2, hl⟩
  generalize okE t.v = er at *
  have hl2 : Low _ w2 := hl
  replace HB0 := Lib.hid (HB0.out.below hl2 HB0.out.lt)
  replace HB1 := Lib.hid (HB1.out.below hl2 HB1.out.lt)
  replace hL := Low.trans hL hl2
  generalize putM s d t.v = xs at *
  obtain ⟨n, hn⟩ : ∃ n, n = xs.length := ⟨_, rfl⟩
  rw [← hn] at hb2 hc2 ⊢
  have HB2 := Lib.hid hb2
  have HL := Lib.hid hb2.len
  have hsz : w.heap.size + 2 ≤ w2.heap.size := by
    have h1 := hl2.size
    simp at h1
    omega
  clear hb2 hl hl2 HG HT hn
  by_cases he : er = 0
  · subst he
    by_cases h : 1460 < n
    · have HE := Lib.hid (show mkE 0 xs = 4 ∧ mkL s d 58 0 xs = [] by unfold mkE mkL; rw [if_pos rfl, if_pos rfl]; unfold madeL madeE; rw [if_pos (by rw [HL.out]; exact h)]; exact ⟨rfl, rfl⟩)
      have d1 : decide (1460 < (n : Int)) = true := by simp; omega
      go_wp2_with fail
      go_ret2
      exact GivesBE.of HE.out.2 HE.out.1 (Bs.nil _ _ _) (Nat.le_refl _) (by omega) hL
    · have hlen : n ≤ 1460 := by omega
      have d1 : decide (1460 < (n : Int)) = false := by simp; omega
      obtain ⟨k1, k2⟩ := madeH_ok (n := n) (k := 58) (by omega) HS.out HD.out vs vd (by omega)
      have HE := Lib.hid (show mkE 0 xs = 0 ∧ mkL s d 58 0 xs = headL (madeH n s d 58) ++ xs by
        have e : madeE xs = 0 := by unfold madeE; rw [if_neg (by rw [HL.out]; exact h)]
        unfold mkE mkL
        rw [if_pos rfl, if_pos rfl]
        exact ⟨e, by rw [madeL_yes e, HL.out]⟩)
      have HH := Lib.hid k1
      have HPL := Lib.hid (show putL (madeH n s d 58) = headL (madeH n s d 58) by unfold putL; rw [k2]; rfl)
      have HHL := Lib.hid (headL_length k1)
      obtain ⟨i0, hi, hz0, hz1, hz2⟩ := info_parts info5
      have HI := Lib.hid hi
      have HZ0 := Lib.hid hz0
      have HZ1 := Lib.hid hz1
      have HZ2 := Lib.hid hz2
      clear hi hz0 hz1 hz2 k1 k2 h
      go_wp2_with fail
      refine wp_region_planN (fun y => Blk y 24 w.heap.size s ∧ Blk y 24 (w.heap.size + 1) d) (.rd 0 (.rd 1 (.rd 2 (.rd 4 (.rd 5 (.fork 3 (.rd 6 (.act 7 (.act 8 (.done)))) 7 (.act 3 (.rd 6 (.act 8 (.done)))))))))) (by kernel_rfl) (by kernel_rfl) (by kernel_rfl) ⟨HB0.out, HB1.out⟩ ?_
      have hdr : Low w2 w2.drew := Below.drew (Below.refl _ _)
      replace hL := hL.trans hdr
      replace HB0 : Hid (Blk w2.drew 24 w.heap.size s) := HB0
      replace HB1 : Hid (Blk w2.drew 24 (w.heap.size + 1) d) := HB1
      replace HB2 : Hid (Bs w2.drew w2.drew.heap.size A2 n xs) := Lib.hid HB2.out.drew
      replace hsz : w.heap.size + 2 ≤ w2.drew.heap.size := hsz
      clear hdr
      generalize w2.drew = w3 at *
      iterate 5 (refine walkS_read (v := _) rfl (by rfl) (by
        rintro y ⟨hy1, hy2⟩
        first
          | exact exec_load_addr (g := w.heap.size) rfl hy1 HS.out
          | exact exec_load_addr (g := w.heap.size + 1) rfl hy2 HD.out
          | (go_simp; try rfl)) ?_; simp only [Act.put, List.setIfInBounds_toArray, List.set_cons_zero, List.set_cons_succ])
      have hl0 := HB0.out.lt
      have hl1 := HB1.out.lt
      refine walkS_forkD ?fa ?fb
      case' fb =>
        refine walkS_act rfl (by rfl) (fun K hK => ?_)
        refine wp_alloc_v 26 rfl (headC zeroH) (by kernel_rfl) ?_
        have hla := Low.alloc w3 (.cells (headC zeroH).toArray 26)
        have hZ := BlkV.new w3 26 (headC zeroH)
        refine hK _ _ ⟨HB0.out.below hla hl0, HB1.out.below hla hl1⟩ ?_
        clear hK K
        simp only [Act.put, List.setIfInBounds_toArray, List.set_cons_zero, List.set_cons_succ]
        refine walkS_act rfl (by rfl) (fun K hK => ?_)
        go_simp
        go_invoke
        go_simp
        refine (msgkind_any _ _).mono ?_
        rintro e w4 ⟨rfl, rfl⟩
        go_simp
        refine hK _ _ ⟨HB0.out.below hla hl0, HB1.out.below hla hl1⟩ ?_
        clear hK K
        refine walkS_read (v := _) rfl (by rfl) (by intro y hy; exact exec_build_made y rfl rfl rfl rfl rfl HS.out HD.out) ?_
        simp only [Act.put, List.setIfInBounds_toArray, List.set_cons_zero, List.set_cons_succ]
      case' fa =>
        refine walkS_act rfl (by rfl) (fun K hK => ?_)
        go_simp
        go_invoke
        go_simp
        refine (msgkind_any _ _).mono ?_
        rintro e w4 ⟨rfl, h4⟩
        rw [h4]
        clear h4 w4
        go_simp
        refine hK _ _ ⟨HB0.out, HB1.out⟩ ?_
        clear hK K
        refine walkS_read (v := _) rfl (by rfl) (by intro y hy; exact exec_build_made y rfl rfl rfl rfl rfl HS.out HD.out) ?_
        simp only [Act.put, List.setIfInBounds_toArray, List.set_cons_zero, List.set_cons_succ]
        refine walkS_act rfl (by rfl) (fun K hK => ?_)
        refine wp_alloc_v 26 rfl (headC zeroH) (by kernel_rfl) ?_
        have hla := Low.alloc w3 (.cells (headC zeroH).toArray 26)
        have hZ := BlkV.new w3 26 (headC zeroH)
        refine hK _ _ ⟨HB0.out.below hla hl0, HB1.out.below hla hl1⟩ ?_
        clear hK K
        simp only [Act.put, List.setIfInBounds_toArray, List.set_cons_zero, List.set_cons_succ]
      all_goals
        have hs3 : w3.heap.size + 1 ≤ (w3.alloc (.cells (headC zeroH).toArray 26)).heap.size := by simp
        generalize w3.alloc (.cells (headC zeroH).toArray 26) = w4 at *
        refine walkS_act rfl (by rfl) (fun K hK => ?_)
        refine wp_store_head (.tmp 10) (.tmp 30) rfl w3.heap.size rfl (madeH n s d 58) rfl zeroH hZ rfl rfl HS.out HD.out (fun w5 HH5 hb5 hz5 ho5 => ?_)
        refine hK _ _ ⟨(ho5 _ (by omega)).trans (HB0.out.below hla hl0), (ho5 _ (by omega)).trans (HB1.out.below hla hl1)⟩ ?_
        clear hK K HB0 HB1 hl0 hl1
        simp only [Act.put]
        unfold walkS orThrow
        dsimp only
        have hl5 : Low w3 w5 := Below.trans hla hb5
        have HH5' := Lib.hid HH5
        have HMS : Hid ((madeH n s d 58).s.length = 16) := HS
        have HMD : Hid ((madeH n s d 58).d.length = 16) := HD
        have HB5 := Lib.hid (HB2.out.below' hl5 hl5.size)
        have hL5 := hL.trans hl5
        have hsz5 : w.heap.size + 2 ≤ w5.heap.size := by omega
        obtain ⟨g3, hg3⟩ : ∃ g3, g3 = w3.heap.size := ⟨_, rfl⟩
        rw [← hg3] at HH5' ⊢
        clear HH5 hla hZ hs3 hb5 hz5 ho5 hl5 hg3 HB2 hL hsz
        go_wp2_with (with_reducible refine wpList_load_head rfl (.tmp 10) rfl g3 rfl (madeH n s d 58) HH5'.out HMS.out HMD.out ?_)
        refine (put_any none 0 0 [] (madeH n s d 58) w5 HH.out (by omega) (Bs.nil _ _ _)).mono ?_
        rintro e w6 ⟨v, rfl, g6, rfl, hg6, hk6, hl6, ha6, hB6⟩
        rw [HPL.out, List.nil_append] at hk6 hl6 ha6
        rw [HPL.out, HHL.out]
        have HL6 := Lib.hid (show (headL (madeH n s d 58)).length = 0 + 40 by rw [HHL.out])
        obtain ⟨z, hz⟩ : ∃ z, z = headL (madeH n s d 58) := ⟨_, rfl⟩
        rw [← hz] at HHL HL6 HE hk6 ha6
        have HO6 := Lib.hid (OwnB.ofBlk (base := w.heap.size) (n := 0 + 40) hk6 ha6 (by omega) HL6.out (by simp [maxLen]))
        have HB6 := Lib.hid (HB5.out.below' hB6 hB6.size)
        have hL6 := Low.trans hL5 hB6
        clear hk6 hl6 ha6 hB6 HB5 hL5 hz HH5'
        go_wp2_with (at_builtin; refine wpList_append_bs rfl (.tmp 32) (.tmp 33) _ rfl w.heap.size 5 i0 Tryz.underlying22 HI.out HZ0.out HZ1.out HZ2.out _ (0 + 40) _ z rfl HO6.out _ n c2 w6.heap.size xs rfl HB6.out (by omega) hL6.size ?_; intro A7 c7 w7 hO7 hg7 hx7)
        have hL7 : Low w w7 := hL6.grown hg7 hL6.size (fun k hk => (HO6.out.lt k hk).1)
        have hb7 := hO7.bs (Nat.le_refl _)
        have hc7 := hO7.cap
        go_ret2
        exact GivesBE.of HE.out.2 HE.out.1 hb7 hc7.1 (by have := hc7.2; simp only [maxLen] at this; omega) hL7
  · have HE := Lib.hid (show mkE er xs = er ∧ mkL s d 58 er xs = [] by unfold mkE mkL; rw [if_neg he, if_neg he]; exact ⟨rfl, rfl⟩)
    have hne : (er != 0) = true := by simpa using he
    go_wp2_with fail
    go_ret2
    exact GivesBE.of HE.out.2 HE.out.1 (Bs.nil _ _ _) (Nat.le_refl _) (by omega) hL

set_option maxRecDepth 100000 in
set_option maxHeartbeats 3200000 in
theorem pktcp0_any (s d : List Int) (t : Sg) (w : World) (hs : s.length = 16) (hd : d.length = 16) (vs : AllB s) (vd : AllB d) (ht : t.ok w w.heap.size) :
    Calls Tryz.prog 13 #[addrV s, addrV d, segV t] w (GivesBE w (tcpL s d t.v) (tcpE s d t.v)) := by
  have HMK := Lib.hid (tcp_mk s d t.v)
  unfold addrV segV
  have HT := Lib.hid ht
  have HS := Lib.hid hs
  have HD := Lib.hid hd
  have HB0 := Lib.hid (box_first w s d 24 24)
  have HB1 := Lib.hid (box_second w s d 24 24)
  have hL := low2 w s d 24 24
  have hz2 : ((w.alloc (.cells (cellsB s).toArray 24)).alloc (.cells (cellsB d).toArray 24)).heap.size = w.heap.size + 2 := by simp
  clear hs hd ht
  go_enter Tryz.func13, Tryz.ntmps13
  go_wp2_with ((with_reducible refine wpList_box_seg rfl (.tmp 2) rfl t rfl ?_); intro w3 HK hl3 hz3; refine Hid.out ?_)
  refine Lib.hid ?_
  rw [hz2] at HK hz3
  obtain ⟨HB0, HB1⟩ := two_stay HB0 HB1 hl3
  replace hL := hL.trans hl3
  replace HK := Lib.hid HK
  clear hl3 hz2
  go_wp2_with (first
    | (with_reducible refine wpList_load_seg rfl (.tmp 5) rfl (w.heap.size + 2) rfl t HK.out ?_)
    | ((with_reducible refine wpList_alloc_v rfl 91 rfl (segC zeroS) sgm_zero ?_); intro w4 HZ hl4 hz4; refine Hid.out ?_))
  refine Lib.hid ?_
  rw [hz3] at HZ
  obtain ⟨HB0, HB1⟩ := two_stay HB0 HB1 hl4
  replace hL := hL.trans hl4
  replace HZ := Lib.hid HZ
  clear hl4 HK
  go_wp2_with ((refine wpList_store_v rfl 91 (.tmp 8) (.tmp 9) rfl (w.heap.size + 2 + 1) rfl (segC t) rfl _ (segC zeroS) HZ.out rfl (by rw [sgm_size]; rfl) (segC_one t) ?_); intro w5 HG hb5 hz5; refine Hid.out ?_)
  refine Lib.hid ?_
  have hB5 : Low w w5 := Below.trans hL (hb5.mono (by omega))
  replace HB0 := Lib.hid (HB0.out.below hb5 (by omega))
  replace HB1 := Lib.hid (HB1.out.below hb5 (by omega))
  replace HG := Lib.hid HG
  clear HZ hb5 hz5 hz4 hz3 hL
  go_wp2_with (first
    | (with_reducible refine wpList_load_addr rfl (.tmp 3) rfl w.heap.size rfl _ s HB0.out HS.out ?_)
    | (with_reducible refine wpList_load_addr rfl (.tmp 4) rfl (w.heap.size + 1) rfl _ d HB1.out HD.out ?_))
  refine (madeseg_any (w.heap.size + 2 + 1) s d t w5 HS.out HD.out vs vd (HT.out.low hB5) HG.out).mono ?_
  rintro e w6 ⟨A6, c6, rfl, hb6, hc6, hB6⟩
  have HB6 := Lib.hid hb6
  have HC6 := Lib.hid hc6
  have hL := Low.trans hB5 hB6
  generalize mkE (canS t.v) (putS (sealB s d t.v)) = er at *
  generalize mkL s d 6 (canS t.v) (putS (sealB s d t.v)) = ys at *
  obtain ⟨q, hq⟩ : ∃ q, q = ys.length := ⟨_, rfl⟩
  rw [← hq] at HB6 HC6 ⊢
  clear hb6 hc6 hB6
  go_wp2_with fail
  go_ret2
  subst hq
  exact GivesBE.of HMK.out.2 HMK.out.1 HB6.out HC6.out.1 HC6.out.2 hL

set_option maxRecDepth 100000 in
set_option maxHeartbeats 3200000 in
theorem pkicmp0_any (s d : List Int) (t : Mg) (w : World) (hs : s.length = 16) (hd : d.length = 16) (vs : AllB s) (vd : AllB d) (ht : t.ok w w.heap.size) (hbm : t.bm ≤ 140737488347136) :
    Calls Tryz.prog 15 #[addrV s, addrV d, msgV t] w (GivesBE w (icmpL s d t.v) (icmpE s d t.v)) := by
  have HMK := Lib.hid (icmp_mk s d t.v)
  unfold addrV msgV
  have HT := Lib.hid ht
  have HS := Lib.hid hs
  have HD := Lib.hid hd
  have HB0 := Lib.hid (box_first w s d 24 24)
  have HB1 := Lib.hid (box_second w s d 24 24)
  have hL := low2 w s d 24 24
  have hz2 : ((w.alloc (.cells (cellsB s).toArray 24)).alloc (.cells (cellsB d).toArray 24)).heap.size = w.heap.size + 2 := by simp
  clear hs hd ht
  go_enter Tryz.func15, Tryz.ntmps15
  go_wp2_with ((with_reducible refine wpList_box_msg rfl (.tmp 2) rfl t rfl ?_); intro w3 HK hl3 hz3; refine Hid.out ?_)
  refine Lib.hid ?_
  rw [hz2] at HK hz3
  obtain ⟨HB0, HB1⟩ := two_stay HB0 HB1 hl3
  replace hL := hL.trans hl3
  replace HK := Lib.hid HK
  clear hl3 hz2
  go_wp2_with (first
    | (with_reducible refine wpList_load_msg rfl (.tmp 5) rfl (w.heap.size + 2) rfl t HK.out ?_)
    | ((with_reducible refine wpList_alloc_v rfl 97 rfl (msgC zeroM) mgm_zero ?_); intro w4 HZ hl4 hz4; refine Hid.out ?_))
  refine Lib.hid ?_
  rw [hz3] at HZ
  obtain ⟨HB0, HB1⟩ := two_stay HB0 HB1 hl4
  replace hL := hL.trans hl4
  replace HZ := Lib.hid HZ
  clear hl4 HK
  go_wp2_with ((refine wpList_store_v rfl 97 (.tmp 8) (.tmp 9) rfl (w.heap.size + 2 + 1) rfl (msgC t) rfl _ (msgC zeroM) HZ.out rfl (by rw [mgm_size]; rfl) (msgC_one t) ?_); intro w5 HG hb5 hz5; refine Hid.out ?_)
  refine Lib.hid ?_
  have hB5 : Low w w5 := Below.trans hL (hb5.mono (by omega))
  replace HB0 := Lib.hid (HB0.out.below hb5 (by omega))
  replace HB1 := Lib.hid (HB1.out.below hb5 (by omega))
  replace HG := Lib.hid HG
  clear HZ hb5 hz5 hz4 hz3 hL
  go_wp2_with (first
    | (with_reducible refine wpList_load_addr rfl (.tmp 3) rfl w.heap.size rfl _ s HB0.out HS.out ?_)
    | (with_reducible refine wpList_load_addr rfl (.tmp 4) rfl (w.heap.size + 1) rfl _ d HB1.out HD.out ?_))
  refine (mademsg_any (w.heap.size + 2 + 1) s d t w5 HS.out HD.out vs vd (HT.out.low hB5) hbm HG.out).mono ?_
  rintro e w6 ⟨A6, c6, rfl, hb6, hc6, hB6⟩
  have HB6 := Lib.hid hb6
  have HC6 := Lib.hid hc6
  have hL := Low.trans hB5 hB6
  generalize mkE (okE t.v) (putM s d t.v) = er at *
  generalize mkL s d 58 (okE t.v) (putM s d t.v) = ys at *
  obtain ⟨q, hq⟩ : ∃ q, q = ys.length := ⟨_, rfl⟩
  rw [← hq] at HB6 HC6 ⊢
  clear hb6 hc6 hB6
  go_wp2_with fail
  go_ret2
  subst hq
  exact GivesBE.of HMK.out.2 HMK.out.1 HB6.out HC6.out.1 HC6.out.2 hL

set_option maxRecDepth 100000 in
set_option maxHeartbeats 3200000 in
theorem pkreason_any : PktReasons := by
  intro x w hx
  have HR := Lib.hid (show reasonK x = if x = 0 then 0 else if x = 3 then 1 else if x = 6 then 3 else if x = 7 then 4 else if x = 4 then 10 else if x = 13 then 9 else 2 from rfl)
  generalize reasonK x = k at *
  go_enter Tryz.func10, Tryz.ntmps10
  by_cases h0 : x = 0
  · have hk := HR.out
    rw [if_pos h0] at hk
    subst h0 hk
    go_wp2_with fail
    go_ret
    exact ⟨rfl, Below.refl _ _⟩
  by_cases h3 : x = 3
  · have hk := HR.out
    rw [if_neg h0, if_pos h3] at hk
    subst h3 hk
    go_wp2_with fail
    go_ret
    exact ⟨rfl, Below.refl _ _⟩
  by_cases h6 : x = 6
  · have hk := HR.out
    rw [if_neg h0, if_neg h3, if_pos h6] at hk
    subst h6 hk
    go_wp2_with fail
    go_ret
    exact ⟨rfl, Below.refl _ _⟩
  by_cases h7 : x = 7
  · have hk := HR.out
    rw [if_neg h0, if_neg h3, if_neg h6, if_pos h7] at hk
    subst h7 hk
    go_wp2_with fail
    go_ret
    exact ⟨rfl, Below.refl _ _⟩
  by_cases h4 : x = 4
  · have hk := HR.out
    rw [if_neg h0, if_neg h3, if_neg h6, if_neg h7, if_pos h4] at hk
    subst h4 hk
    go_wp2_with fail
    go_ret
    exact ⟨rfl, Below.refl _ _⟩
  by_cases h13 : x = 13
  · have hk := HR.out
    rw [if_neg h0, if_neg h3, if_neg h6, if_neg h7, if_neg h4, if_pos h13] at hk
    subst h13 hk
    go_wp2_with fail
    go_ret
    exact ⟨rfl, Below.refl _ _⟩
  · have hk := HR.out
    rw [if_neg h0, if_neg h3, if_neg h6, if_neg h7, if_neg h4, if_neg h13] at hk
    subst hk
    have b0 : (x == 0) = false := by simpa using h0
    have b3 : (x == 3) = false := by simpa using h3
    have b6 : (x == 6) = false := by simpa using h6
    have b7 : (x == 7) = false := by simpa using h7
    have b4 : (x == 4) = false := by simpa using h4
    have b13 : (x == 13) = false := by simpa using h13
    go_wp2_with fail
    go_ret
    exact ⟨rfl, Below.refl _ _⟩
theorem pktcp_any : PktTcps := fun s d t w hs hd vs vd ht => pktcp0_any s d t w hs hd vs vd ht
theorem pkicmp_any : PktIcmps := fun s d m w hs hd vs vd hm hbm => pkicmp0_any s d m w hs hd vs vd hm hbm
end Go.Proofs.YtdpbhhoabnmbpaaGreat
